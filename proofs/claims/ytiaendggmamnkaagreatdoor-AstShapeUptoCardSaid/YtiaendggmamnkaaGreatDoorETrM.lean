/-
  Trees with two lists inside each element, pure: the order in which they are visited, with numbers and levels; what a stack of lists still holds; equality by a stack of pairs; copies.
-/
import Derived.Lib.Hide
namespace Go.Proofs.YtiaendggmamnkaaGreatDoor

/-- An element with the two lists inside it. -/
inductive Tr (β : Type) where
  | mk (val : β) (fst snd : List (Tr β))
namespace Tr
variable {β : Type}
def val : Tr β → β | .mk v _ _ => v
def fst : Tr β → List (Tr β) | .mk _ a _ => a
def snd : Tr β → List (Tr β) | .mk _ _ b => b
mutual
/-- How many elements there are in a tree. -/
def sz : Tr β → Nat
  | .mk _ a b => 1 + szL a + szL b
def szL : List (Tr β) → Nat
  | [] => 0
  | t :: r => sz t + szL r
end
mutual
/-- A tree's elements with their levels, each before those of the lists inside it. -/
def nds (l : Nat) : Tr β → List (Nat × Tr β)
  | .mk v a b => (l, .mk v a b) :: (ndsL (l + 1) a ++ ndsL (l + 1) b)
def ndsL (l : Nat) : List (Tr β) → List (Nat × Tr β)
  | [] => []
  | t :: r => nds l t ++ ndsL l r
end
mutual
/-- How deep a tree is. -/
def dp : Tr β → Nat
  | .mk _ a b => 1 + max (dpL a) (dpL b)
def dpL : List (Tr β) → Nat
  | [] => 0
  | t :: r => max (dp t) (dpL r)
end
mutual
theorem ndsLen (l : Nat) : ∀ t : Tr β, (nds l t).length = sz t
  | .mk v a b => by
    rw [nds, sz, List.length_cons, List.length_append, ndsLLen (l + 1) a, ndsLLen (l + 1) b]; omega
theorem ndsLLen (l : Nat) : ∀ ts : List (Tr β), (ndsL l ts).length = szL ts
  | [] => by rw [ndsL, szL]; rfl
  | t :: r => by rw [ndsL, szL, List.length_append, ndsLen l t, ndsLLen l r]
end
theorem szPos : ∀ t : Tr β, 0 < sz t
  | .mk _ _ _ => by rw [sz]; omega
/-- What a stack still holds; the last list that was pushed stands first. -/
def flat : List (List (Tr β) × Nat) → List (Nat × Tr β)
  | [] => []
  | (ts, l) :: S => ndsL l ts ++ flat S
/-- A list is pushed if it holds anything. -/
def psh (ts : List (Tr β)) (l : Nat) (S : List (List (Tr β) × Nat)) : List (List (Tr β) × Nat) := if ts = [] then S else (ts, l) :: S
theorem flatPsh (ts : List (Tr β)) (l : Nat) (S : List (List (Tr β) × Nat)) : flat (psh ts l S) = ndsL l ts ++ flat S := by
  unfold psh
  cases ts with
  | nil => rw [if_pos rfl, ndsL, List.nil_append]
  | cons t r => rw [if_neg (by simp), flat]
/-- One step of a visit. -/
theorem flatStep (t : Tr β) (r : List (Tr β)) (l : Nat) (S : List (List (Tr β) × Nat)) :
    flat ((t :: r, l) :: S) = (l, t) :: flat (psh t.fst (l + 1) (psh t.snd (l + 1) (psh r l S))) := by
  cases t with
  | mk v a b =>
    rw [flatPsh, flatPsh, flatPsh, flat, ndsL, nds]
    simp [fst, snd, List.append_assoc]
/-- Of each list on a stack something is left. -/
def Full (S : List (List (Tr β) × Nat)) : Prop := ∀ q ∈ S, q.1 ≠ []
theorem fullTail {q : List (Tr β) × Nat} {S : List (List (Tr β) × Nat)} (h : Full (q :: S)) : Full S := fun x hx => h x (List.mem_cons_of_mem _ hx)
theorem flatNil {S : List (List (Tr β) × Nat)} (h : Full S) : flat S = [] ↔ S = [] := by
  cases S with
  | nil => exact ⟨fun _ => rfl, fun _ => rfl⟩
  | cons q S =>
    obtain ⟨ts, l⟩ := q
    cases ts with
    | nil => exact absurd rfl (h _ (List.mem_cons_self))
    | cons t r => rw [flatStep]; simp
/-- A stack never holds more lists than elements are left. -/
theorem stackLe : ∀ {S : List (List (Tr β) × Nat)}, Full S → S.length ≤ (flat S).length
  | [], _ => by simp [flat]
  | (ts, l) :: S, h => by
    have h1 := stackLe (fullTail h)
    cases ts with
    | nil => exact absurd rfl (h _ (List.mem_cons_self))
    | cons t r =>
      rw [flat, List.length_append, List.length_cons, ndsL, List.length_append, ndsLen]
      have := szPos t
      omega
/-- The depth is the greatest level. -/
def top : List (Nat × Tr β) → Nat
  | [] => 0
  | (l, _) :: r => max l (top r)
theorem topApp (x y : List (Nat × Tr β)) : top (x ++ y) = max (top x) (top y) := by
  induction x with
  | nil => simp [top]
  | cons q r ih => obtain ⟨l, t⟩ := q; rw [List.cons_append, top, top, ih, Nat.max_assoc]
mutual
theorem topNds (l : Nat) : ∀ t : Tr β, top (nds (l + 1) t) = l + dp t
  | .mk v a b => by
    rw [nds, top, topApp, dp, topNdsL (l + 1) a, topNdsL (l + 1) b]
    by_cases ha : a = [] <;> by_cases hb : b = []
    · subst ha hb; simp [dpL]
    · subst ha; simp [dpL, hb]; omega
    · subst hb; simp [dpL, ha]; omega
    · simp [ha, hb]; omega
theorem topNdsL (l : Nat) : ∀ ts : List (Tr β), top (ndsL (l + 1) ts) = if ts = [] then 0 else l + dpL ts
  | [] => by rw [ndsL, if_pos rfl]; rfl
  | t :: r => by
    rw [ndsL, topApp, topNds l t, topNdsL l r, dpL]
    by_cases hr : r = []
    · subst hr; simp [dpL]
    · rw [if_neg hr, if_neg (by simp)]; omega
end
theorem topDp (t : Tr β) : top (ndsL 1 [t]) = dp t := by rw [show (1 : Nat) = 0 + 1 from rfl, topNdsL, if_neg (by simp), dpL, dpL]; omega
theorem eqIff (t u : Tr β) : t = u ↔ t.val = u.val ∧ t.fst = u.fst ∧ t.snd = u.snd := by
  cases t; cases u
  simp [val, fst, snd]
/-- Whether the pairs of lists on a stack are equal. -/
def Same (S : List (List (Tr β) × List (Tr β))) : Prop := ∀ q ∈ S, q.1 = q.2
def psh2 (a b : List (Tr β)) (S : List (List (Tr β) × List (Tr β))) : List (List (Tr β) × List (Tr β)) := if a = [] ∧ b = [] then S else (a, b) :: S
theorem samePsh (a b : List (Tr β)) (S : List (List (Tr β) × List (Tr β))) : Same (psh2 a b S) ↔ a = b ∧ Same S := by
  unfold psh2
  split
  · rename_i h
    obtain ⟨rfl, rfl⟩ := h
    exact ⟨fun q => ⟨rfl, q⟩, fun q => q.2⟩
  · exact ⟨fun q => ⟨q _ List.mem_cons_self, fun x hx => q x (List.mem_cons_of_mem _ hx)⟩, fun ⟨q, r⟩ x hx => by
      rcases List.mem_cons.1 hx with rfl | hx
      · exact q
      · exact r x hx⟩
/-- The lists inside the first k elements of two lists, on a stack. -/
def pshK (A B : List (Tr β)) (S : List (List (Tr β) × List (Tr β))) : Nat → List (List (Tr β) × List (Tr β))
  | 0 => S
  | k + 1 => match A[k]?, B[k]? with
    | some x, some y => psh2 x.snd y.snd (psh2 x.fst y.fst (pshK A B S k))
    | _, _ => pshK A B S k
theorem samePshK {A B : List (Tr β)} {S : List (List (Tr β) × List (Tr β))} (hl : A.length = B.length) : ∀ k, k ≤ A.length →
    (Same (pshK A B S k) ↔ (∀ j, j < k → ∀ (ha : j < A.length) (hb : j < B.length), A[j].fst = B[j].fst ∧ A[j].snd = B[j].snd) ∧ Same S)
  | 0, _ => ⟨fun h => ⟨fun j hj => absurd hj (by omega), h⟩, fun h => h.2⟩
  | k + 1, hk => by
    have ih := samePshK (S := S) hl k (by omega)
    have ha : k < A.length := by omega
    have hb : k < B.length := by omega
    rw [pshK, List.getElem?_eq_getElem ha, List.getElem?_eq_getElem hb]
    simp only
    rw [samePsh, samePsh, ih]
    constructor
    · rintro ⟨h1, h2, h3, h4⟩
      refine ⟨fun j hj ja jb => ?_, h4⟩
      by_cases e : j = k
      · subst e; exact ⟨h2, h1⟩
      · exact h3 j (by omega) ja jb
    · rintro ⟨h3, h4⟩
      exact ⟨(h3 k (by omega) ha hb).2, (h3 k (by omega) ha hb).1, fun j hj ja jb => h3 j (by omega) ja jb, h4⟩
theorem sameStep {A B : List (Tr β)} {S : List (List (Tr β) × List (Tr β))} (hl : A.length = B.length) (hv : ∀ j (ha : j < A.length) (hb : j < B.length), A[j].val = B[j].val) :
    Same ((A, B) :: S) ↔ Same (pshK A B S A.length) := by
  rw [samePshK hl A.length (Nat.le_refl _)]
  constructor
  · intro h
    have e : A = B := h _ List.mem_cons_self
    subst e
    exact ⟨fun j _ _ _ => ⟨rfl, rfl⟩, fun x hx => h x (List.mem_cons_of_mem _ hx)⟩
  · rintro ⟨h, hs⟩ x hx
    rcases List.mem_cons.1 hx with rfl | hx
    · exact List.ext_getElem hl fun j ha hb => (eqIff _ _).2 ⟨hv j ha hb, (h j ha ha hb).1, (h j ha ha hb).2⟩
    · exact hs x hx
theorem sameNot {A B : List (Tr β)} {S : List (List (Tr β) × List (Tr β))} (h : ¬ (A.length = B.length ∧ ∀ j (ha : j < A.length) (hb : j < B.length), A[j].val = B[j].val)) : ¬ Same ((A, B) :: S) := by
  intro hs
  have e : A = B := hs _ List.mem_cons_self
  subst e
  exact h ⟨rfl, fun _ _ _ => rfl⟩
end Tr
end Go.Proofs.YtiaendggmamnkaaGreatDoor

namespace Go.Proofs.YtiaendggmamnkaaGreatDoor

namespace Tr
variable {β : Type}
theorem szFs (t : Tr β) : sz t = 1 + szL t.fst + szL t.snd := by
  cases t
  rfl
theorem szTake : ∀ (l : List (Tr β)) (k : Nat) (hk : k < l.length), szL (l.take (k + 1)) = szL (l.take k) + sz l[k]
  | t :: r, 0, _ => by simp [szL]
  | t :: r, k + 1, hk => by
    have := szTake r k (by simpa using hk)
    simp only [List.take_succ_cons, szL, List.getElem_cons_succ]
    omega
end Tr
end Go.Proofs.YtiaendggmamnkaaGreatDoor
