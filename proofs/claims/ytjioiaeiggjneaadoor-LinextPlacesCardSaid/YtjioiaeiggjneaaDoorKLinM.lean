/-
  Plain facts about linear extensions of finite relations: sets of numbers as bit masks, the numbers that can follow, the extensions in order, ranks. Without any program.
-/
import Derived.Test.YtjioiaeiggjneaaDoorKRelDist
namespace Go.Proofs.YtjioiaeiggjneaaDoor

/-- s with a. -/
def addS (s a : Nat) : Nat := s ||| 2 ^ a
theorem addSBit {s a i : Nat} : (addS s a).testBit i = (s.testBit i || decide (a = i)) := by
  unfold addS
  rw [Nat.testBit_or, Nat.testBit_two_pow]
/-- a can follow s: it is not in s, and all that stand before it are. -/
def canL (N : Nat) (f : Nat → Nat → Bool) (s a : Nat) : Bool := !s.testBit a && (List.range N).all fun p => !f p a || s.testBit p
theorem canIff {N : Nat} {f : Nat → Nat → Bool} {s a : Nat} : canL N f s a = true ↔ s.testBit a = false ∧ ∀ p, p < N → f p a = true → s.testBit p = true := by
  unfold canL
  rw [Bool.and_eq_true, Bool.not_eq_true', List.all_eq_true]
  constructor
  · rintro ⟨h1, h2⟩
    refine ⟨h1, fun p hp hf => ?_⟩
    have := h2 p (List.mem_range.2 hp)
    rw [hf] at this
    simpa using this
  · rintro ⟨h1, h2⟩
    refine ⟨h1, fun p hp => ?_⟩
    cases hf : f p a
    · rfl
    · rw [h2 p (List.mem_range.1 hp) hf]; rfl
/-- The numbers that can follow s, in order. -/
def nxtL (N : Nat) (f : Nat → Nat → Bool) (s : Nat) : List Nat := (List.range N).filter (canL N f s)
theorem nxtMem {N : Nat} {f : Nat → Nat → Bool} {s a : Nat} : a ∈ nxtL N f s ↔ a < N ∧ canL N f s a = true := by unfold nxtL; rw [List.mem_filter, List.mem_range]
theorem nxtNodup (N : Nat) (f : Nat → Nat → Bool) (s : Nat) : (nxtL N f s).Nodup := List.nodup_range.filter _
theorem nxtSorted (N : Nat) (f : Nat → Nat → Bool) (s : Nat) : (nxtL N f s).Pairwise (· < ·) := List.pairwise_lt_range.filter _
/-- The extensions from s on by k numbers, in order. -/
def exts (N : Nat) (f : Nat → Nat → Bool) : Nat → Nat → List (List Nat)
  | 0, _ => [[]]
  | k + 1, s => (nxtL N f s).flatMap fun a => (exts N f k (addS s a)).map fun t => a :: t
/-- How many. -/
def ways (N : Nat) (f : Nat → Nat → Bool) (k s : Nat) : Nat := (exts N f k s).length
theorem waysZero {N : Nat} {f : Nat → Nat → Bool} {s : Nat} : ways N f 0 s = 1 := rfl
theorem waysSucc {N : Nat} {f : Nat → Nat → Bool} {k s : Nat} : ways N f (k + 1) s = ((nxtL N f s).map fun a => ways N f k (addS s a)).sum := by
  unfold ways
  rw [exts, List.length_flatMap]
  congr 1
  exact List.map_congr_left fun a _ => by rw [List.length_map]
/-- Each number of the list can follow those ahead of it. -/
def okL (N : Nat) (f : Nat → Nat → Bool) : Nat → List Nat → Bool
  | _, [] => true
  | s, a :: t => decide (a < N) && canL N f s a && okL N f (addS s a) t
theorem extsMem {N : Nat} {f : Nat → Nat → Bool} : ∀ {k s : Nat} {l : List Nat}, l ∈ exts N f k s ↔ l.length = k ∧ okL N f s l = true
  | 0, s, l => by
    rw [exts, List.mem_singleton]
    constructor
    · rintro rfl; exact ⟨rfl, rfl⟩
    · rintro ⟨h, _⟩; exact List.eq_nil_of_length_eq_zero h
  | k + 1, s, l => by
    rw [exts, List.mem_flatMap]
    constructor
    · rintro ⟨a, ha, hl⟩
      obtain ⟨t, ht, rfl⟩ := List.mem_map.1 hl
      obtain ⟨h1, h2⟩ := extsMem.1 ht
      obtain ⟨h3, h4⟩ := nxtMem.1 ha
      refine ⟨by rw [List.length_cons, h1], ?_⟩
      rw [okL, h2, h4, decide_eq_true h3]; rfl
    · rintro ⟨h1, h2⟩
      match l, h1 with
      | a :: t, h1 =>
        rw [okL, Bool.and_eq_true, Bool.and_eq_true, decide_eq_true_iff] at h2
        exact ⟨a, nxtMem.2 h2.1, List.mem_map.2 ⟨t, extsMem.2 ⟨by simpa using h1, h2.2⟩, rfl⟩⟩

/-! Ranks. -/
/-- How many extensions there are ahead of those that begin with a. -/
def skp (g : Nat → Nat) (L : List Nat) (a : Nat) : Nat := ((L.takeWhile fun b => b != a).map g).sum
def rnk (N : Nat) (f : Nat → Nat → Bool) : Nat → Nat → List Nat → Nat
  | k + 1, s, a :: t => skp (fun b => ways N f k (addS s b)) (nxtL N f s) a + rnk N f k (addS s a) t
  | _, _, _ => 0
/-- Which number comes first in the extension with a rank, and the rank that is left. -/
def pck (g : Nat → Nat) : List Nat → Nat → Option (Nat × Nat)
  | [], _ => none
  | a :: L, i => if i < g a then some (a, i) else pck g L (i - g a)
theorem pckGet {α : Type} (h : Nat → List (List α)) (c : Nat → List α → List α) : ∀ (L : List Nat) (i : Nat), (L.flatMap fun a => (h a).map (c a))[i]? = (pck (fun a => (h a).length) L i).bind fun p => ((h p.1)[p.2]?).map (c p.1)
  | [], i => by simp [pck]
  | a :: L, i => by
    rw [List.flatMap_cons, pck]
    by_cases hi : i < (h a).length
    · rw [if_pos hi, List.getElem?_append_left (by simpa using hi), List.getElem?_map]; rfl
    · rw [if_neg hi, List.getElem?_append_right (by simpa using Nat.not_lt.1 hi), List.length_map, pckGet h c L]
theorem pckSkp (g : Nat → Nat) : ∀ (L : List Nat), L.Nodup → ∀ (i a j : Nat), pck g L i = some (a, j) → a ∈ L ∧ j < g a ∧ i = skp g L a + j
  | [], _, i, a, j, h => by cases h
  | b :: L, hn, i, a, j, h => by
    rw [List.nodup_cons] at hn
    rw [pck] at h
    by_cases hi : i < g b
    · rw [if_pos hi] at h
      injection h with h
      injection h with h1 h2
      subst h1; subst h2
      refine ⟨by simp, hi, ?_⟩
      unfold skp
      rw [List.takeWhile_cons_of_neg (by simp)]
      simp
    · rw [if_neg hi] at h
      obtain ⟨h1, h2, h3⟩ := pckSkp g L hn.2 _ a j h
      have hne : b ≠ a := fun e => hn.1 (e ▸ h1)
      refine ⟨List.mem_cons_of_mem _ h1, h2, ?_⟩
      unfold skp at h3 ⊢
      rw [List.takeWhile_cons_of_pos (by simpa using hne), List.map_cons, List.sum_cons]
      omega
/-- The rank of the i-th extension is i. -/
theorem rnkGet {N : Nat} {f : Nat → Nat → Bool} : ∀ {k s i : Nat} {l : List Nat}, (exts N f k s)[i]? = some l → rnk N f k s l = i
  | 0, s, i, l, h => by
    rw [exts] at h
    have : i = 0 := by
      have := (List.getElem?_eq_some_iff.1 h).1
      simpa using this
    subst this
    simp at h
    subst h
    rfl
  | k + 1, s, i, l, h => by
    rw [exts, pckGet (fun a => exts N f k (addS s a)) (fun a t => a :: t)] at h
    cases hp : pck (fun a => (exts N f k (addS s a)).length) (nxtL N f s) i with
    | none => rw [hp] at h; cases h
    | some p =>
      obtain ⟨a, j⟩ := p
      rw [hp] at h
      simp only [Option.bind_some, Option.map_eq_some_iff] at h
      obtain ⟨t, ht, rfl⟩ := h
      obtain ⟨_, _, h3⟩ := pckSkp _ _ (nxtNodup N f s) _ _ _ hp
      rw [rnk, rnkGet ht]
      exact h3.symm
/-- The extension with a rank. -/
def nthL (N : Nat) (f : Nat → Nat → Bool) : Nat → Nat → Nat → List Nat
  | 0, _, _ => []
  | k + 1, s, i => match pck (fun a => ways N f k (addS s a)) (nxtL N f s) i with
    | none => []
    | some (a, j) => a :: nthL N f k (addS s a) j
theorem nthGet {N : Nat} {f : Nat → Nat → Bool} : ∀ {k s i : Nat} {l : List Nat}, (exts N f k s)[i]? = some l → nthL N f k s i = l
  | 0, s, i, l, h => by
    rw [exts] at h
    have : i = 0 := by
      have := (List.getElem?_eq_some_iff.1 h).1
      simpa using this
    subst this
    simp at h
    subst h
    rfl
  | k + 1, s, i, l, h => by
    rw [exts, pckGet (fun a => exts N f k (addS s a)) (fun a t => a :: t)] at h
    cases hp : pck (fun a => (exts N f k (addS s a)).length) (nxtL N f s) i with
    | none => rw [hp] at h; cases h
    | some p =>
      obtain ⟨a, j⟩ := p
      rw [hp] at h
      simp only [Option.bind_some, Option.map_eq_some_iff] at h
      obtain ⟨t, ht, rfl⟩ := h
      have hp' : pck (fun a => ways N f k (addS s a)) (nxtL N f s) i = some (a, j) := hp
      rw [nthL, hp']
      show a :: nthL N f k (addS s a) j = a :: t
      rw [nthGet ht]

/-! An acyclic relation has extensions. -/
theorem canSome {N : Nat} {f : Nat → Nat → Bool} (hac : acyT N (tcT N f)) (s : Nat) : ∀ (k a : Nat), a < N → s.testBit a = false → (List.range N).countP (fun x => !s.testBit x && tcT N f x a) ≤ k → ∃ b, b < N ∧ canL N f s b = true := by
  intro k
  induction k using Nat.strongRecOn with
  | _ k ih =>
    intro a ha hs hk
    by_cases hc : canL N f s a = true
    · exact ⟨a, ha, hc⟩
    · have : ∃ p, p < N ∧ f p a = true ∧ s.testBit p = false := by
        by_cases hx : ∃ p, p < N ∧ f p a = true ∧ s.testBit p = false
        · exact hx
        · exact absurd (canIff.2 ⟨hs, fun p hp hf => by
            cases e : s.testBit p
            · exact absurd ⟨p, hp, hf, e⟩ hx
            · rfl⟩) hc
      obtain ⟨p, hp, hf, hsp⟩ := this
      have hlt : (List.range N).countP (fun x => !s.testBit x && tcT N f x p) < (List.range N).countP (fun x => !s.testBit x && tcT N f x a) := by
        refine countLt (fun x hx h => ?_) ⟨p, List.mem_range.2 hp, by rw [hsp, tcOne hf]; rfl, by rw [hac p hp, Bool.and_false]⟩
        rw [Bool.and_eq_true] at h ⊢
        exact ⟨h.1, tcTrans hp h.2 (tcOne hf)⟩
      exact ih _ (Nat.lt_of_lt_of_le hlt hk) p hp hsp (Nat.le_refl _)
/-- How many numbers below N are not in s. -/
def outS (N s : Nat) : Nat := (List.range N).countP fun a => !s.testBit a
theorem outAdd {N s a : Nat} (ha : a < N) (hs : s.testBit a = false) : outS N (addS s a) + 1 = outS N s := by
  unfold outS
  have key : ∀ (l : List Nat), l.Nodup → a ∈ l → (l.countP fun b => !(addS s a).testBit b) + 1 = l.countP fun b => !s.testBit b := by
    intro l hl ha
    induction l with
    | nil => cases ha
    | cons x l ih =>
      rw [List.nodup_cons] at hl
      rw [List.countP_cons, List.countP_cons, addSBit]
      by_cases e : a = x
      · subst e
        have h2 : (l.countP fun b => !(addS s a).testBit b) = l.countP fun b => !s.testBit b := by
          refine List.countP_congr fun b hb => ?_
          rw [addSBit, decide_eq_false (show ¬ a = b from fun e => hl.1 (by rw [e]; exact hb)), Bool.or_false]
        rw [h2, hs]
        simp
      · have hm : a ∈ l := by
          rcases List.mem_cons.1 ha with h | h
          · exact absurd h e
          · exact h
        have := ih hl.2 hm
        rw [decide_eq_false e, Bool.or_false]
        omega
  exact key _ List.nodup_range (List.mem_range.2 ha)
theorem outZero {N : Nat} : outS N 0 = N := by
  unfold outS
  rw [List.countP_eq_length.2 (by simp)]
  simp
theorem nxtSome {N : Nat} {f : Nat → Nat → Bool} (hac : acyT N (tcT N f)) {s : Nat} (h : 0 < outS N s) : nxtL N f s ≠ [] := by
  unfold outS at h
  obtain ⟨a, h1, h2⟩ := List.countP_pos_iff.1 h
  obtain ⟨b, h3, h4⟩ := canSome hac s _ a (List.mem_range.1 h1) (by simpa using h2) (Nat.le_refl _)
  intro e
  have := nxtMem.2 ⟨h3, h4⟩
  rw [e] at this
  cases this
theorem waysPos {N : Nat} {f : Nat → Nat → Bool} (hac : acyT N (tcT N f)) : ∀ {k s : Nat}, k ≤ outS N s → 0 < ways N f k s
  | 0, _, _ => Nat.one_pos
  | k + 1, s, h => by
    rcases e : nxtL N f s with _ | ⟨a, L⟩
    · exact absurd e (nxtSome hac (by omega))
    · have ha : a ∈ nxtL N f s := by rw [e]; simp
      obtain ⟨h1, h2⟩ := nxtMem.1 ha
      have := outAdd h1 (canIff.1 h2).1
      have := waysPos hac (k := k) (s := addS s a) (by omega)
      rw [waysSucc, e, List.map_cons, List.sum_cons]
      omega
/-- The first extension: always the smallest number that can follow. -/
def fstL (N : Nat) (f : Nat → Nat → Bool) : Nat → Nat → List Nat
  | 0, _ => []
  | k + 1, s => match nxtL N f s with
    | [] => []
    | a :: _ => a :: fstL N f k (addS s a)
theorem fstGet {N : Nat} {f : Nat → Nat → Bool} (hac : acyT N (tcT N f)) : ∀ {k s : Nat}, k ≤ outS N s → (exts N f k s)[0]? = some (fstL N f k s)
  | 0, _, _ => rfl
  | k + 1, s, h => by
    rcases e : nxtL N f s with _ | ⟨a, L⟩
    · exact absurd e (nxtSome hac (by omega))
    · have ha : a ∈ nxtL N f s := by rw [e]; simp
      obtain ⟨h1, h2⟩ := nxtMem.1 ha
      have := outAdd h1 (canIff.1 h2).1
      have ih := fstGet hac (k := k) (s := addS s a) (by omega)
      have hp := waysPos hac (k := k) (s := addS s a) (by omega)
      unfold ways at hp
      rw [exts, fstL, e, List.flatMap_cons, List.getElem?_append_left (by simpa using hp), List.getElem?_map, ih]
      rfl
/-- More pairs, fewer extensions. -/
theorem canMono {N : Nat} {f g : Nat → Nat → Bool} (h : ∀ a b, a < N → b < N → f a b = true → g a b = true) {s a : Nat} (ha : a < N) (hc : canL N g s a = true) : canL N f s a = true := by
  rw [canIff] at hc ⊢
  exact ⟨hc.1, fun p hp hf => hc.2 p hp (h p a hp ha hf)⟩
theorem sumSub {g h : Nat → Nat} (hgh : ∀ x, g x ≤ h x) : ∀ {L M : List Nat}, L.Sublist M → (L.map g).sum ≤ (M.map h).sum := by
  intro L M hs
  induction hs with
  | slnil => simp
  | cons a _ ih => rw [List.map_cons, List.sum_cons]; omega
  | cons_cons a _ ih => rw [List.map_cons, List.map_cons, List.sum_cons, List.sum_cons]; have := hgh a; omega
theorem waysMono {N : Nat} {f g : Nat → Nat → Bool} (h : ∀ a b, a < N → b < N → f a b = true → g a b = true) : ∀ {k s : Nat}, ways N g k s ≤ ways N f k s
  | 0, _ => Nat.le_refl _
  | k + 1, s => by
    rw [waysSucc, waysSucc]
    refine sumSub (fun x => waysMono h) ?_
    unfold nxtL
    have e : (List.range N).filter (canL N g s) = ((List.range N).filter (canL N f s)).filter (canL N g s) := by
      rw [List.filter_filter]
      refine List.filter_congr fun x hx => ?_
      cases e : canL N g s x
      · rfl
      · rw [canMono h (List.mem_range.1 hx) e]; rfl
    rw [e]
    exact List.filter_sublist
end Go.Proofs.YtjioiaeiggjneaaDoor
