/-
  Tables that can be reckoned: the transitive closure and the distances of a table of a few numbers.
-/
import Derived.Test.YtpfdhjmhoggioaaRelDist
namespace Go.Proofs.Ytpfdhjmhoggioaa

/-- Warshall's table, reckoned. -/
def cw (f : Nat → Nat → Bool) : Nat → Nat → Nat → Bool
  | 0, a, b => f a b
  | m + 1, a, b => cw f m a b || (cw f m a m && cw f m m b)
theorem wsC (f : Nat → Nat → Bool) : ∀ m a b, wsT f m a b = cw f m a b
  | 0, _, _ => wsZero
  | m + 1, a, b => by rw [wsSucc, wsC f m, wsC f m, wsC f m, cw]
theorem tcC (n : Nat) (f : Nat → Nat → Bool) (a b : Nat) : tcT n f a b = cw f n a b := by
  rw [← wsC, Bool.eq_iff_iff, tcIff, wsIff]
/-- The distances up to d, reckoned. -/
def cdU (n : Nat) (f : Nat → Nat → Bool) (b : Nat) : Nat → Nat → Nat
  | 0, _ => 0
  | d + 1, a => if cdU n f b d a ≠ 0 then cdU n f b d a else if (d == 0 && f a b) || (List.range n).any (fun x => decide (0 < d) && f a x && cdU n f b d x == d) then d + 1 else 0
theorem dsUis {n : Nat} {f : Nat → Nat → Bool} {b x d : Nat} (hd : 0 < d) : dsU n f b d x = d ↔ dst n f x b = d := by
  unfold dsU
  split <;> omega
theorem dsUC (n : Nat) (f : Nat → Nat → Bool) (b : Nat) : ∀ d a, dsU n f b d a = cdU n f b d a
  | 0, _ => dsUzero
  | d + 1, a => by
    rw [dsUsucc, cdU, dsUC n f b d a]
    by_cases h0 : cdU n f b d a ≠ 0
    · rw [if_pos h0, if_pos h0]
    · rw [if_neg h0, if_neg h0]
      have e : ((d = 0 ∧ f a b = true) ∨ (0 < d ∧ ∃ x, x < n ∧ f a x = true ∧ dst n f x b = d)) ↔ ((d == 0 && f a b) || (List.range n).any (fun x => decide (0 < d) && f a x && cdU n f b d x == d)) = true := by
        rw [Bool.or_eq_true, Bool.and_eq_true, beq_iff_eq, List.any_eq_true]
        constructor
        · rintro (h | ⟨hd, x, hx, h1, h2⟩)
          · exact .inl h
          · refine .inr ⟨x, List.mem_range.2 hx, ?_⟩
            rw [← dsUC n f b d x, decide_eq_true hd, h1, (dsUis hd).2 h2]
            simp
        · rintro (h | ⟨x, hx, h1⟩)
          · exact .inl h
          · rw [Bool.and_eq_true, Bool.and_eq_true, decide_eq_true_iff, beq_iff_eq, ← dsUC n f b d x] at h1
            exact .inr ⟨h1.1.1, x, List.mem_range.1 hx, h1.1.2, (dsUis h1.1.1).1 h1.2⟩
      by_cases h : (d = 0 ∧ f a b = true) ∨ (0 < d ∧ ∃ x, x < n ∧ f a x = true ∧ dst n f x b = d)
      · rw [if_pos h, if_pos (e.1 h)]
      · rw [if_neg h, if_neg fun h' => h (e.2 h')]
theorem dstC {n : Nat} {f : Nat → Nat → Bool} {a b : Nat} (ha : a < n) : dst n f a b = cdU n f b n a := by
  rw [← dsUC, dsUall (dstMax ha)]
def cb (n : Nat) (f : Nat → Nat → Bool) : Nat → Option Nat
  | 0 => none
  | k + 1 => match cb n f k with
    | none => if 0 < cdU n f k n k then some k else none
    | some s => if 0 < cdU n f k n k ∧ cdU n f k n k < cdU n f s n s then some k else some s
theorem bstC (n : Nat) (f : Nat → Nat → Bool) : ∀ k, k ≤ n → bst n f k = cb n f k
  | 0, _ => rfl
  | k + 1, h => by
    have ih := bstC n f k (by omega)
    rw [bst, cb]
    rcases e : bst n f k with _ | s
    · rw [← ih, e, dstC (by omega)]
    · have hs := (bstSome e).1
      rw [← ih, e, dstC (by omega)]
      show (if 0 < cdU n f k n k ∧ cdU n f k n k < dst n f s s then some k else some s) = if 0 < cdU n f k n k ∧ cdU n f k n k < cdU n f s n s then some k else some s
      rw [dstC (show s < n by omega)]
def cn (n : Nat) (f : Nat → Nat → Bool) (b d a : Nat) : Nat := ((List.range n).find? fun x => f a x && cdU n f b n x == d).getD 0
theorem findCongr {p q : Nat → Bool} : ∀ {l : List Nat}, (∀ x ∈ l, p x = q x) → l.find? p = l.find? q
  | [], _ => rfl
  | x :: l, h => by rw [List.find?_cons, List.find?_cons, h x (by simp), findCongr fun y hy => h y (by simp [hy])]
theorem nxtC (n : Nat) (f : Nat → Nat → Bool) (b d a : Nat) : nxt n f b d a = cn n f b d a := by
  unfold nxt cn
  rw [findCongr fun x hx => by rw [dstC (List.mem_range.1 hx)]]
def ck (n : Nat) (f : Nat → Nat → Bool) (b : Nat) : Nat → Nat → List Nat
  | 0, _ => []
  | d + 1, a => cn n f b (d + 1) a :: ck n f b d (cn n f b (d + 1) a)
theorem wlkC (n : Nat) (f : Nat → Nat → Bool) (b : Nat) : ∀ d a, wlk n f b d a = ck n f b d a
  | 0, _ => rfl
  | d + 1, a => by rw [wlk, ck, nxtC, wlkC n f b d]
def cc (n : Nat) (f : Nat → Nat → Bool) : List Nat := match cb n f n with
  | none => []
  | some s => s :: ck n f s (cdU n f s n s - 1) s
theorem cycC (n : Nat) (f : Nat → Nat → Bool) : cyc n f = cc n f := by
  unfold cyc cc
  rw [← bstC n f n (Nat.le_refl _)]
  rcases e : bst n f n with _ | s
  · rfl
  · have hs := (bstSome e).1
    show s :: wlk n f s (dst n f s s - 1) s = s :: ck n f s (cdU n f s n s - 1) s
    rw [wlkC, dstC hs]
/-- The chapter's example. -/
def exA : Prs := [(0, 1), (1, 2), (0, 2)]
def exB : Prs := [(2, 1), (1, 2), (0, 1)]
theorem exClo : nrm 4 (tcT 4 (hasP exA)) = [(0, 1), (0, 2), (1, 2)] := by
  rw [show tcT 4 (hasP exA) = cw (hasP exA) 4 from funext fun a => funext fun b => tcC 4 _ a b]
  decide
theorem exRed : nrm 4 (redT 4 (tcT 4 (hasP exA))) = [(0, 1), (1, 2)] := by
  rw [show tcT 4 (hasP exA) = cw (hasP exA) 4 from funext fun a => funext fun b => tcC 4 _ a b]
  decide
theorem exAcy : acyT 4 (tcT 4 (hasP exA)) := by
  rw [show tcT 4 (hasP exA) = cw (hasP exA) 4 from funext fun a => funext fun b => tcC 4 _ a b]
  unfold acyT
  decide
theorem exCyc : cyc 4 (hasP exB) = [1, 2] := by
  rw [cycC]
  decide
theorem exNot : ¬ acyT 4 (tcT 4 (hasP exB)) := fun h => by
  have := bstAcy.2 h
  rw [bstC 4 _ 4 (Nat.le_refl _)] at this
  revert this
  decide
end Go.Proofs.Ytpfdhjmhoggioaa
