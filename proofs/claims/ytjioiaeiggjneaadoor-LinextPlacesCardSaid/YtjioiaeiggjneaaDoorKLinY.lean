/-
  The contract of linext.add: sums of numbers of linear extensions, -1 for too many.
-/
import Derived.Test.YtjioiaeiggjneaaDoorKLinO
namespace Go.Proofs.YtjioiaeiggjneaaDoor
open Go.RowKit

/-- The sum, or -1. -/
def addW (m n : Int) : Int := if m = -1 ∨ n = -1 ∨ 9223372036854775807 < m + n then -1 else m + n
/-- What stands for a number: itself, or -1 if it is too large. -/
def capW (n : Nat) : Int := if n ≤ 9223372036854775807 then (n : Int) else -1
theorem addCap (a b : Nat) : addW (capW a) (capW b) = capW (a + b) := by
  unfold addW capW
  split <;> split <;> split <;> split <;> omega
set_option maxRecDepth 100000 in
theorem iAdd (m n : Int) (hm : -1 ≤ m) (hm2 : m ≤ 9223372036854775807) (hn : -1 ≤ n) (hn2 : n ≤ 9223372036854775807) (w : World) :
    Calls Tryd.prog 43 #[.int .i64 m, .int .i64 n] w fun e w' => e = .returned (.int .i64 (addW m n)) ∧ w = w' := by
  have hr : ∀ {a b : Int}, a = b → Ending.returned (.int .i64 a) = .returned (.int .i64 b) := fun h => by rw [h]
  by_cases h1 : m = -1
  · have HA : Hid (-1 = addW m n) := Lib.hid (by unfold addW; rw [if_pos (.inl h1)])
    have e1 : (m == -1) = true := by simpa using h1
    go_enter Tryd.func43, Tryd.ntmps43
    go_wp2
    go_ret
    exact ⟨hr HA.out, rfl⟩
  · have e1 : (m == -1) = false := by simpa using h1
    by_cases h2 : n = -1
    · have HA : Hid (-1 = addW m n) := Lib.hid (by unfold addW; rw [if_pos (.inr (.inl h2))])
      have e2 : (n == -1) = true := by simpa using h2
      go_enter Tryd.func43, Tryd.ntmps43
      go_wp2
      go_ret
      exact ⟨hr HA.out, rfl⟩
    · have e2 : (n == -1) = false := by simpa using h2
      have hw : IntKind.i64.wrap (9223372036854775807 - n) = 9223372036854775807 - n := by rw [IntKind.wrap_i64]; omega
      by_cases h3 : 9223372036854775807 < m + n
      · have HA : Hid (-1 = addW m n) := Lib.hid (by unfold addW; rw [if_pos (.inr (.inr h3))])
        have e3 : decide (m > 9223372036854775807 - n) = true := by simp; omega
        go_enter Tryd.func43, Tryd.ntmps43
        go_wp2
        go_ret
        exact ⟨hr HA.out, rfl⟩
      · have HA : Hid (m + n = addW m n) := Lib.hid (by unfold addW; rw [if_neg (by omega)])
        have e3 : decide (m > 9223372036854775807 - n) = false := by simp; omega
        have hw2 : IntKind.i64.wrap (m + n) = m + n := by rw [IntKind.wrap_i64]; omega
        go_enter Tryd.func43, Tryd.ntmps43
        go_wp2
        go_ret
        exact ⟨hr HA.out, rfl⟩
end Go.Proofs.YtjioiaeiggjneaaDoor

namespace Go.Proofs.YtjioiaeiggjneaaDoor

/-- x is reached from s by numbers each of which can follow. -/
def RchS (N : Nat) (f : Nat → Nat → Bool) (s x : Nat) : Prop := ∃ t, okL N f s t = true ∧ x = t.foldl addS s
theorem rchRefl {N : Nat} {f : Nat → Nat → Bool} {s : Nat} : RchS N f s s := ⟨[], rfl, rfl⟩
theorem rchStep {N : Nat} {f : Nat → Nat → Bool} {s a x : Nat} (ha : a ∈ nxtL N f s) (h : RchS N f (addS s a) x) : RchS N f s x := by
  obtain ⟨t, h1, h2⟩ := h
  obtain ⟨h3, h4⟩ := nxtMem.1 ha
  refine ⟨a :: t, ?_, h2⟩
  rw [okL, h1, h4, decide_eq_true h3]
  rfl
theorem rchCases {N : Nat} {f : Nat → Nat → Bool} {s x : Nat} (h : RchS N f s x) : x = s ∨ ∃ a ∈ nxtL N f s, RchS N f (addS s a) x := by
  obtain ⟨t, h1, h2⟩ := h
  cases t with
  | nil => exact .inl h2
  | cons a t =>
    rw [okL, Bool.and_eq_true, Bool.and_eq_true, decide_eq_true_iff] at h1
    exact .inr ⟨a, nxtMem.2 ⟨h1.1.1, h1.1.2⟩, t, h1.2, h2⟩
/-- What lies in the table is closed under one more number. -/
def ClosedM (N : Nat) (f : Nat → Nat → Bool) (M : Nat → Prop) : Prop := ∀ s, M s → ∀ a ∈ nxtL N f s, M (addS s a)
theorem closedRch {N : Nat} {f : Nat → Nat → Bool} {M : Nat → Prop} (hM : ClosedM N f M) : ∀ (t : List Nat) (s : Nat), M s → okL N f s t = true → M (t.foldl addS s)
  | [], s, hs, _ => hs
  | a :: t, s, hs, h => by
    rw [okL, Bool.and_eq_true, Bool.and_eq_true, decide_eq_true_iff] at h
    exact closedRch hM t (addS s a) (hM s hs a (nxtMem.2 ⟨h.1.1, h.1.2⟩)) h.2
/-- What is entered for a set. -/
def valM (N : Nat) (f : Nat → Nat → Bool) (s : Nat) : Int := capW (ways N f (outS N s) s)
theorem foldAdd (g : Nat → Nat) : ∀ (L : List Nat) (n : Nat), L.foldl (fun t a => addW t (capW (g a))) (capW n) = capW (n + (L.map g).sum)
  | [], n => by simp
  | a :: L, n => by
    rw [List.foldl_cons, addCap, foldAdd g L, List.map_cons, List.sum_cons]
    congr 1
    omega
theorem valSum {N : Nat} {f : Nat → Nat → Bool} {s : Nat} (h : 0 < outS N s) : (nxtL N f s).foldl (fun t a => addW t (valM N f (addS s a))) 0 = valM N f s := by
  have key : ∀ a ∈ nxtL N f s, valM N f (addS s a) = capW (ways N f (outS N s - 1) (addS s a)) := fun a ha => by
    obtain ⟨h1, h2⟩ := nxtMem.1 ha
    have := outAdd h1 (canIff.1 h2).1
    unfold valM
    rw [show outS N (addS s a) = outS N s - 1 by omega]
  have e : ∀ (L : List Nat) (z : Int), (∀ a ∈ L, a ∈ nxtL N f s) → L.foldl (fun t a => addW t (valM N f (addS s a))) z = L.foldl (fun t a => addW t (capW (ways N f (outS N s - 1) (addS s a)))) z := by
    intro L
    induction L with
    | nil => intro z _; rfl
    | cons a L ih =>
      intro z hL
      rw [List.foldl_cons, List.foldl_cons, key a (hL a (by simp)), ih _ fun b hb => hL b (by simp [hb])]
  rw [e _ _ fun _ h => h]
  have h0 : (0 : Int) = capW 0 := rfl
  rw [h0, foldAdd (fun a => ways N f (outS N s - 1) (addS s a)), Nat.zero_add]
  unfold valM
  congr 1
  rw [← waysSucc]
  congr 1
  omega
/-- With nothing left, the set is full. -/
theorem outFull {N s : Nat} (hs : ∀ i, s.testBit i = true → i < N) (h : outS N s = 0) : s = fullS N := by
  refine Nat.eq_of_testBit_eq fun i => ?_
  rw [fullBit]
  by_cases hi : i < N
  · rw [decide_eq_true hi]
    unfold outS at h
    rw [List.countP_eq_zero] at h
    have := h i (List.mem_range.2 hi)
    simpa using this
  · rw [decide_eq_false hi]
    cases e : s.testBit i
    · rfl
    · exact absurd (hs i e) hi
theorem valFull {N : Nat} {f : Nat → Nat → Bool} (h : outS N (fullS N) = 0) : valM N f (fullS N) = 1 := by
  unfold valM
  rw [h, waysZero]
  rfl
theorem capLow (n : Nat) : -1 ≤ capW n ∧ capW n ≤ 9223372036854775807 := by
  unfold capW
  split <;> omega
end Go.Proofs.YtjioiaeiggjneaaDoor

namespace Go.Proofs.YtjioiaeiggjneaaDoor

theorem nodupLeY : ∀ {l m : List Nat}, l.Nodup → (∀ x ∈ l, x ∈ m) → l.length ≤ m.length
  | [], _, _, _ => Nat.zero_le _
  | a :: l, m, hl, h => by
    rw [List.nodup_cons] at hl
    have h1 : a ∈ m := h a (by simp)
    have h2 : l.length ≤ (m.erase a).length := nodupLeY hl.2 fun x hx => by
      have hne : x ≠ a := fun e => hl.1 (e ▸ hx)
      exact (List.mem_erase_of_ne hne).2 (h x (by simp [hx]))
    rw [List.length_erase_of_mem h1] at h2
    have := List.length_pos_of_mem h1
    rw [List.length_cons]
    omega
section
variable {N : Nat} {f : Nat → Nat → Bool}
theorem okAppS : ∀ {t u : List Nat} {s : Nat}, okL N f s t = true → okL N f (t.foldl addS s) u = true → okL N f s (t ++ u) = true
  | [], _, _, _, h => h
  | a :: t, u, s, h, k => by
    rw [okL, Bool.and_eq_true] at h
    rw [List.cons_append, okL, Bool.and_eq_true]
    exact ⟨h.1, okAppS h.2 k⟩
theorem rchTrans {s x y : Nat} (h : RchS N f s x) (k : RchS N f x y) : RchS N f s y := by
  obtain ⟨t, h1, rfl⟩ := h
  obtain ⟨u, h2, rfl⟩ := k
  exact ⟨t ++ u, okAppS h1 h2, by rw [List.foldl_append]⟩
theorem rchNext {s x a : Nat} (h : RchS N f s x) (ha : a ∈ nxtL N f x) : RchS N f s (addS x a) := rchTrans h (rchStep ha rchRefl)
theorem okBits : ∀ {t : List Nat} {s : Nat}, okL N f s t = true → (∀ i, s.testBit i = true → i < N) → ∀ i, (t.foldl addS s).testBit i = true → i < N
  | [], _, _, hs => hs
  | a :: t, s, h, hs => by
    rw [okL, Bool.and_eq_true, Bool.and_eq_true, decide_eq_true_iff] at h
    refine okBits (t := t) (s := addS s a) h.2 fun i hi => ?_
    rw [addSBit, Bool.or_eq_true, decide_eq_true_iff] at hi
    rcases hi with hi | rfl
    · exact hs i hi
    · exact h.1.1
theorem rchBits {x : Nat} (h : RchS N f 0 x) : ∀ i, x.testBit i = true → i < N := by
  obtain ⟨t, h1, rfl⟩ := h
  exact okBits h1 fun i hi => by simp at hi
theorem rchLt {x : Nat} (h : RchS N f 0 x) : x < 2 ^ N := Nat.lt_pow_two_of_testBit x fun i hi => by
  cases e : x.testBit i
  · rfl
  · have := rchBits h i e
    omega
theorem okOut : ∀ {t : List Nat} {s : Nat}, okL N f s t = true → outS N (t.foldl addS s) + t.length = outS N s
  | [], _, _ => rfl
  | a :: t, s, h => by
    rw [okL, Bool.and_eq_true, Bool.and_eq_true, decide_eq_true_iff] at h
    have h1 := outAdd h.1.1 (canIff.1 h.1.2).1
    have h2 := okOut (t := t) (s := addS s a) h.2
    rw [List.foldl_cons, List.length_cons]
    omega
theorem rchOut {s x : Nat} (h : RchS N f s x) : outS N x ≤ outS N s := by
  obtain ⟨t, h1, rfl⟩ := h
  have := okOut h1
  omega
/-- A set is not reached from one that follows it. -/
theorem rchNot {s a : Nat} (ha : a ∈ nxtL N f s) : ¬ RchS N f (addS s a) s := fun h => by
  obtain ⟨h1, h2⟩ := nxtMem.1 ha
  have h3 := outAdd h1 (canIff.1 h2).1
  have h4 := rchOut h
  omega
/-- The full set is reached from each set that is reached. -/
theorem rchFull (hac : acyT N (tcT N f)) : ∀ (k : Nat) {s : Nat}, outS N s = k → (∀ i, s.testBit i = true → i < N) → RchS N f s (fullS N)
  | 0, s, hk, hs => outFull hs hk ▸ rchRefl
  | k + 1, s, hk, hs => by
    rcases e : nxtL N f s with _ | ⟨a, L⟩
    · exact absurd e (nxtSome hac (by omega))
    · have ha : a ∈ nxtL N f s := by rw [e]; simp
      obtain ⟨h1, h2⟩ := nxtMem.1 ha
      have h3 := outAdd h1 (canIff.1 h2).1
      refine rchStep ha (rchFull hac k (by omega) fun i hi => ?_)
      rw [addSBit, Bool.or_eq_true, decide_eq_true_iff] at hi
      rcases hi with hi | rfl
      · exact hs i hi
      · exact h1
/-- The sets in the table. -/
structure VisT (N : Nat) (f : Nat → Nat → Bool) (D : List Nat) : Prop where
  nodup : D.Nodup
  rch : ∀ x ∈ D, RchS N f 0 x
  closed : ClosedM N f (· ∈ D)
theorem VisT.all {D : List Nat} (h : VisT N f D) {s : Nat} (hs : s ∈ D) {x : Nat} (hx : RchS N f s x) : x ∈ D := by
  obtain ⟨t, h1, rfl⟩ := hx
  exact closedRch h.closed t s hs h1
theorem VisT.mem {D : List Nat} (h : VisT N f D) (h0 : 0 ∈ D) {x : Nat} : x ∈ D ↔ RchS N f 0 x := ⟨h.rch x, h.all h0⟩
theorem VisT.le {D K : List Nat} (h : VisT N f D) (hK : ∀ x, RchS N f 0 x → x ∈ K) : D.length ≤ K.length := nodupLeY h.nodup fun x hx => hK x (h.rch x hx)
theorem VisT.le2 {D : List Nat} (h : VisT N f D) : D.length ≤ 2 ^ N := by
  have := h.le (K := List.range (2 ^ N)) fun x hx => List.mem_range.2 (rchLt hx)
  rwa [List.length_range] at this
/-- The table's length, once the empty set is in it, is the number of the sets that are reached. -/
theorem VisT.len {D K : List Nat} (h : VisT N f D) (h0 : 0 ∈ D) (hn : K.Nodup) (hK : ∀ x, x ∈ K ↔ RchS N f 0 x) : D.length = K.length :=
  Nat.le_antisymm (h.le fun x hx => (hK x).2 hx) (nodupLeY hn fun x hx => (h.mem h0).2 ((hK x).1 hx))
theorem VisT.start (hac : acyT N (tcT N f)) : VisT N f [fullS N] := by
  refine ⟨by simp, fun x hx => ?_, fun s hs a ha => ?_⟩
  · rw [List.mem_singleton] at hx
    subst hx
    exact rchFull hac _ rfl fun i hi => by simp at hi
  · obtain rfl : s = fullS N := List.mem_singleton.1 hs
    obtain ⟨h1, h2⟩ := nxtMem.1 ha
    have h3 := (canIff.1 h2).1
    rw [fullBit, decide_eq_false_iff_not] at h3
    exact absurd h1 h3
/-- A set is entered behind all that follow it. -/
theorem VisT.put {D : List Nat} (h : VisT N f D) {s : Nat} (hs : s ∉ D) (hr : RchS N f 0 s) (ha : ∀ a ∈ nxtL N f s, addS s a ∈ D) : VisT N f (D ++ [s]) := by
  refine ⟨?_, fun x hx => ?_, fun x hx a hb => ?_⟩
  · rw [List.nodup_append]
    refine ⟨h.nodup, by simp, fun x hx y hy => ?_⟩
    rw [List.mem_singleton] at hy
    subst hy
    exact fun e => hs (e ▸ hx)
  · rcases List.mem_append.1 hx with hx | hx
    · exact h.rch x hx
    · rw [List.mem_singleton] at hx
      exact hx ▸ hr
  · rcases List.mem_append.1 hx with hx | hx
    · exact List.mem_append.2 (.inl (h.closed x hx a hb))
    · rw [List.mem_singleton] at hx
      subst hx
      exact List.mem_append.2 (.inl (ha a hb))
/-- What is not yet in the table is not full. -/
theorem VisT.out {D : List Nat} (hf : fullS N ∈ D) {s : Nat} (hs : s ∉ D) (hr : RchS N f 0 s) : 0 < outS N s := by
  rcases Nat.eq_zero_or_pos (outS N s) with h | h
  · exact absurd (outFull (rchBits hr) h ▸ hf) hs
  · exact h
end
end Go.Proofs.YtjioiaeiggjneaaDoor
