/-
  The steps to a number, the pure part: what the rounds of a search by distance keep; rows of numbers.
-/
import Derived.Test.YtichbgnmagnokaaRAcM
namespace Go.Proofs.Ytichbgnmagnokaa
open Go.RowKit Go.Maps

/-- Numbers as integers. -/
def ni (l : List Nat) : List Int := l.map fun (x : Nat) => (x : Int)
theorem niLen (l : List Nat) : (ni l).length = l.length := by simp [ni]
theorem niAt {l : List Nat} {k : Nat} (hk : k < l.length) : (ni l)[k]'(by rw [niLen]; exact hk) = (l[k] : Int) := by simp [ni]
theorem niApp (l m : List Nat) : ni (l ++ m) = ni l ++ ni m := by simp [ni]
/-- Those that are reached in round d. -/
def StR (n : Nat) (f : Nat → Nat → Bool) (b d : Nat) (R : List Nat) : Prop := (d = 1 ∧ R = [b]) ∨ (1 < d ∧ ∀ x, x ∈ R ↔ x < n ∧ dst n f x b = d - 1)
theorem stRLt {n : Nat} {f : Nat → Nat → Bool} {b d : Nat} {R : List Nat} (h : StR n f b d R) (hb : b < n) {x : Nat} (hx : x ∈ R) : x < n := by
  rcases h with ⟨_, rfl⟩ | ⟨_, h⟩
  · rw [List.mem_singleton] at hx; omega
  · exact ((h x).1 hx).1
/-- In round d, those of P have been met: S is the row of the steps, F the list of those that were found. -/
structure StF (n : Nat) (f : Nat → Nat → Bool) (b d : Nat) (P : Nat → Prop) (S : Nat → Nat) (F : List Nat) : Prop where
  old : ∀ x, x < n → dsU n f b (d - 1) x ≠ 0 → S x = dsU n f b (d - 1) x
  hit : ∀ x, x < n → dsU n f b (d - 1) x = 0 → P x → S x = d
  no : ∀ x, x < n → dsU n f b (d - 1) x = 0 → ¬ P x → S x = 0
  fnd : ∀ x, x ∈ F ↔ x < n ∧ P x ∧ dsU n f b (d - 1) x = 0
  nod : F.Nodup
section
variable {n b d : Nat} {f : Nat → Nat → Bool} {P Q : Nat → Prop} {S : Nat → Nat} {F : List Nat}
theorem stStart : StF n f b d (fun _ => False) (dsU n f b (d - 1)) [] :=
  ⟨fun _ _ _ => rfl, fun _ _ _ h => h.elim, fun _ _ h _ => h, fun x => by simp, List.nodup_nil⟩
theorem StF.congr (h : StF n f b d P S F) (e : ∀ x, x < n → (P x ↔ Q x)) : StF n f b d Q S F :=
  ⟨h.old, fun x hx h1 h2 => h.hit x hx h1 ((e x hx).2 h2), fun x hx h1 h2 => h.no x hx h1 fun h3 => h2 ((e x hx).1 h3), fun x => by
    rw [h.fnd x]
    constructor
    · rintro ⟨h1, h2, h3⟩; exact ⟨h1, (e x h1).1 h2, h3⟩
    · rintro ⟨h1, h2, h3⟩; exact ⟨h1, (e x h1).2 h2, h3⟩, h.nod⟩
theorem StF.len (h : StF n f b d P S F) : F.length ≤ n := nodupLe h.nod fun x hx => ((h.fnd x).1 hx).1
theorem StF.zero (h : StF n f b d P S F) (hd : 0 < d) {t : Nat} (ht : t < n) (hS : S t = 0) : dsU n f b (d - 1) t = 0 ∧ ¬ P t := by
  by_cases h0 : dsU n f b (d - 1) t = 0
  · refine ⟨h0, fun hp => ?_⟩
    have := h.hit t ht h0 hp
    omega
  · have := h.old t ht h0
    omega
/-- S with d at t. -/
def setN (S : Nat → Nat) (t d x : Nat) : Nat := if x = t then d else S x
theorem stHit (h : StF n f b d P S F) (hd : 0 < d) {t : Nat} (ht : t < n) (hS : S t = 0) : StF n f b d (fun x => P x ∨ x = t) (setN S t d) (F ++ [t]) := by
  obtain ⟨h0, hp⟩ := h.zero hd ht hS
  refine ⟨fun x hx h1 => ?_, fun x hx h1 h2 => ?_, fun x hx h1 h2 => ?_, fun x => ?_, ?_⟩
  · unfold setN
    rw [if_neg (by rintro rfl; exact h1 h0)]
    exact h.old x hx h1
  · unfold setN
    by_cases e : x = t
    · rw [if_pos e]
    · rw [if_neg e]
      exact h.hit x hx h1 (h2.resolve_right e)
  · unfold setN
    rw [if_neg fun e => h2 (.inr e)]
    exact h.no x hx h1 fun h3 => h2 (.inl h3)
  · rw [List.mem_append, List.mem_singleton, h.fnd x]
    constructor
    · rintro (⟨h1, h2, h3⟩ | rfl)
      · exact ⟨h1, .inl h2, h3⟩
      · exact ⟨ht, .inr rfl, h0⟩
    · rintro ⟨h1, h2 | h2, h3⟩
      · exact .inl ⟨h1, h2, h3⟩
      · exact .inr h2
  · rw [List.nodup_append]
    refine ⟨h.nod, by simp, fun x hx y hy => ?_⟩
    rw [List.mem_singleton] at hy
    rintro rfl
    subst hy
    exact hp ((h.fnd x).1 hx).2.1
theorem stMiss (h : StF n f b d P S F) {t : Nat} (ht : t < n) (hS : S t ≠ 0) : StF n f b d (fun x => P x ∨ x = t) S F := by
  have key : dsU n f b (d - 1) t = 0 → P t := fun h0 => by
    by_cases hp : P t
    · exact hp
    · exact absurd (h.no t ht h0 hp) hS
  refine ⟨h.old, fun x hx h1 h2 => ?_, fun x hx h1 h2 => h.no x hx h1 fun h3 => h2 (.inl h3), fun x => ?_, h.nod⟩
  · rcases h2 with h2 | rfl
    · exact h.hit x hx h1 h2
    · exact h.hit x hx h1 (key h1)
  · rw [h.fnd x]
    constructor
    · rintro ⟨h1, h2, h3⟩; exact ⟨h1, .inl h2, h3⟩
    · rintro ⟨h1, h2 | rfl, h3⟩
      · exact ⟨h1, h2, h3⟩
      · exact ⟨h1, key h3, h3⟩
/-- All that are reached have been gone through: the row and the list of the next round. -/
theorem stDone {R : List Nat} (h : StF n f b d (fun x => ∃ r, r ∈ R ∧ f x r = true) S F) (hd : 0 < d) (hR : StR n f b d R) : (∀ x, x < n → S x = dsU n f b d x) ∧ StR n f b (d + 1) F := by
  obtain ⟨e, rfl⟩ : ∃ e, d = e + 1 := ⟨d - 1, by omega⟩
  have hP : ∀ x, (∃ r, r ∈ R ∧ f x r = true) ↔ ((e = 0 ∧ f x b = true) ∨ (0 < e ∧ ∃ y, y < n ∧ f x y = true ∧ dst n f y b = e)) := fun x => by
    rcases hR with ⟨h1, rfl⟩ | ⟨h1, h2⟩
    · constructor
      · rintro ⟨r, hr, h3⟩
        rw [List.mem_singleton] at hr
        subst hr
        exact .inl ⟨by omega, h3⟩
      · rintro (⟨_, h3⟩ | ⟨h3, _⟩)
        · exact ⟨b, by simp, h3⟩
        · omega
    · constructor
      · rintro ⟨r, hr, h3⟩
        obtain ⟨h4, h5⟩ := (h2 r).1 hr
        exact .inr ⟨by omega, r, h4, h3, by omega⟩
      · rintro (⟨h3, _⟩ | ⟨_, y, h4, h5, h6⟩)
        · omega
        · exact ⟨y, (h2 y).2 ⟨h4, by omega⟩, h5⟩
  have hS : ∀ x, x < n → S x = dsU n f b (e + 1) x := fun x hx => by
    have h1 := h.old x hx
    have h2 := h.hit x hx
    have h3 := h.no x hx
    rw [Nat.add_sub_cancel] at h1 h2 h3
    rw [dsUsucc]
    by_cases h0 : dsU n f b e x = 0
    · rw [if_neg (by omega)]
      by_cases hp : ∃ r, r ∈ R ∧ f x r = true
      · rw [if_pos ((hP x).1 hp)]; exact h2 h0 hp
      · rw [if_neg fun hq => hp ((hP x).2 hq)]; exact h3 h0 hp
    · rw [if_pos h0]; exact h1 h0
  refine ⟨hS, .inr ⟨by omega, fun x => ?_⟩⟩
  rw [h.fnd x, Nat.add_sub_cancel, Nat.add_sub_cancel]
  constructor
  · rintro ⟨h1, h2, h3⟩
    have h4 := hS x h1
    have h5 := h.hit x h1 (by rw [Nat.add_sub_cancel]; exact h3) h2
    have h6 : dsU n f b (e + 1) x ≠ 0 := by omega
    have h7 := dsUpos.1 h6
    rw [dsUall h7.2] at h4
    exact ⟨h1, by omega⟩
  · rintro ⟨h1, h2⟩
    have h3 : dsU n f b e x = 0 := by unfold dsU; rw [if_neg (by omega)]
    refine ⟨h1, ?_, h3⟩
    by_cases hp : ∃ r, r ∈ R ∧ f x r = true
    · exact hp
    · have h4 := h.no x h1 (by rw [Nat.add_sub_cancel]; exact h3) hp
      have h5 := hS x h1
      rw [dsUall (by omega)] at h5
      omega
/-- None is reached: the row holds the steps. -/
theorem stEnd (hR : StR n f b d []) {x : Nat} (hx : x < n) : dsU n f b (d - 1) x = dst n f x b := by
  rcases hR with ⟨_, h⟩ | ⟨h1, h2⟩
  · cases h
  · refine dsUall ?_
    by_cases h3 : dst n f x b ≤ d - 1
    · exact h3
    · obtain ⟨y, hy, h4⟩ := dstDown (n := n) (f := f) (b := b) (k := dst n f x b - (d - 1)) (a := x) (d - 1) (by omega) hx (by omega)
      have := (h2 y).2 ⟨hy, h4⟩
      cases this
theorem stMax (hR : StR n f b d F) (hF : F ≠ []) : d ≤ n + 1 := by
  rcases hR with ⟨h, _⟩ | ⟨h1, h2⟩
  · omega
  · cases F with
    | nil => exact absurd rfl hF
    | cons x l =>
      obtain ⟨h3, h4⟩ := (h2 x).1 (by simp)
      have := dstMax (n := n) (f := f) (b := b) h3
      omega
end
/-- Those that are met through the first i of R, and the first j that lead to the next. -/
def metBy (f : Nat → Nat → Bool) (R : List Nat) (i : Nat) (x : Nat) : Prop := ∃ r, r ∈ R.take i ∧ f x r = true
def metIn (f : Nat → Nat → Bool) (R : List Nat) (i : Nat) (L : List Int) (j : Nat) (x : Nat) : Prop := metBy f R i x ∨ (x : Int) ∈ L.take j
theorem metInSucc {f : Nat → Nat → Bool} {R : List Nat} {i : Nat} {L : List Int} {j t : Nat} (hj : j < L.length) (e : L[j] = (t : Int)) (x : Nat) : (metIn f R i L j x ∨ x = t) ↔ metIn f R i L (j + 1) x := by
  unfold metIn
  rw [List.take_succ_eq_append_getElem hj, List.mem_append, List.mem_singleton, e]
  constructor
  · rintro ((h | h) | h)
    · exact .inl h
    · exact .inr (.inl h)
    · exact .inr (.inr (by omega))
  · rintro (h | h | h)
    · exact .inl (.inl h)
    · exact .inl (.inr h)
    · exact .inr (by omega)
theorem metInDone {n : Nat} {f : Nat → Nat → Bool} {R : List Nat} {i r : Nat} (hi : i < R.length) (hr : R[i] = r) {j : Nat} (hj : (sucI n (fun x y => f y x) r).length ≤ j) {x : Nat} (hx : x < n) : metIn f R i (sucI n (fun x y => f y x) r) j x ↔ metBy f R (i + 1) x := by
  unfold metIn metBy
  rw [List.take_of_length_le hj, List.take_succ_eq_append_getElem hi, hr]
  constructor
  · rintro (⟨q, h1, h2⟩ | h)
    · exact ⟨q, List.mem_append.2 (.inl h1), h2⟩
    · obtain ⟨y, h1, _, h3⟩ := sucMem.1 h
      obtain rfl : x = y := by omega
      exact ⟨r, by simp, h3⟩
  · rintro ⟨q, h1, h2⟩
    rw [List.mem_append, List.mem_singleton] at h1
    rcases h1 with h1 | rfl
    · exact .inl ⟨q, h1, h2⟩
    · exact .inr (sucMem.2 ⟨x, rfl, hx, h2⟩)
theorem metAll {f : Nat → Nat → Bool} {R : List Nat} {i : Nat} (hi : R.length ≤ i) (x : Nat) : metBy f R i x ↔ ∃ r, r ∈ R ∧ f x r = true := by
  unfold metBy
  rw [List.take_of_length_le hi]

/-- Block g is a row of n numbers: those of S. -/
def RowI (w : World) (g n : Nat) (S : Nat → Nat) : Prop := w.ownsRow 0 3 1 (.slice (some ⟨g, 0, none⟩) n n) n ((List.range n).map fun x => .int .i64 (S x))
section
variable {w w' : World} {g n : Nat} {S : Nat → Nat}
theorem RowI.lt (h : RowI w g n S) : g < w.heap.size := (World.ownsRow.lt h g rfl).2
theorem RowI.chg {F : Nat → Prop} (h : RowI w g n S) (hc : Chg w w' F) (hF : F g) : RowI w' g n S := ownChg h hc fun k hk => by
  have : g = k := by simpa [Value.ownBlock] using hk
  exact this ▸ hF
theorem RowI.cell (h : RowI w g n S) {i : Nat} (hi : i < n) : w.cell? ⟨g, i, none⟩ = some (.int .i64 (S i)) := by
  unfold RowI at h
  rw [World.ownsRow.cellAt h i (by omega), List.getElem?_map, List.getElem?_range hi]; rfl
theorem RowI.frozen (h : RowI w g n S) (i : Nat) : w.frozen? ⟨g, i, none⟩ = false := World.ownsRow.frozenAt h i
theorem RowI.set (h : RowI w g n S) (i d : Nat) : RowI (w.setCell ⟨g, i, none⟩ (.int .i64 d)) g n (setN S i d) := by
  have h2 := (World.ownsRow.stored h i (.int .i64 d)).1
  have e : ((List.range n).map fun x => Value.int .i64 (S x : Int)).set i (.int .i64 d) = (List.range n).map fun x => Value.int .i64 (setN S i d x : Int) := by
    refine List.ext_getElem? fun k => ?_
    rw [List.getElem?_set]
    by_cases hk : k < n
    · rw [List.getElem?_map, List.getElem?_range hk, List.getElem?_map, List.getElem?_range hk, List.length_map, List.length_range]
      by_cases e : i = k
      · subst e
        rw [if_pos rfl, if_pos hk]
        simp [setN]
      · rw [if_neg e]
        simp [setN, Ne.symm e]
    · rw [List.getElem?_eq_none (by simp; omega), List.getElem?_eq_none (by simp; omega)]
      split
      · rw [if_neg (by simp; omega)]
      · rfl
  unfold RowI
  rw [← e]
  exact h2
theorem RowI.congr {T : Nat → Nat} (h : RowI w g n S) (e : ∀ x, x < n → S x = T x) : RowI w g n T := by
  have e2 : (List.range n).map (fun x => Value.int .i64 (S x : Int)) = (List.range n).map fun x => Value.int .i64 (T x : Int) := List.map_congr_left fun x hx => by rw [e x (List.mem_range.1 hx)]
  unfold RowI
  rw [← e2]
  exact h
theorem rowINew {w : World} {g N : Nat} (h : w.heap[g]? = some (.cells (madeCells #[.int .i64 0] N) 3 (0, 0))) (hN : N ≤ maxLen) : RowI w g N (fun _ => 0) := by
  have e : (madeCells #[Value.int .i64 0] N).toList = (List.range N).map fun _ => Value.int .i64 0 := by rw [List.map_const', List.length_range]; exact toList_madeCells_one _ _
  have hs : (madeCells #[Value.int .i64 0] N).size = N := by rw [← Array.length_toList, e]; simp
  refine ⟨by simp, .inr ⟨g, N, _, rfl, Nat.zero_le _, h, Nat.le_refl _, hN, by omega, ?_⟩⟩
  rw [List.take_of_length_le (by rw [Array.length_toList]; omega), e]
  rfl
end
end Go.Proofs.Ytichbgnmagnokaa
