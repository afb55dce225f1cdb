/-
  The steps to a number, the pure part: what the rounds of a search by distance keep; rows of numbers.
-/
import Derived.Test.YtpfdhjmhoggioaaRAcM
import Derived.Test.YtpfdhjmhoggioaaRowI
namespace Go.Proofs.Ytpfdhjmhoggioaa
open Go.RowKit Go.Maps

/-- Those that are reached in round d. -/
def StR (n : Nat) (f : Nat → Nat → Bool) (b d : Nat) (R : List Nat) : Prop := (d = 1 ∧ R = [b]) ∨ (1 < d ∧ ∀ x, x ∈ R ↔ x < n ∧ dst n f x b = d - 1)
theorem stRLt {n : Nat} {f : Nat → Nat → Bool} {b d : Nat} {R : List Nat} (h : StR n f b d R) (hb : b < n) {x : Nat} (hx : x ∈ R) : x < n := by
  rcases h with ⟨_, rfl⟩ | ⟨_, h⟩
  · rw [List.mem_singleton] at hx; omega
  · exact ((h x).1 hx).1
/-- In round d, those of P have been met: S is the row of the steps, F the list of those that were found. -/
structure StF (n : Nat) (f : Nat → Nat → Bool) (b d : Nat) (P : Nat → Prop) (S : Nat → Nat) (F : List Nat) : Prop where
  old : ∀ x, x < n → dsU n f b (d - 1) x ≠ 0 → S x = dsU n f b (d - 1) x
  hit : ∀ x, x < n → dsU n f b (d - 1) x = 0 → P x → S x = d
  no : ∀ x, x < n → dsU n f b (d - 1) x = 0 → ¬ P x → S x = 0
  fnd : ∀ x, x ∈ F ↔ x < n ∧ P x ∧ dsU n f b (d - 1) x = 0
  nod : F.Nodup
section
variable {n b d : Nat} {f : Nat → Nat → Bool} {P Q : Nat → Prop} {S : Nat → Nat} {F : List Nat}
theorem stStart : StF n f b d (fun _ => False) (dsU n f b (d - 1)) [] :=
  ⟨fun _ _ _ => rfl, fun _ _ _ h => h.elim, fun _ _ h _ => h, fun x => by simp, List.nodup_nil⟩
theorem StF.congr (h : StF n f b d P S F) (e : ∀ x, x < n → (P x ↔ Q x)) : StF n f b d Q S F :=
  ⟨h.old, fun x hx h1 h2 => h.hit x hx h1 ((e x hx).2 h2), fun x hx h1 h2 => h.no x hx h1 fun h3 => h2 ((e x hx).1 h3), fun x => by
    rw [h.fnd x]
    constructor
    · rintro ⟨h1, h2, h3⟩; exact ⟨h1, (e x h1).1 h2, h3⟩
    · rintro ⟨h1, h2, h3⟩; exact ⟨h1, (e x h1).2 h2, h3⟩, h.nod⟩
theorem StF.len (h : StF n f b d P S F) : F.length ≤ n := nodupLe h.nod fun x hx => ((h.fnd x).1 hx).1
theorem StF.zero (h : StF n f b d P S F) (hd : 0 < d) {t : Nat} (ht : t < n) (hS : S t = 0) : dsU n f b (d - 1) t = 0 ∧ ¬ P t := by
  by_cases h0 : dsU n f b (d - 1) t = 0
  · refine ⟨h0, fun hp => ?_⟩
    have := h.hit t ht h0 hp
    omega
  · have := h.old t ht h0
    omega
theorem stHit (h : StF n f b d P S F) (hd : 0 < d) {t : Nat} (ht : t < n) (hS : S t = 0) : StF n f b d (fun x => P x ∨ x = t) (setN S t d) (F ++ [t]) := by
  obtain ⟨h0, hp⟩ := h.zero hd ht hS
  refine ⟨fun x hx h1 => ?_, fun x hx h1 h2 => ?_, fun x hx h1 h2 => ?_, fun x => ?_, ?_⟩
  · unfold setN
    rw [if_neg (by rintro rfl; exact h1 h0)]
    exact h.old x hx h1
  · unfold setN
    by_cases e : x = t
    · rw [if_pos e]
    · rw [if_neg e]
      exact h.hit x hx h1 (h2.resolve_right e)
  · unfold setN
    rw [if_neg fun e => h2 (.inr e)]
    exact h.no x hx h1 fun h3 => h2 (.inl h3)
  · rw [List.mem_append, List.mem_singleton, h.fnd x]
    constructor
    · rintro (⟨h1, h2, h3⟩ | rfl)
      · exact ⟨h1, .inl h2, h3⟩
      · exact ⟨ht, .inr rfl, h0⟩
    · rintro ⟨h1, h2 | h2, h3⟩
      · exact .inl ⟨h1, h2, h3⟩
      · exact .inr h2
  · rw [List.nodup_append]
    refine ⟨h.nod, by simp, fun x hx y hy => ?_⟩
    rw [List.mem_singleton] at hy
    rintro rfl
    subst hy
    exact hp ((h.fnd x).1 hx).2.1
theorem stMiss (h : StF n f b d P S F) {t : Nat} (ht : t < n) (hS : S t ≠ 0) : StF n f b d (fun x => P x ∨ x = t) S F := by
  have key : dsU n f b (d - 1) t = 0 → P t := fun h0 => by
    by_cases hp : P t
    · exact hp
    · exact absurd (h.no t ht h0 hp) hS
  refine ⟨h.old, fun x hx h1 h2 => ?_, fun x hx h1 h2 => h.no x hx h1 fun h3 => h2 (.inl h3), fun x => ?_, h.nod⟩
  · rcases h2 with h2 | rfl
    · exact h.hit x hx h1 h2
    · exact h.hit x hx h1 (key h1)
  · rw [h.fnd x]
    constructor
    · rintro ⟨h1, h2, h3⟩; exact ⟨h1, .inl h2, h3⟩
    · rintro ⟨h1, h2 | rfl, h3⟩
      · exact ⟨h1, h2, h3⟩
      · exact ⟨h1, key h3, h3⟩
/-- All that are reached have been gone through: the row and the list of the next round. -/
theorem stDone {R : List Nat} (h : StF n f b d (fun x => ∃ r, r ∈ R ∧ f x r = true) S F) (hd : 0 < d) (hR : StR n f b d R) : (∀ x, x < n → S x = dsU n f b d x) ∧ StR n f b (d + 1) F := by
  obtain ⟨e, rfl⟩ : ∃ e, d = e + 1 := ⟨d - 1, by omega⟩
  have hP : ∀ x, (∃ r, r ∈ R ∧ f x r = true) ↔ ((e = 0 ∧ f x b = true) ∨ (0 < e ∧ ∃ y, y < n ∧ f x y = true ∧ dst n f y b = e)) := fun x => by
    rcases hR with ⟨h1, rfl⟩ | ⟨h1, h2⟩
    · constructor
      · rintro ⟨r, hr, h3⟩
        rw [List.mem_singleton] at hr
        subst hr
        exact .inl ⟨by omega, h3⟩
      · rintro (⟨_, h3⟩ | ⟨h3, _⟩)
        · exact ⟨b, by simp, h3⟩
        · omega
    · constructor
      · rintro ⟨r, hr, h3⟩
        obtain ⟨h4, h5⟩ := (h2 r).1 hr
        exact .inr ⟨by omega, r, h4, h3, by omega⟩
      · rintro (⟨h3, _⟩ | ⟨_, y, h4, h5, h6⟩)
        · omega
        · exact ⟨y, (h2 y).2 ⟨h4, by omega⟩, h5⟩
  have hS : ∀ x, x < n → S x = dsU n f b (e + 1) x := fun x hx => by
    have h1 := h.old x hx
    have h2 := h.hit x hx
    have h3 := h.no x hx
    rw [Nat.add_sub_cancel] at h1 h2 h3
    rw [dsUsucc]
    by_cases h0 : dsU n f b e x = 0
    · rw [if_neg (by omega)]
      by_cases hp : ∃ r, r ∈ R ∧ f x r = true
      · rw [if_pos ((hP x).1 hp)]; exact h2 h0 hp
      · rw [if_neg fun hq => hp ((hP x).2 hq)]; exact h3 h0 hp
    · rw [if_pos h0]; exact h1 h0
  refine ⟨hS, .inr ⟨by omega, fun x => ?_⟩⟩
  rw [h.fnd x, Nat.add_sub_cancel, Nat.add_sub_cancel]
  constructor
  · rintro ⟨h1, h2, h3⟩
    have h4 := hS x h1
    have h5 := h.hit x h1 (by rw [Nat.add_sub_cancel]; exact h3) h2
    have h6 : dsU n f b (e + 1) x ≠ 0 := by omega
    have h7 := dsUpos.1 h6
    rw [dsUall h7.2] at h4
    exact ⟨h1, by omega⟩
  · rintro ⟨h1, h2⟩
    have h3 : dsU n f b e x = 0 := by unfold dsU; rw [if_neg (by omega)]
    refine ⟨h1, ?_, h3⟩
    by_cases hp : ∃ r, r ∈ R ∧ f x r = true
    · exact hp
    · have h4 := h.no x h1 (by rw [Nat.add_sub_cancel]; exact h3) hp
      have h5 := hS x h1
      rw [dsUall (by omega)] at h5
      omega
/-- None is reached: the row holds the steps. -/
theorem stEnd (hR : StR n f b d []) {x : Nat} (hx : x < n) : dsU n f b (d - 1) x = dst n f x b := by
  rcases hR with ⟨_, h⟩ | ⟨h1, h2⟩
  · cases h
  · refine dsUall ?_
    by_cases h3 : dst n f x b ≤ d - 1
    · exact h3
    · obtain ⟨y, hy, h4⟩ := dstDown (n := n) (f := f) (b := b) (k := dst n f x b - (d - 1)) (a := x) (d - 1) (by omega) hx (by omega)
      have := (h2 y).2 ⟨hy, h4⟩
      cases this
theorem stMax (hR : StR n f b d F) (hF : F ≠ []) : d ≤ n + 1 := by
  rcases hR with ⟨h, _⟩ | ⟨h1, h2⟩
  · omega
  · cases F with
    | nil => exact absurd rfl hF
    | cons x l =>
      obtain ⟨h3, h4⟩ := (h2 x).1 (by simp)
      have := dstMax (n := n) (f := f) (b := b) h3
      omega
end
/-- Those that are met through the first i of R, and the first j that lead to the next. -/
def metBy (f : Nat → Nat → Bool) (R : List Nat) (i : Nat) (x : Nat) : Prop := ∃ r, r ∈ R.take i ∧ f x r = true
def metIn (f : Nat → Nat → Bool) (R : List Nat) (i : Nat) (L : List Int) (j : Nat) (x : Nat) : Prop := metBy f R i x ∨ (x : Int) ∈ L.take j
theorem metInSucc {f : Nat → Nat → Bool} {R : List Nat} {i : Nat} {L : List Int} {j t : Nat} (hj : j < L.length) (e : L[j] = (t : Int)) (x : Nat) : (metIn f R i L j x ∨ x = t) ↔ metIn f R i L (j + 1) x := by
  unfold metIn
  rw [List.take_succ_eq_append_getElem hj, List.mem_append, List.mem_singleton, e]
  constructor
  · rintro ((h | h) | h)
    · exact .inl h
    · exact .inr (.inl h)
    · exact .inr (.inr (by omega))
  · rintro (h | h | h)
    · exact .inl (.inl h)
    · exact .inl (.inr h)
    · exact .inr (by omega)
theorem metInDone {n : Nat} {f : Nat → Nat → Bool} {R : List Nat} {i r : Nat} (hi : i < R.length) (hr : R[i] = r) {j : Nat} (hj : (sucI n (fun x y => f y x) r).length ≤ j) {x : Nat} (hx : x < n) : metIn f R i (sucI n (fun x y => f y x) r) j x ↔ metBy f R (i + 1) x := by
  unfold metIn metBy
  rw [List.take_of_length_le hj, List.take_succ_eq_append_getElem hi, hr]
  constructor
  · rintro (⟨q, h1, h2⟩ | h)
    · exact ⟨q, List.mem_append.2 (.inl h1), h2⟩
    · obtain ⟨y, h1, _, h3⟩ := sucMem.1 h
      obtain rfl : x = y := by omega
      exact ⟨r, by simp, h3⟩
  · rintro ⟨q, h1, h2⟩
    rw [List.mem_append, List.mem_singleton] at h1
    rcases h1 with h1 | rfl
    · exact .inl ⟨q, h1, h2⟩
    · exact .inr (sucMem.2 ⟨x, rfl, hx, h2⟩)
theorem metAll {f : Nat → Nat → Bool} {R : List Nat} {i : Nat} (hi : R.length ≤ i) (x : Nat) : metBy f R i x ↔ ∃ r, r ∈ R ∧ f x r = true := by
  unfold metBy
  rw [List.take_of_length_le hi]

end Go.Proofs.Ytpfdhjmhoggioaa
