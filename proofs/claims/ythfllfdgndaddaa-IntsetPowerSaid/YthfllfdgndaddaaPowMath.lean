/-
  Plain facts about the power set: how many sublists there are, and in which order they come, without any program.
-/
import Derived.Test.YthfllfdgndaddaaCombos
namespace Go.Proofs.Ythfllfdgndaddaa

/-- Is the first list smaller, element by element? -/
def lessB : List Int → List Int → Bool
  | x :: a, y :: b => if x = y then lessB a b else decide (x < y)
  | _, _ => false
/-- Shorter, or of the same length and smaller. -/
def Bef (a b : List Int) : Prop := a.length < b.length ∨ (a.length = b.length ∧ lessB a b = true)

theorem lenUpSucc (x : Int) (l : List Int) : ∀ k, (upTo (x :: l) (k + 1)).length = (upTo l k).length + (upTo l (k + 1)).length
  | 0 => by simp [upTo, combosZero]
  | k + 1 => by
    have ih := lenUpSucc x l k
    rw [upTo, List.length_append, ih]
    rw [combos, List.length_append, List.length_map]
    have e1 : (upTo l (k + 1)).length = (upTo l k).length + (combos l k).length := by rw [upTo, List.length_append]
    have e2 : (upTo l (k + 1 + 1)).length = (upTo l (k + 1)).length + (combos l (k + 1)).length := by rw [upTo, List.length_append]
    omega
theorem lenUpAll : ∀ s : List Int, (upTo s (s.length + 1)).length = 2 ^ s.length
  | [] => by simp [upTo, combosZero]
  | x :: l => by
    have ih := lenUpAll l
    rw [List.length_cons, lenUpSucc, upTo.eq_2 l (l.length + 1), List.length_append, combosShort (Nat.lt_succ_self _), ih, List.length_nil, Nat.pow_succ]
    omega

theorem lessCons (x : Int) (a b : List Int) : lessB (x :: a) (x :: b) = lessB a b := by simp [lessB]
theorem srtCombo : ∀ {l : List Int} {k : Nat} {x : List Int}, Srt l → x ∈ combos l k → Srt x
  | l, 0, x, _, h => by rw [combosZero] at h; simp at h; subst h; exact srtNil
  | [], k + 1, x, _, h => by simp [combos] at h
  | a :: l, k + 1, x, hs, h => by
    obtain ⟨h1, h2⟩ := srtCons.1 hs
    rw [combos, List.mem_append, List.mem_map] at h
    rcases h with ⟨y, hy, rfl⟩ | h
    · exact srtCons.2 ⟨fun z hz => h1 z (subOfCombo hy z hz), srtCombo h2 hy⟩
    · exact srtCombo h2 h
theorem pwMap {R S : List Int → List Int → Prop} (h : ∀ a b, R a b → S a b) {l : List (List Int)} (hl : l.Pairwise R) : l.Pairwise S := by
  rw [List.pairwise_iff_getElem] at hl ⊢
  intro i j hi hj hij
  exact h _ _ (hl i j hi hj hij)
theorem combosOrder : ∀ {l : List Int} {k : Nat}, Srt l → (combos l k).Pairwise fun a b => lessB a b = true
  | l, 0, _ => by rw [combosZero]; simp
  | [], k + 1, _ => by simp [combos]
  | x :: l, k + 1, hs => by
    obtain ⟨h1, h2⟩ := srtCons.1 hs
    rw [combos, List.pairwise_append, List.pairwise_map]
    refine ⟨pwMap (fun a b h => by rw [lessCons]; exact h) (combosOrder h2), combosOrder h2, fun a ha b hb => ?_⟩
    obtain ⟨a', _, rfl⟩ := List.mem_map.1 ha
    have hbl := lenOfCombo hb
    rcases b with _ | ⟨y, b⟩
    · simp at hbl
    · have : x < y := h1 y (subOfCombo hb y (by simp))
      rw [lessB, if_neg (by omega)]
      exact decide_eq_true this
theorem lenOfUp {s : List Int} : ∀ {k : Nat} {x : List Int}, x ∈ upTo s k → x.length < k
  | k + 1, x, h => by
    rw [upTo, List.mem_append] at h
    rcases h with h | h
    · have := lenOfUp h; omega
    · rw [lenOfCombo h]; omega
theorem upOrder {s : List Int} (hs : Srt s) : ∀ k, (upTo s k).Pairwise Bef
  | 0 => List.Pairwise.nil
  | k + 1 => by
    rw [upTo, List.pairwise_append]
    refine ⟨upOrder hs k, ?_, fun a ha b hb => Or.inl ?_⟩
    · refine List.Pairwise.imp_of_mem (fun ha hb h => ?_) (combosOrder (k := k) hs)
      exact Or.inr ⟨by rw [lenOfCombo ha, lenOfCombo hb], h⟩
    · rw [lenOfCombo hb]; exact lenOfUp ha
theorem upMem {s : List Int} : ∀ {k : Nat} {x : List Int}, x ∈ upTo s k → ∃ j, x ∈ combos s j
  | k + 1, x, h => by
    rw [upTo, List.mem_append] at h
    rcases h with h | h
    · exact upMem h
    · exact ⟨k, h⟩
theorem upSrt {s x : List Int} {k : Nat} (hs : Srt s) (h : x ∈ upTo s k) : Srt x := by obtain ⟨j, hj⟩ := upMem h; exact srtCombo hs hj
theorem upSub {s x : List Int} {k : Nat} (h : x ∈ upTo s k) : ∀ y ∈ x, y ∈ s := by obtain ⟨j, hj⟩ := upMem h; exact subOfCombo hj
theorem upAdj {s : List Int} {k i : Nat} (hs : Srt s) (hi : i < (upTo s k).length) (h0 : 0 < i) : Bef ((upTo s k)[i - 1]) ((upTo s k)[i]) :=
  List.pairwise_iff_getElem.1 (upOrder hs k) (i - 1) i (by omega) hi (by omega)

/-- The comparison, looked at from place k on. -/
theorem lessAt {a b : List Int} {k : Nat} (h : lessB (a.drop k) (b.drop k) = true) : ∃ (ha : k < a.length) (hb : k < b.length), (a[k] = b[k] ∧ lessB (a.drop (k + 1)) (b.drop (k + 1)) = true) ∨ a[k] < b[k] := by
  rcases Nat.lt_or_ge k a.length with ha | ha
  · rcases Nat.lt_or_ge k b.length with hb | hb
    · refine ⟨ha, hb, ?_⟩
      rw [List.drop_eq_getElem_cons ha, List.drop_eq_getElem_cons hb, lessB] at h
      split at h
      · exact Or.inl ⟨by assumption, h⟩
      · exact Or.inr (of_decide_eq_true h)
    · rw [List.drop_eq_nil_of_le hb] at h
      cases hc : a.drop k <;> rw [hc] at h <;> simp [lessB] at h
  · rw [List.drop_eq_nil_of_le ha] at h
    simp [lessB] at h
end Go.Proofs.Ythfllfdgndaddaa
