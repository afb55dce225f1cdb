/-
  Plain facts about the sublists of a given length, in lexicographic order, without any program.
-/
import Derived.Test.YthfllfdgndaddaaSetMath
namespace Go.Proofs.Ythfllfdgndaddaa

/-- The sublists of length k, in lexicographic order. -/
def combos : List Int → Nat → List (List Int)
  | _, 0 => [[]]
  | [], _ + 1 => []
  | x :: l, k + 1 => (combos l k).map (x :: ·) ++ combos l (k + 1)
theorem combosZero (l : List Int) : combos l 0 = [[]] := by cases l <;> rfl
/-- c followed by each of the sublists of l of length k. -/
def chs (c l : List Int) (k : Nat) : List (List Int) := (combos l k).map (c ++ ·)
theorem chsZero (c l : List Int) : chs c l 0 = [c] := by simp [chs, combosZero]
theorem combosShort : ∀ {l : List Int} {k : Nat}, l.length < k → combos l k = []
  | [], k + 1, _ => rfl
  | x :: l, k + 1, h => by
    rw [List.length_cons] at h
    rw [combos, combosShort (by omega), combosShort (by omega)]; rfl
theorem chsShort {c l : List Int} {k : Nat} (h : l.length < k) : chs c l k = [] := by rw [chs, combosShort h]; rfl
theorem chsStep {c l : List Int} {k i : Nat} (h : i < l.length) : chs c (l.drop i) (k + 1) = chs (c ++ [l[i]]) (l.drop (i + 1)) k ++ chs c (l.drop (i + 1)) (k + 1) := by
  rw [List.drop_eq_getElem_cons h]
  unfold chs
  rw [combos, List.map_append, List.map_map]
  congr 1
  refine List.map_congr_left fun a _ => ?_
  simp

/-- All sublists, by length. -/
def upTo (s : List Int) : Nat → List (List Int)
  | 0 => []
  | k + 1 => upTo s k ++ combos s k
theorem chsNil (l : List Int) (k : Nat) : chs [] l k = combos l k := by simp [chs]

theorem lenCombosLe : ∀ (l : List Int) (k : Nat), (combos l k).length ≤ 2 ^ l.length
  | [], 0 => by simp [combos]
  | [], k + 1 => by simp [combos]
  | x :: l, 0 => by rw [combosZero]; exact Nat.one_le_two_pow
  | x :: l, k + 1 => by
    rw [combos, List.length_append, List.length_map, List.length_cons, Nat.pow_succ]
    have := lenCombosLe l k
    have := lenCombosLe l (k + 1)
    omega
theorem lenUpTo (s : List Int) (m : Nat) : ∀ k, k ≤ m → (upTo s k).length ≤ k * 2 ^ s.length
  | 0, _ => by simp [upTo]
  | k + 1, h => by
    rw [upTo, List.length_append, Nat.add_mul]
    have := lenUpTo s m k (by omega)
    have := lenCombosLe s k
    omega
/-- Each sublist has the length asked for. -/
theorem lenOfCombo : ∀ {l : List Int} {k : Nat} {x : List Int}, x ∈ combos l k → x.length = k
  | l, 0, x, h => by rw [combosZero] at h; simp at h; subst h; rfl
  | [], k + 1, x, h => by simp [combos] at h
  | a :: l, k + 1, x, h => by
    rw [combos, List.mem_append, List.mem_map] at h
    rcases h with ⟨y, hy, rfl⟩ | h
    · rw [List.length_cons, lenOfCombo hy]
    · exact lenOfCombo h

/-- What the reference's grow makes of the sets xs over the elements s. -/
def ext (x : List Int) (s : List Int) : List (List Int) := (s.filter fun y => x.isEmpty || decide (x.getLastD 0 < y)).map fun y => x ++ [y]
def growL (xs : List (List Int)) (s : List Int) : List (List Int) := xs.flatMap fun x => ext x s
theorem subOfCombo : ∀ {l : List Int} {k : Nat} {x : List Int}, x ∈ combos l k → ∀ y ∈ x, y ∈ l
  | l, 0, x, h => by rw [combosZero] at h; simp at h; subst h; simp
  | [], k + 1, x, h => by simp [combos] at h
  | a :: l, k + 1, x, h => by
    rw [combos, List.mem_append, List.mem_map] at h
    rcases h with ⟨y, hy, rfl⟩ | h
    · intro z hz
      rw [List.mem_cons] at hz ⊢
      rcases hz with rfl | hz
      · exact Or.inl rfl
      · exact Or.inr (subOfCombo hy z hz)
    · intro z hz
      exact List.mem_cons_of_mem _ (subOfCombo h z hz)
theorem lastMem {x : List Int} (h : x ≠ []) : x.getLastD 0 ∈ x := by
  rw [List.getLastD_eq_getLast?, List.getLast?_eq_some_getLast h]
  exact List.getLast_mem h
theorem extSkip {a : Int} {s x : List Int} (hs : Srt (a :: s)) (hx : x ≠ []) (hm : ∀ y ∈ x, y ∈ a :: s) : ext x (a :: s) = ext x s := by
  unfold ext
  have h1 := hm _ (lastMem hx)
  have h2 : ¬ x.getLastD 0 < a := by
    rw [List.mem_cons] at h1
    rcases h1 with h1 | h1
    · omega
    · have := (srtCons.1 hs).1 _ h1; omega
  have h3 : x.isEmpty = false := by cases x <;> simp_all
  rw [List.filter_cons, h3, show (false || decide (x.getLastD 0 < a)) = false by simpa using h2]
  rfl
theorem extCons {a : Int} {s x : List Int} (hx : x ≠ []) : ext (a :: x) s = (ext x s).map (a :: ·) := by
  unfold ext
  have h3 : x.isEmpty = false := by cases x <;> simp_all
  have h4 : (a :: x).getLastD 0 = x.getLastD 0 := by
    rcases x with _ | ⟨b, x⟩
    · exact absurd rfl hx
    · rfl
  rw [h4, List.map_map, h3]
  simp
theorem extOne {a : Int} {s : List Int} (hs : Srt (a :: s)) : ext [a] (a :: s) = (ext [] s).map (a :: ·) := by
  unfold ext
  rw [List.filter_cons]
  have h1 : (s.filter fun y => [a].isEmpty || decide ([a].getLastD 0 < y)) = s := by
    rw [List.filter_eq_self]
    intro y hy
    have := (srtCons.1 hs).1 y hy
    simpa using this
  have h2 : (s.filter fun y => ([] : List Int).isEmpty || decide (([] : List Int).getLastD 0 < y)) = s := by
    rw [List.filter_eq_self]; intro y _; rfl
  rw [h1, h2]
  simp
theorem extNil (s : List Int) : ext [] s = s.map fun y => [y] := by
  unfold ext
  have h2 : (s.filter fun y => ([] : List Int).isEmpty || decide (([] : List Int).getLastD 0 < y)) = s := by
    rw [List.filter_eq_self]; intro y _; rfl
  rw [h2]; rfl
theorem combosOne : ∀ s : List Int, combos s 1 = s.map fun y => [y]
  | [] => rfl
  | a :: s => by rw [combos, combosZero, combosOne s]; rfl
theorem flatMapCongr {f g : List Int → List (List Int)} : ∀ {l : List (List Int)}, (∀ x ∈ l, f x = g x) → l.flatMap f = l.flatMap g
  | [], _ => rfl
  | a :: l, h => by rw [List.flatMap_cons, List.flatMap_cons, h a (by simp), flatMapCongr fun x hx => h x (by simp [hx])]
/-- The next level is the next length. -/
theorem growCombos : ∀ {s : List Int} {k : Nat}, Srt s → growL (combos s k) s = combos s (k + 1)
  | s, 0, _ => by rw [combosZero, combosOne]; simp [growL, extNil]
  | [], k + 1, _ => by simp [combos, growL]
  | a :: s, k + 1, hs => by
    have hs' := (srtCons.1 hs).2
    have ih1 := growCombos (k := k) hs'
    have ih2 := growCombos (k := k + 1) hs'
    rw [combos, combos]
    unfold growL at *
    rw [List.flatMap_append]
    congr 1
    · rw [List.flatMap_map, ← ih1, List.map_flatMap]
      refine flatMapCongr fun x hx => ?_
      by_cases h0 : x = []
      · subst h0; exact extOne hs
      · rw [extSkip hs (by simp) (fun y hy => by
          rw [List.mem_cons] at hy ⊢
          rcases hy with rfl | hy
          · exact Or.inl rfl
          · exact Or.inr (subOfCombo hx y hy)), extCons h0]
    · rw [← ih2]
      refine flatMapCongr fun x hx => ?_
      refine extSkip hs ?_ fun y hy => List.mem_cons_of_mem _ (subOfCombo hx y hy)
      have := lenOfCombo hx
      intro e; subst e; simp at this
end Go.Proofs.Ythfllfdgndaddaa
