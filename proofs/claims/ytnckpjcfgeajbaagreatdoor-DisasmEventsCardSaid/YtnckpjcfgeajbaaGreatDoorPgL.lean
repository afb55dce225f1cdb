/-
  The checks of package program that are closures over the program: names, limits, initial values, threads.
-/
import Derived.Test.YtnckpjcfgeajbaaGreatDoorPgK
namespace Go.Proofs.YtnckpjcfgeajbaaGreatDoor
open Go Go.RowKit

theorem nameAt1 {b : Nat} {a : PgA} {p : Prg} {w : World} (hP : PgW w a p) (hB : PBox w b a) : ∀ X, Below w.heap.size w X → ∀ k (hk : k < (p.vars.map (·.1)).length), Calls Tryz.prog 152 #[.int .i64 (k : Int), .pointer (some ⟨b, 0, none⟩)] X fun e X' => e = .returned (.string (p.vars.map (·.1))[k]) ∧ X = X' := by
  intro X hX k hk
  have hP := hP.below hX
  have hB := hB.below hX
  have hk' : k < p.vars.length := by simpa using hk
  obtain ⟨c0, _⟩ := hB.facts
  obtain ⟨q, off, hA, _, h1, _⟩ := hP.vars.one hk'
  have hl := hP.l1
  have hm := hP.vars.max
  have hle := hP.vars.le
  rw [List.getElem_map]
  obtain ⟨s, hs⟩ : ∃ s, p.vars[k].1 = s := ⟨_, rfl⟩
  rw [hs] at h1 ⊢
  rw [hA] at c0
  rw [hl] at hle hk'
  unfold maxLen at hm
  generalize a.n1 = n1 at *
  generalize a.c1 = cp at *
  clear hs hP hB hk hA hl hX
  have hk0 : (0 : Int) ≤ k := by omega
  have hk1 : (k : Int) < n1 := by omega
  go_enter Tryz.func152, Tryz.ntmps152
  go_wp2
  go_ret
  exact ⟨rfl, rfl⟩
theorem nameAt4 {b : Nat} {a : PgA} {p : Prg} {w : World} (hP : PgW w a p) (hB : PBox w b a) : ∀ X, Below w.heap.size w X → ∀ k (hk : k < (p.funcs.map (·.1)).length), Calls Tryz.prog 155 #[.int .i64 (k : Int), .pointer (some ⟨b, 0, none⟩)] X fun e X' => e = .returned (.string (p.funcs.map (·.1))[k]) ∧ X = X' := by
  intro X hX k hk
  have hP := hP.below hX
  have hB := hB.below hX
  have hk' : k < p.funcs.length := by simpa using hk
  obtain ⟨_, _, _, c0, _⟩ := hB.facts
  obtain ⟨q, off, hA, _, h1, _⟩ := hP.funcs.one hk'
  have hl := hP.l4
  have hm := hP.funcs.max
  have hle := hP.funcs.le
  rw [List.getElem_map]
  obtain ⟨s, hs⟩ : ∃ s, p.funcs[k].1 = s := ⟨_, rfl⟩
  rw [hs] at h1 ⊢
  rw [hA] at c0
  rw [hl] at hle hk'
  unfold maxLen at hm
  generalize a.n4 = n1 at *
  generalize a.c4 = cp at *
  clear hs hP hB hk hA hl hX
  have hk0 : (0 : Int) ≤ k := by omega
  have hk1 : (k : Int) < n1 := by omega
  go_enter Tryz.func155, Tryz.ntmps155
  go_wp2
  go_ret
  exact ⟨rfl, rfl⟩
theorem nameAt2 {b : Nat} {a : PgA} {p : Prg} {w : World} (hP : PgW w a p) (hB : PBox w b a) : ∀ X, Below w.heap.size w X → ∀ k (hk : k < p.muts.length), Calls Tryz.prog 153 #[.int .i64 (k : Int), .pointer (some ⟨b, 0, none⟩)] X fun e X' => e = .returned (.string p.muts[k]) ∧ X = X' := by
  intro X hX k hk
  have hP := hP.below hX
  have hB := hB.below hX
  obtain ⟨_, c0, _⟩ := hB.facts
  obtain ⟨q, off, hA, _, h1⟩ := hP.muts.one hk
  have hl := hP.l2
  have hm := hP.muts.max
  have hle := hP.muts.le
  obtain ⟨s, hs⟩ : ∃ s, p.muts[k] = s := ⟨_, rfl⟩
  unfold ES at h1
  rw [hs, Nat.mul_one] at h1
  rw [hs]
  rw [hA] at c0
  have hk' : k < a.n2 := by omega
  rw [hl] at hle
  unfold maxLen at hm
  generalize a.n2 = n1 at *
  generalize a.c2 = cp at *
  clear hs hP hB hk hA hl hX
  have hk0 : (0 : Int) ≤ k := by omega
  have hk1 : (k : Int) < n1 := by omega
  go_enter Tryz.func153, Tryz.ntmps153
  go_wp2
  go_ret
  exact ⟨rfl, rfl⟩
theorem nameAt3 {b : Nat} {a : PgA} {p : Prg} {w : World} (hP : PgW w a p) (hB : PBox w b a) : ∀ X, Below w.heap.size w X → ∀ k (hk : k < p.conds.length), Calls Tryz.prog 154 #[.int .i64 (k : Int), .pointer (some ⟨b, 0, none⟩)] X fun e X' => e = .returned (.string p.conds[k]) ∧ X = X' := by
  intro X hX k hk
  have hP := hP.below hX
  have hB := hB.below hX
  obtain ⟨_, _, c0, _⟩ := hB.facts
  obtain ⟨q, off, hA, _, h1⟩ := hP.conds.one hk
  have hl := hP.l3
  have hm := hP.conds.max
  have hle := hP.conds.le
  obtain ⟨s, hs⟩ : ∃ s, p.conds[k] = s := ⟨_, rfl⟩
  unfold ES at h1
  rw [hs, Nat.mul_one] at h1
  rw [hs]
  rw [hA] at c0
  have hk' : k < a.n3 := by omega
  rw [hl] at hle
  unfold maxLen at hm
  generalize a.n3 = n1 at *
  generalize a.c3 = cp at *
  clear hs hP hB hk hA hl hX
  have hk0 : (0 : Int) ≤ k := by omega
  have hk1 : (k : Int) < n1 := by omega
  go_enter Tryz.func154, Tryz.ntmps154
  go_wp2
  go_ret
  exact ⟨rfl, rfl⟩
/-- The limits. -/
theorem iLimits {b : Nat} {a : PgA} {p : Prg} (w : World) (hP : PgW w a p) (hB : PBox w b a) : Calls Tryz.prog 156 #[.pointer (some ⟨b, 0, none⟩)] w fun e w' => e = err3 (if p.many then (4, -1, -1) else (0, -1, -1)) ∧ w = w' := by
  obtain ⟨c0, c1, c2, c3, _⟩ := hB.facts
  have HE : Hid (p.many = (decide (8 < a.n1) || decide (4 < a.n2) || decide (4 < a.n3) || decide (8 < a.n4))) := by unfold Prg.many; rw [hP.l1, hP.l2, hP.l3, hP.l4]; exact Lib.hid rfl
  have m1 := hP.vars.max
  have m2 := hP.muts.max
  have m3 := hP.conds.max
  have m4 := hP.funcs.max
  have e1 := hP.vars.le
  have e2 := hP.muts.le
  have e3 := hP.conds.le
  have e4 := hP.funcs.le
  rw [hP.l1] at e1
  rw [hP.l2] at e2
  rw [hP.l3] at e3
  rw [hP.l4] at e4
  unfold maxLen at m1 m2 m3 m4
  generalize a.n1 = n1 at *
  generalize a.n2 = n2 at *
  generalize a.n3 = n3 at *
  generalize a.n4 = n4 at *
  generalize p.many = r at HE ⊢
  clear hP hB
  by_cases h1 : 8 < n1
  · have hr : r = true := by rw [HE.out]; simp [h1]
    subst hr
    clear HE
    go_enter Tryz.func156, Tryz.ntmps156
    go_wp2
    go_ret3
    exact ⟨by first | rfl | simp [err3], rfl⟩
  by_cases h2 : 4 < n2
  · have hr : r = true := by rw [HE.out]; simp [h2]
    subst hr
    clear HE
    go_enter Tryz.func156, Tryz.ntmps156
    go_wp2
    go_ret3
    exact ⟨by first | rfl | simp [err3], rfl⟩
  by_cases h3 : 4 < n3
  · have hr : r = true := by rw [HE.out]; simp [h3]
    subst hr
    clear HE
    go_enter Tryz.func156, Tryz.ntmps156
    go_wp2
    go_ret3
    exact ⟨by first | rfl | simp [err3], rfl⟩
  by_cases h4 : 8 < n4
  · have hr : r = true := by rw [HE.out]; simp [h4]
    subst hr
    clear HE
    go_enter Tryz.func156, Tryz.ntmps156
    go_wp2
    go_ret3
    exact ⟨by first | rfl | simp [err3], rfl⟩
  have hr : r = false := by rw [HE.out]; simp [h1, h2, h3, h4]
  subst hr
  clear HE
  go_enter Tryz.func156, Tryz.ntmps156
  go_wp2
  go_ret3
  exact ⟨by first | rfl | simp [err3], rfl⟩
end Go.Proofs.YtnckpjcfgeajbaaGreatDoor
