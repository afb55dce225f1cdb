/-
  The contracts of hasTarget, finalTarget and simplify.Thread.
-/
import Derived.Test.YtnnpkbonbemeaaaDoorYSa
import Derived.Test.YtnnpkbonbemeaaaDoorYSb
import Derived.Test.YtnnpkbonbemeaaaDoorYCd
import Derived.Deep.CutRange
import Derived.Deep.DeepCutAuto
namespace Go.Proofs.YtnnpkbonbemeaaaDoor
open Go Go.RowKit

set_option maxRecDepth 100000 in
set_option maxHeartbeats 2000000 in
theorem iHasTgt (i : I8) (w : World) : Calls Tryd.prog 40 #[i.val] w fun e w' => e = .returned (.bool i.jmp) ∧ Below w.heap.size w w' := by
  obtain ⟨r, hr⟩ : ∃ r, i.jmp = r := ⟨_, rfl⟩
  rw [hr]
  obtain ⟨op, ra, rb, rc, obj, m, fn, ord⟩ := i
  obtain ⟨W, hW, hbW, -, hbox⟩ := boxNew w op ra rb rc obj m fn ord
  obtain ⟨c0, c1, c2, c3, c4, c5, c6, c7⟩ := boxFactsW hbox
  have HW := Lib.hid hW
  have HBW := Lib.hid hbW
  have hr : (decide (op = 4) || decide (op = 5)) = r := hr
  unfold I8.val
  simp only
  clear hW hbW hbox c1 c2 c3 c4 c5 c6 c7
  by_cases h4 : op = 4
  · subst h4
    have hr : true = r := hr
    subst hr
    go_enter Tryd.func40, Tryd.ntmps40
    go_wp2_with fail
    rw [HW.out]
    go_wp2
    go_ret
    exact ⟨rfl, HBW.out⟩
  · have z4 : (op == 4) = false := by simpa using h4
    by_cases h5 : op = 5
    · subst h5
      have hr : true = r := hr
      subst hr
      go_enter Tryd.func40, Tryd.ntmps40
      go_wp2_with fail
      rw [HW.out]
      go_wp2
      go_ret
      exact ⟨rfl, HBW.out⟩
    · have z5 : (op == 5) = false := by simpa using h5
      have hr : false = r := by rw [← hr, decide_eq_false h4, decide_eq_false h5]; rfl
      subst hr
      clear h4 h5
      go_enter Tryd.func40, Tryd.ntmps40
      go_wp2_with fail
      rw [HW.out]
      go_wp2
      go_ret
      exact ⟨rfl, HBW.out⟩
theorem retN {a b : Nat} (h : a = b) : Ending.returned (.int .i64 (a : Int)) = .returned (.int .i64 (b : Int)) := by rw [h]
set_option maxRecDepth 100000 in
set_option maxHeartbeats 4000000 in
theorem iFinalT (C : List I8) (hok : CfOk C) (n : Nat) (hn : C.length = n) (A : Option Addr) (c : Nat) (w : World) (hr : RdE 8 EI w A c C) (k t : Nat) (hk : k < C.length) (hj : C[k].jmp = true) (ht : C[k].n.toNat = t) :
    Calls Tryd.prog 41 #[.slice A n c, .int .i64 (t : Int)] w fun e w' => e = .returned (.int .i64 ((fin C t : Nat) : Int)) ∧ Below w.heap.size w w' := by
  have htn : t ≤ n := by have := hok.tgt _ (List.getElem_mem hk) hj; omega
  have HRD := Lib.hid (fun X (hX : Below w.heap.size w X) => hr.below stabI hX)
  obtain ⟨r, hre⟩ : ∃ r, fin C t = r := ⟨_, rfl⟩
  have HY := Lib.hid (fun j u (h1 : ptJ C t j = some u) (h2 : nxJ C u = none) => ((finYes ⟨j, h1, h2⟩).symm.trans hre : u = r))
  have HNO := Lib.hid (fun u (h1 : ptJ C t C.length = some u) => ((finLongN h1 hk hj ht).symm.trans hre : t = r))
  have HT := Lib.hid (fun u (hu : u < C.length) (h4 : C[u].op = 4) => hok.tgt _ (List.getElem_mem hu) (jmp4 h4))
  have HN := Lib.hid hn
  have h64 : n ≤ 64 := by have := hok.len; omega
  have hle := hr.le
  have hmx := hr.max
  rw [hn] at hle
  unfold maxLen at hmx
  rw [hre]
  clear hre hr hok hj ht hk
  go_enter Tryd.func41, Tryd.ntmps41
  go_wp2
  go_loopg [5, 9] n (fun g u i X => ∃ j z : Nat, j + g = n ∧ i = .int .i64 j ∧ u = .int .i64 (z : Int) ∧ z ≤ n ∧ Hid (ptJ C t j = some z) ∧ Below w.heap.size w X)
  case atStart => exact ⟨0, t, by omega, rfl, rfl, htn, Lib.hid rfl, Below.refl _ _⟩
  case round =>
    obtain ⟨j, z, hj, rfl, rfl, hz, HP, hb⟩ := hrel
    cases gk with
    | zero =>
      have hjn : j = n := by omega
      subst hjn
      have hjz : ¬ ((j : Int) < j) := by omega
      have HX := Lib.hid (HNO.out z (by rw [HN.out]; exact HP.out))
      go_wp2
      go_ret
      exact ⟨retN HX.out, hb⟩
    | succ g2 =>
      have hj1 : (j : Int) < n := by omega
      by_cases hzn : z = n
      · subst hzn
        have HX := Lib.hid (HY.out j z HP.out (nxOut (by rw [HN.out]; exact Nat.le_refl _)))
        go_wp2
        go_ret
        exact ⟨retN HX.out, hb⟩
      · have hzl : z < C.length := by rw [HN.out]; omega
        obtain ⟨q, off, hA, _, i0, i1, i2, i3, i4, i5, i6, i7⟩ := (HRD.out wr hb).one hzl
        have hA : A = _ := hA
        subst hA
        have hz0 : (0 : Int) ≤ z := by omega
        have hz1 : (z : Int) < n := by omega
        have ze : ((z : Int) == (n : Int)) = false := by simp; omega
        have HNX := Lib.hid (nxAtF hzl)
        have HTT := Lib.hid (HT.out z hzl)
        obtain ⟨ii, hii⟩ : ∃ x, C[z] = x := ⟨_, rfl⟩
        rw [hii] at i0 i5 HNX HTT
        clear hii i1 i2 i3 i4 i6 i7 hzn
        obtain ⟨op, ra, rb, rc, obj, m, fn, ord⟩ := ii
        simp only at i0 i5 HNX HTT
        by_cases h4 : op = 4
        · subst h4
          have hm := HTT.out rfl
          have HP2 : Hid (ptJ C t (j + 1) = some m.toNat) := Lib.hid (by rw [ptS HP.out, HNX.out, if_pos rfl])
          have hmn : m.toNat ≤ n := by rw [HN.out] at hm; omega
          have em : m = ((m.toNat : Nat) : Int) := by omega
          generalize m.toNat = m2 at HP2 hmn em
          subst em
          clear hm
          go_wp2
          go_roundg g2
          case measure => omega
          case rel => exact ⟨j + 1, m2, by omega, by go_num, rfl, hmn, HP2, hb⟩
        · have z4 : (op != 4) = true := by simpa using h4
          have HX := Lib.hid (HY.out j z HP.out (by rw [HNX.out, if_neg h4]))
          clear h4
          go_wp2
          go_ret
          exact ⟨retN HX.out, hb⟩
end Go.Proofs.YtnnpkbonbemeaaaDoor

namespace Go.Proofs.YtnnpkbonbemeaaaDoor
open Go Go.RowKit Go.Maps

noncomputable def thK (C : List I8) (k : Nat) : List I8 := (C.take k).map (thI C)
theorem thKS {C : List I8} {k : Nat} (hk : k < C.length) : thK C (k + 1) = thK C k ++ [thI C C[k]] := by
  unfold thK
  rw [List.take_succ_eq_append_getElem hk, List.map_append]; rfl
theorem thKAll {C : List I8} : thK C C.length = thL C := by unfold thK thL; rw [List.take_length]
theorem thKLen {C : List I8} {k : Nat} (hk : k ≤ C.length) : (thK C k).length = k := by unfold thK; rw [List.length_map, List.length_take]; omega
/-- What lies in memory while the code is threaded. -/
structure ThStF (w1 : World) (nm : ByteArray) (L : List I8) (X : World) : Prop where
  bel : Below w1.heap.size w1 X
  fn : ∃ v, FnSv X w1.heap.size (w1.heap.size + 1) nm v L
theorem thStartF (w1 : World) (nm : ByteArray) : ThStF w1 nm [] (w1.alloc (.cells #[.string nm, .slice none 0 0] 42)) :=
  ⟨belowAlloc _ _, ⟨_, ⟨Blk.new w1 _ _, OwnC8.nil _ _, by omega, by simp⟩⟩⟩
end Go.Proofs.YtnnpkbonbemeaaaDoor
