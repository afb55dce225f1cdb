/-
  The specification's operand and text.
-/
import Derived.Test.YtnckpjcfgeajbaaGreatDoorDsPre
import Derived.Test.YtnckpjcfgeajbaaGreatDoorInsG3
import Derived.Test.YtnckpjcfgeajbaaGreatDoorZmD
import Derived.Test.YtnckpjcfgeajbaaGreatDoorZmC
import Derived.Deep.RegionHeld3
namespace Go.Proofs.YtnckpjcfgeajbaaGreatDoor
open Go Go.RowKit

theorem dsRRoots : True := by
  have := @rCheckP
  have := @rMnem
  have := @rOrd
  have := @rName
  have := @rForm
  have := @rCheck
  trivial
end Go.Proofs.YtnckpjcfgeajbaaGreatDoor

namespace Go.Proofs.YtnckpjcfgeajbaaGreatDoor
open Go Go.RowKit

/-- What a call of the specification gives that tells a text and whether there is one. -/
def gvB (x : Wd) : Ending := .returned (.tuple #[.string (bs x.t), .bool (decide (x.e = 0))])
theorem gvBno (E : Int) (h : E ≠ 0) : gvB (.no E) = .returned (.tuple #[.string ⟨#[]⟩, .bool false]) := by
  unfold gvB
  rw [show decide ((Wd.no E).e = 0) = false from decide_eq_false h]; rfl
theorem gvBok (t : List UInt8) : gvB (.ok t) = .returned (.tuple #[.string (bs t), .bool true]) := rfl
set_option maxHeartbeats 1000000 in
theorem rVn {a : PgA} {p : Prg} (k : Int) (w : World) (hP : PgW w a p) : Calls Tryz.prog 72 #[a.val, .int .u8 118, .int .i64 k] w fun e w' => e = gvB (obW p.vN k) ∧ Below w.heap.size w w' := by
  obtain ⟨W, hWE⟩ : ∃ W, w.alloc (.cells a.fs 28) = W := ⟨_, rfl⟩
  have hbW : Below w.heap.size w W := by rw [← hWE]; exact belowAlloc w _
  have hB : PBox W w.heap.size a := by rw [← hWE]; exact Blk.new w _ _
  have hPW := hP.below hbW
  have hlen : p.vN.length = a.n1 := by rw [← hP.l1]; simp [Prg.vN]
  have hle := hP.vars.le
  have hm := hP.vars.max
  rw [hP.l1] at hle
  unfold maxLen at hm
  have HR := Lib.hid (fun h : belB k p.vN.length = false => show gvB (obW p.vN k) = .returned (.tuple #[.string ⟨#[]⟩, .bool false]) by rw [obW, h]; exact gvBno 11 (by decide))
  have HY := Lib.hid (fun h : belB k p.vN.length = true => show gvB (obW p.vN k) = .returned (.tuple #[.string (p.vN.getD k.toNat ⟨#[]⟩), .bool true]) by rw [obW, if_pos h]; rfl)
  have HF := Lib.hid (fun j (hj : j < p.vars.length) => hPW.vars.one hj)
  have HN := Lib.hid hP.l1
  obtain ⟨g0, g1, g2, g3, g4⟩ := hB.facts
  have HWE := Lib.hid hWE
  have HLN := Lib.hid hlen
  generalize gvB (obW p.vN k) = g at HR HY ⊢
  obtain ⟨A1, n1, c1, A2, n2, c2, A3, n3, c3, A4, n4, c4, A5, n5, c5⟩ := a
  simp only [PgA.val, PgA.fs] at *
  clear hP hPW hB hWE hlen
  by_cases h0 : k < 0
  · have HE := Lib.hid (HR.out (by simp [belB]; omega))
    go_enter Tryz.func72, Tryz.ntmps72
    go_wp2
    rw [HWE.out]
    go_ret2
    exact ⟨HE.out.symm, hbW⟩
  by_cases hk : (n1 : Int) ≤ k
  · have HE := Lib.hid (HR.out (by rw [HLN.out]; simp [belB]; omega))
    go_enter Tryz.func72, Tryz.ntmps72
    go_wp2_with fail
    rw [HWE.out]
    go_wp2
    go_ret2
    exact ⟨HE.out.symm, hbW⟩
  · obtain ⟨j, rfl⟩ : ∃ j : Nat, k = j := ⟨k.toNat, by omega⟩
    have hjl : j < p.vars.length := by have : p.vars.length = n1 := HN.out; omega
    obtain ⟨q, off, hA, -, h1, -⟩ := HF.out j hjl
    have hA : A1 = _ := hA
    subst hA
    have HE := Lib.hid (HY.out (by rw [HLN.out]; simp [belB]; omega))
    rw [Int.toNat_natCast, vNat hjl] at HE
    generalize p.vars[j].1 = s at h1 HE
    have hj0 : (0 : Int) ≤ j := by omega
    have hj1 : (j : Int) < n1 := by omega
    clear hjl
    rw [← HWE.out] at h1
    go_enter Tryz.func72, Tryz.ntmps72
    go_wp2
    rw [HWE.out]
    go_ret2
    exact ⟨HE.out.symm, hbW⟩
set_option maxHeartbeats 1000000 in
theorem rMn {a : PgA} {p : Prg} (k : Int) (w : World) (hP : PgW w a p) : Calls Tryz.prog 72 #[a.val, .int .u8 109, .int .i64 k] w fun e w' => e = gvB (obW p.muts k) ∧ Below w.heap.size w w' := by
  obtain ⟨W, hWE⟩ : ∃ W, w.alloc (.cells a.fs 28) = W := ⟨_, rfl⟩
  have hbW : Below w.heap.size w W := by rw [← hWE]; exact belowAlloc w _
  have hB : PBox W w.heap.size a := by rw [← hWE]; exact Blk.new w _ _
  have hPW := hP.below hbW
  have hlen : p.muts.length = a.n2 := hP.l2
  have hle := hP.muts.le
  have hm := hP.muts.max
  rw [hP.l2] at hle
  unfold maxLen at hm
  have HR := Lib.hid (fun h : belB k p.muts.length = false => show gvB (obW p.muts k) = .returned (.tuple #[.string ⟨#[]⟩, .bool false]) by rw [obW, h]; exact gvBno 11 (by decide))
  have HY := Lib.hid (fun h : belB k p.muts.length = true => show gvB (obW p.muts k) = .returned (.tuple #[.string (p.muts.getD k.toNat ⟨#[]⟩), .bool true]) by rw [obW, if_pos h]; rfl)
  have HF := Lib.hid (fun j (hj : j < p.muts.length) => hPW.muts.one hj)
  have HN := Lib.hid hP.l2
  obtain ⟨g0, g1, g2, g3, g4⟩ := hB.facts
  have HWE := Lib.hid hWE
  have HLN := Lib.hid hlen
  generalize gvB (obW p.muts k) = g at HR HY ⊢
  obtain ⟨A1, n1, c1, A2, n2, c2, A3, n3, c3, A4, n4, c4, A5, n5, c5⟩ := a
  simp only [PgA.val, PgA.fs] at *
  clear hP hPW hB hWE hlen
  by_cases h0 : k < 0
  · have HE := Lib.hid (HR.out (by simp [belB]; omega))
    go_enter Tryz.func72, Tryz.ntmps72
    go_wp2
    rw [HWE.out]
    go_ret2
    exact ⟨HE.out.symm, hbW⟩
  by_cases hk : (n2 : Int) ≤ k
  · have HE := Lib.hid (HR.out (by rw [HLN.out]; simp [belB]; omega))
    go_enter Tryz.func72, Tryz.ntmps72
    go_wp2_with fail
    rw [HWE.out]
    go_wp2
    go_ret2
    exact ⟨HE.out.symm, hbW⟩
  · obtain ⟨j, rfl⟩ : ∃ j : Nat, k = j := ⟨k.toNat, by omega⟩
    have hjl : j < p.muts.length := by have : p.muts.length = n2 := HN.out; omega
    obtain ⟨q, off, hA, -, h1⟩ := HF.out j hjl
    have hA : A2 = _ := hA
    subst hA
    unfold ES at h1
    rw [Nat.mul_one] at h1
    have HE := Lib.hid (HY.out (by rw [HLN.out]; simp [belB]; omega))
    rw [Int.toNat_natCast, mNat hjl] at HE
    generalize p.muts[j] = s at h1 HE
    have hj0 : (0 : Int) ≤ j := by omega
    have hj1 : (j : Int) < n2 := by omega
    clear hjl
    rw [← HWE.out] at h1
    go_enter Tryz.func72, Tryz.ntmps72
    go_wp2
    rw [HWE.out]
    go_ret2
    exact ⟨HE.out.symm, hbW⟩
set_option maxHeartbeats 1000000 in
theorem rCn {a : PgA} {p : Prg} (k : Int) (w : World) (hP : PgW w a p) : Calls Tryz.prog 72 #[a.val, .int .u8 99, .int .i64 k] w fun e w' => e = gvB (obW p.conds k) ∧ Below w.heap.size w w' := by
  obtain ⟨W, hWE⟩ : ∃ W, w.alloc (.cells a.fs 28) = W := ⟨_, rfl⟩
  have hbW : Below w.heap.size w W := by rw [← hWE]; exact belowAlloc w _
  have hB : PBox W w.heap.size a := by rw [← hWE]; exact Blk.new w _ _
  have hPW := hP.below hbW
  have hlen : p.conds.length = a.n3 := hP.l3
  have hle := hP.conds.le
  have hm := hP.conds.max
  rw [hP.l3] at hle
  unfold maxLen at hm
  have HR := Lib.hid (fun h : belB k p.conds.length = false => show gvB (obW p.conds k) = .returned (.tuple #[.string ⟨#[]⟩, .bool false]) by rw [obW, h]; exact gvBno 11 (by decide))
  have HY := Lib.hid (fun h : belB k p.conds.length = true => show gvB (obW p.conds k) = .returned (.tuple #[.string (p.conds.getD k.toNat ⟨#[]⟩), .bool true]) by rw [obW, if_pos h]; rfl)
  have HF := Lib.hid (fun j (hj : j < p.conds.length) => hPW.conds.one hj)
  have HN := Lib.hid hP.l3
  obtain ⟨g0, g1, g2, g3, g4⟩ := hB.facts
  have HWE := Lib.hid hWE
  have HLN := Lib.hid hlen
  generalize gvB (obW p.conds k) = g at HR HY ⊢
  obtain ⟨A1, n1, c1, A2, n2, c2, A3, n3, c3, A4, n4, c4, A5, n5, c5⟩ := a
  simp only [PgA.val, PgA.fs] at *
  clear hP hPW hB hWE hlen
  by_cases h0 : k < 0
  · have HE := Lib.hid (HR.out (by simp [belB]; omega))
    go_enter Tryz.func72, Tryz.ntmps72
    go_wp2
    rw [HWE.out]
    go_ret2
    exact ⟨HE.out.symm, hbW⟩
  by_cases hk : (n3 : Int) ≤ k
  · have HE := Lib.hid (HR.out (by rw [HLN.out]; simp [belB]; omega))
    go_enter Tryz.func72, Tryz.ntmps72
    go_wp2_with fail
    rw [HWE.out]
    go_wp2
    go_ret2
    exact ⟨HE.out.symm, hbW⟩
  · obtain ⟨j, rfl⟩ : ∃ j : Nat, k = j := ⟨k.toNat, by omega⟩
    have hjl : j < p.conds.length := by have : p.conds.length = n3 := HN.out; omega
    obtain ⟨q, off, hA, -, h1⟩ := HF.out j hjl
    have hA : A3 = _ := hA
    subst hA
    unfold ES at h1
    rw [Nat.mul_one] at h1
    have HE := Lib.hid (HY.out (by rw [HLN.out]; simp [belB]; omega))
    rw [Int.toNat_natCast, mNat hjl] at HE
    generalize p.conds[j] = s at h1 HE
    have hj0 : (0 : Int) ≤ j := by omega
    have hj1 : (j : Int) < n3 := by omega
    clear hjl
    rw [← HWE.out] at h1
    go_enter Tryz.func72, Tryz.ntmps72
    go_wp2
    rw [HWE.out]
    go_ret2
    exact ⟨HE.out.symm, hbW⟩
set_option maxHeartbeats 1000000 in
theorem rFn {a : PgA} {p : Prg} (k : Int) (w : World) (hP : PgW w a p) : Calls Tryz.prog 72 #[a.val, .int .u8 102, .int .i64 k] w fun e w' => e = gvB (obW p.fN k) ∧ Below w.heap.size w w' := by
  obtain ⟨W, hWE⟩ : ∃ W, w.alloc (.cells a.fs 28) = W := ⟨_, rfl⟩
  have hbW : Below w.heap.size w W := by rw [← hWE]; exact belowAlloc w _
  have hB : PBox W w.heap.size a := by rw [← hWE]; exact Blk.new w _ _
  have hPW := hP.below hbW
  have hlen : p.fN.length = a.n4 := by rw [← hP.l4]; simp [Prg.fN]
  have hle := hP.funcs.le
  have hm := hP.funcs.max
  rw [hP.l4] at hle
  unfold maxLen at hm
  have HR := Lib.hid (fun h : belB k p.fN.length = false => show gvB (obW p.fN k) = .returned (.tuple #[.string ⟨#[]⟩, .bool false]) by rw [obW, h]; exact gvBno 11 (by decide))
  have HY := Lib.hid (fun h : belB k p.fN.length = true => show gvB (obW p.fN k) = .returned (.tuple #[.string (p.fN.getD k.toNat ⟨#[]⟩), .bool true]) by rw [obW, if_pos h]; rfl)
  have HF := Lib.hid (fun j (hj : j < p.funcs.length) => hPW.funcs.one hj)
  have HN := Lib.hid hP.l4
  obtain ⟨g0, g1, g2, g3, g4⟩ := hB.facts
  have HWE := Lib.hid hWE
  have HLN := Lib.hid hlen
  generalize gvB (obW p.fN k) = g at HR HY ⊢
  obtain ⟨A1, n1, c1, A2, n2, c2, A3, n3, c3, A4, n4, c4, A5, n5, c5⟩ := a
  simp only [PgA.val, PgA.fs] at *
  clear hP hPW hB hWE hlen
  by_cases h0 : k < 0
  · have HE := Lib.hid (HR.out (by simp [belB]; omega))
    go_enter Tryz.func72, Tryz.ntmps72
    go_wp2
    rw [HWE.out]
    go_ret2
    exact ⟨HE.out.symm, hbW⟩
  by_cases hk : (n4 : Int) ≤ k
  · have HE := Lib.hid (HR.out (by rw [HLN.out]; simp [belB]; omega))
    go_enter Tryz.func72, Tryz.ntmps72
    go_wp2_with fail
    rw [HWE.out]
    go_wp2
    go_ret2
    exact ⟨HE.out.symm, hbW⟩
  · obtain ⟨j, rfl⟩ : ∃ j : Nat, k = j := ⟨k.toNat, by omega⟩
    have hjl : j < p.funcs.length := by have : p.funcs.length = n4 := HN.out; omega
    obtain ⟨q, off, hA, -, h1, -⟩ := HF.out j hjl
    have hA : A4 = _ := hA
    subst hA
    have HE := Lib.hid (HY.out (by rw [HLN.out]; simp [belB]; omega))
    rw [Int.toNat_natCast, fNat hjl] at HE
    generalize p.funcs[j].1 = s at h1 HE
    have hj0 : (0 : Int) ≤ j := by omega
    have hj1 : (j : Int) < n4 := by omega
    clear hjl
    rw [← HWE.out] at h1
    go_enter Tryz.func72, Tryz.ntmps72
    go_wp2
    rw [HWE.out]
    go_ret2
    exact ⟨HE.out.symm, hbW⟩
set_option maxHeartbeats 4000000 in
theorem rOps (k : Nat) (h : 1 ≤ k ∧ k ≤ 22) (w : World) : Calls Tryz.prog 132 #[.int .i64 (k : Int)] w fun e w' => e = .returned (.string (bs (opl k))) ∧ w = w' := by
  rcases (by omega : k = 1 ∨ k = 2 ∨ k = 3 ∨ k = 4 ∨ k = 5 ∨ k = 6 ∨ k = 7 ∨ k = 8 ∨ k = 9 ∨ k = 10 ∨ k = 11 ∨ k = 12 ∨ k = 13 ∨ k = 14 ∨ k = 15 ∨ k = 16 ∨ k = 17 ∨ k = 18 ∨ k = 19 ∨ k = 20 ∨ k = 21 ∨ k = 22) with rfl | rfl | rfl | rfl | rfl | rfl | rfl | rfl | rfl | rfl | rfl | rfl | rfl | rfl | rfl | rfl | rfl | rfl | rfl | rfl | rfl | rfl
  all_goals (
    go_enter Tryz.func132, Tryz.ntmps132
    go_wp2
    go_ret
    exact ⟨rfl, rfl⟩)
end Go.Proofs.YtnckpjcfgeajbaaGreatDoor

namespace Go.Proofs.YtnckpjcfgeajbaaGreatDoor
open Go Go.RowKit

set_option maxHeartbeats 2000000 in
theorem rOpd65 {a : PgA} {p : Prg} (i : I8) (hi : i.Wf) (w : World) (hP : PgW w a p) : Calls Tryz.prog 133 #[a.val, i.val, .int .u8 65] w fun e w' => e = gvB (rgW i.a) ∧ Below w.heap.size w w' := by
  obtain ⟨W, hWE⟩ : ∃ W, w.alloc (.cells a.fs 28) = W := ⟨_, rfl⟩
  have hbW : Below w.heap.size w W := by rw [← hWE]; exact belowAlloc w _
  have hB : PBox W w.heap.size a := by rw [← hWE]; exact Blk.new w _ _
  have hz : W.heap.size = w.heap.size + 1 := by rw [← hWE]; simp
  have HC := Lib.hid (fun X => rForm i.a _ rfl hi.a.1 hi.a.2 X)
  have hsz : (⟨(Lib.itoa i.a).toArray⟩ : ByteArray).size ≤ 21 := by
    have := itLen64 hi.a
    simpa [ByteArray.size] using this
  have HE := Lib.hid (show gvB (rgW i.a) = .returned (.tuple #[.string (⟨#[114]⟩ ++ ⟨(Lib.itoa i.a).toArray⟩), .bool true]) by
    have := rgBs i.a
    unfold rgW
    rw [gvBok, ← this]; rfl)
  generalize (⟨(Lib.itoa i.a).toArray⟩ : ByteArray) = s at *
  generalize gvB (rgW i.a) = g at HE ⊢
  obtain ⟨op, a', b', c', obj, n, fn, ord⟩ := i
  obtain ⟨V, hVE⟩ : ∃ V, W.alloc (.cells #[.int .i64 op, .int .i64 a', .int .i64 b', .int .i64 c', .int .i64 obj, .int .i64 n, .int .i64 fn, .int .i64 ord] 41) = V := ⟨_, rfl⟩
  have hbV : Below W.heap.size W V := by rw [← hVE]; exact belowAlloc W _
  have hI : Blk V W.heap.size 41 #[.int .i64 op, .int .i64 a', .int .i64 b', .int .i64 c', .int .i64 obj, .int .i64 n, .int .i64 fn, .int .i64 ord] := by rw [← hVE]; exact Blk.new W _ _
  rw [hz] at hI
  have hbB := belowThen hbW hbV
  have HKB := Lib.hid (hB.below hbV)
  have HKI := Lib.hid hI
  have HP := Lib.hid (fun X (hX : Below V.heap.size V X) => (hP.below hbB).below hX)
  obtain ⟨A1, n1, c1, A2, n2, c2, A3, n3, c3, A4, n4, c4, A5, n5, c5⟩ := a
  simp only [PgA.val, PgA.fs, I8.val] at *
  obtain ⟨b0, hb0⟩ : ∃ b0, w.heap.size = b0 := ⟨_, rfl⟩
  obtain ⟨b1, hb1⟩ : ∃ b1, w.heap.size + 1 = b1 := ⟨_, rfl⟩
  have HBB := Lib.hid hbB
  have HB0 := Lib.hid hb0
  have HB1 := Lib.hid hb1
  have HK : Hid (∀ X, Below V.heap.size V X → Below V.heap.size V X ∧ X.cell? ⟨b0, 0, none⟩ = some (.slice A1 n1 c1) ∧ X.cell? ⟨b0, 1, none⟩ = some (.slice A2 n2 c2) ∧ X.cell? ⟨b0, 2, none⟩ = some (.slice A3 n3 c3) ∧ X.cell? ⟨b0, 3, none⟩ = some (.slice A4 n4 c4) ∧ X.cell? ⟨b0, 4, none⟩ = some (.slice A5 n5 c5) ∧ X.cell? ⟨b1, 0, none⟩ = some (.int .i64 op) ∧ X.cell? ⟨b1, 1, none⟩ = some (.int .i64 a') ∧ X.cell? ⟨b1, 2, none⟩ = some (.int .i64 b') ∧ X.cell? ⟨b1, 3, none⟩ = some (.int .i64 c') ∧ X.cell? ⟨b1, 4, none⟩ = some (.int .i64 obj) ∧ X.cell? ⟨b1, 5, none⟩ = some (.int .i64 n) ∧ X.cell? ⟨b1, 6, none⟩ = some (.int .i64 fn) ∧ X.cell? ⟨b1, 7, none⟩ = some (.int .i64 ord)) := by
    refine Lib.hid fun X hX => ?_
    obtain ⟨g0, g1, g2, g3, g4⟩ := (HKB.out.below hX).facts
    have hJ := HKI.out.below' hX
    rw [hb1] at hJ
    rw [hb0] at g0 g1 g2 g3 g4
    exact ⟨hX, g0, g1, g2, g3, g4, hJ.cell 0, hJ.cell 1, hJ.cell 2, hJ.cell 3, hJ.cell 4, hJ.cell 5, hJ.cell 6, hJ.cell 7⟩
  have HWE := Lib.hid hWE
  have HVE := Lib.hid hVE
  clear hP hB hbW hbV hWE hVE hI hbB hb0 hb1 HKB HKI
  go_enter Tryz.func133, Tryz.ntmps133
  go_wp2_with fail
  rw [HWE.out, HVE.out]
  rw [HB1.out, HB0.out]
  obtain ⟨q, k0, k1', k2', k3', k4, r0, r1, r2, r3, r4, r5, r6, r7⟩ := HK.out V (Below.refl _ _)
  clear q
  go_wp2_with fail
  refine (HC.out _).mono ?_
  rintro e w1 ⟨rfl, rfl⟩
  go_wp2
  go_ret2
  exact ⟨HE.out.symm, HBB.out⟩
set_option maxHeartbeats 2000000 in
theorem rOpd66 {a : PgA} {p : Prg} (i : I8) (hi : i.Wf) (w : World) (hP : PgW w a p) : Calls Tryz.prog 133 #[a.val, i.val, .int .u8 66] w fun e w' => e = gvB (rgW i.b) ∧ Below w.heap.size w w' := by
  obtain ⟨W, hWE⟩ : ∃ W, w.alloc (.cells a.fs 28) = W := ⟨_, rfl⟩
  have hbW : Below w.heap.size w W := by rw [← hWE]; exact belowAlloc w _
  have hB : PBox W w.heap.size a := by rw [← hWE]; exact Blk.new w _ _
  have hz : W.heap.size = w.heap.size + 1 := by rw [← hWE]; simp
  have HC := Lib.hid (fun X => rForm i.b _ rfl hi.b.1 hi.b.2 X)
  have hsz : (⟨(Lib.itoa i.b).toArray⟩ : ByteArray).size ≤ 21 := by
    have := itLen64 hi.b
    simpa [ByteArray.size] using this
  have HE := Lib.hid (show gvB (rgW i.b) = .returned (.tuple #[.string (⟨#[114]⟩ ++ ⟨(Lib.itoa i.b).toArray⟩), .bool true]) by
    have := rgBs i.b
    unfold rgW
    rw [gvBok, ← this]; rfl)
  generalize (⟨(Lib.itoa i.b).toArray⟩ : ByteArray) = s at *
  generalize gvB (rgW i.b) = g at HE ⊢
  obtain ⟨op, a', b', c', obj, n, fn, ord⟩ := i
  obtain ⟨V, hVE⟩ : ∃ V, W.alloc (.cells #[.int .i64 op, .int .i64 a', .int .i64 b', .int .i64 c', .int .i64 obj, .int .i64 n, .int .i64 fn, .int .i64 ord] 41) = V := ⟨_, rfl⟩
  have hbV : Below W.heap.size W V := by rw [← hVE]; exact belowAlloc W _
  have hI : Blk V W.heap.size 41 #[.int .i64 op, .int .i64 a', .int .i64 b', .int .i64 c', .int .i64 obj, .int .i64 n, .int .i64 fn, .int .i64 ord] := by rw [← hVE]; exact Blk.new W _ _
  rw [hz] at hI
  have hbB := belowThen hbW hbV
  have HKB := Lib.hid (hB.below hbV)
  have HKI := Lib.hid hI
  have HP := Lib.hid (fun X (hX : Below V.heap.size V X) => (hP.below hbB).below hX)
  obtain ⟨A1, n1, c1, A2, n2, c2, A3, n3, c3, A4, n4, c4, A5, n5, c5⟩ := a
  simp only [PgA.val, PgA.fs, I8.val] at *
  obtain ⟨b0, hb0⟩ : ∃ b0, w.heap.size = b0 := ⟨_, rfl⟩
  obtain ⟨b1, hb1⟩ : ∃ b1, w.heap.size + 1 = b1 := ⟨_, rfl⟩
  have HBB := Lib.hid hbB
  have HB0 := Lib.hid hb0
  have HB1 := Lib.hid hb1
  have HK : Hid (∀ X, Below V.heap.size V X → Below V.heap.size V X ∧ X.cell? ⟨b0, 0, none⟩ = some (.slice A1 n1 c1) ∧ X.cell? ⟨b0, 1, none⟩ = some (.slice A2 n2 c2) ∧ X.cell? ⟨b0, 2, none⟩ = some (.slice A3 n3 c3) ∧ X.cell? ⟨b0, 3, none⟩ = some (.slice A4 n4 c4) ∧ X.cell? ⟨b0, 4, none⟩ = some (.slice A5 n5 c5) ∧ X.cell? ⟨b1, 0, none⟩ = some (.int .i64 op) ∧ X.cell? ⟨b1, 1, none⟩ = some (.int .i64 a') ∧ X.cell? ⟨b1, 2, none⟩ = some (.int .i64 b') ∧ X.cell? ⟨b1, 3, none⟩ = some (.int .i64 c') ∧ X.cell? ⟨b1, 4, none⟩ = some (.int .i64 obj) ∧ X.cell? ⟨b1, 5, none⟩ = some (.int .i64 n) ∧ X.cell? ⟨b1, 6, none⟩ = some (.int .i64 fn) ∧ X.cell? ⟨b1, 7, none⟩ = some (.int .i64 ord)) := by
    refine Lib.hid fun X hX => ?_
    obtain ⟨g0, g1, g2, g3, g4⟩ := (HKB.out.below hX).facts
    have hJ := HKI.out.below' hX
    rw [hb1] at hJ
    rw [hb0] at g0 g1 g2 g3 g4
    exact ⟨hX, g0, g1, g2, g3, g4, hJ.cell 0, hJ.cell 1, hJ.cell 2, hJ.cell 3, hJ.cell 4, hJ.cell 5, hJ.cell 6, hJ.cell 7⟩
  have HWE := Lib.hid hWE
  have HVE := Lib.hid hVE
  clear hP hB hbW hbV hWE hVE hI hbB hb0 hb1 HKB HKI
  go_enter Tryz.func133, Tryz.ntmps133
  go_wp2_with fail
  rw [HWE.out, HVE.out]
  rw [HB1.out, HB0.out]
  obtain ⟨q, k0, k1', k2', k3', k4, r0, r1, r2, r3, r4, r5, r6, r7⟩ := HK.out V (Below.refl _ _)
  clear q
  go_wp2_with fail
  refine (HC.out _).mono ?_
  rintro e w1 ⟨rfl, rfl⟩
  go_wp2
  go_ret2
  exact ⟨HE.out.symm, HBB.out⟩
set_option maxHeartbeats 2000000 in
theorem rOpd67 {a : PgA} {p : Prg} (i : I8) (hi : i.Wf) (w : World) (hP : PgW w a p) : Calls Tryz.prog 133 #[a.val, i.val, .int .u8 67] w fun e w' => e = gvB (rgW i.c) ∧ Below w.heap.size w w' := by
  obtain ⟨W, hWE⟩ : ∃ W, w.alloc (.cells a.fs 28) = W := ⟨_, rfl⟩
  have hbW : Below w.heap.size w W := by rw [← hWE]; exact belowAlloc w _
  have hB : PBox W w.heap.size a := by rw [← hWE]; exact Blk.new w _ _
  have hz : W.heap.size = w.heap.size + 1 := by rw [← hWE]; simp
  have HC := Lib.hid (fun X => rForm i.c _ rfl hi.c.1 hi.c.2 X)
  have hsz : (⟨(Lib.itoa i.c).toArray⟩ : ByteArray).size ≤ 21 := by
    have := itLen64 hi.c
    simpa [ByteArray.size] using this
  have HE := Lib.hid (show gvB (rgW i.c) = .returned (.tuple #[.string (⟨#[114]⟩ ++ ⟨(Lib.itoa i.c).toArray⟩), .bool true]) by
    have := rgBs i.c
    unfold rgW
    rw [gvBok, ← this]; rfl)
  generalize (⟨(Lib.itoa i.c).toArray⟩ : ByteArray) = s at *
  generalize gvB (rgW i.c) = g at HE ⊢
  obtain ⟨op, a', b', c', obj, n, fn, ord⟩ := i
  obtain ⟨V, hVE⟩ : ∃ V, W.alloc (.cells #[.int .i64 op, .int .i64 a', .int .i64 b', .int .i64 c', .int .i64 obj, .int .i64 n, .int .i64 fn, .int .i64 ord] 41) = V := ⟨_, rfl⟩
  have hbV : Below W.heap.size W V := by rw [← hVE]; exact belowAlloc W _
  have hI : Blk V W.heap.size 41 #[.int .i64 op, .int .i64 a', .int .i64 b', .int .i64 c', .int .i64 obj, .int .i64 n, .int .i64 fn, .int .i64 ord] := by rw [← hVE]; exact Blk.new W _ _
  rw [hz] at hI
  have hbB := belowThen hbW hbV
  have HKB := Lib.hid (hB.below hbV)
  have HKI := Lib.hid hI
  have HP := Lib.hid (fun X (hX : Below V.heap.size V X) => (hP.below hbB).below hX)
  obtain ⟨A1, n1, c1, A2, n2, c2, A3, n3, c3, A4, n4, c4, A5, n5, c5⟩ := a
  simp only [PgA.val, PgA.fs, I8.val] at *
  obtain ⟨b0, hb0⟩ : ∃ b0, w.heap.size = b0 := ⟨_, rfl⟩
  obtain ⟨b1, hb1⟩ : ∃ b1, w.heap.size + 1 = b1 := ⟨_, rfl⟩
  have HBB := Lib.hid hbB
  have HB0 := Lib.hid hb0
  have HB1 := Lib.hid hb1
  have HK : Hid (∀ X, Below V.heap.size V X → Below V.heap.size V X ∧ X.cell? ⟨b0, 0, none⟩ = some (.slice A1 n1 c1) ∧ X.cell? ⟨b0, 1, none⟩ = some (.slice A2 n2 c2) ∧ X.cell? ⟨b0, 2, none⟩ = some (.slice A3 n3 c3) ∧ X.cell? ⟨b0, 3, none⟩ = some (.slice A4 n4 c4) ∧ X.cell? ⟨b0, 4, none⟩ = some (.slice A5 n5 c5) ∧ X.cell? ⟨b1, 0, none⟩ = some (.int .i64 op) ∧ X.cell? ⟨b1, 1, none⟩ = some (.int .i64 a') ∧ X.cell? ⟨b1, 2, none⟩ = some (.int .i64 b') ∧ X.cell? ⟨b1, 3, none⟩ = some (.int .i64 c') ∧ X.cell? ⟨b1, 4, none⟩ = some (.int .i64 obj) ∧ X.cell? ⟨b1, 5, none⟩ = some (.int .i64 n) ∧ X.cell? ⟨b1, 6, none⟩ = some (.int .i64 fn) ∧ X.cell? ⟨b1, 7, none⟩ = some (.int .i64 ord)) := by
    refine Lib.hid fun X hX => ?_
    obtain ⟨g0, g1, g2, g3, g4⟩ := (HKB.out.below hX).facts
    have hJ := HKI.out.below' hX
    rw [hb1] at hJ
    rw [hb0] at g0 g1 g2 g3 g4
    exact ⟨hX, g0, g1, g2, g3, g4, hJ.cell 0, hJ.cell 1, hJ.cell 2, hJ.cell 3, hJ.cell 4, hJ.cell 5, hJ.cell 6, hJ.cell 7⟩
  have HWE := Lib.hid hWE
  have HVE := Lib.hid hVE
  clear hP hB hbW hbV hWE hVE hI hbB hb0 hb1 HKB HKI
  go_enter Tryz.func133, Tryz.ntmps133
  go_wp2_with fail
  rw [HWE.out, HVE.out]
  rw [HB1.out, HB0.out]
  obtain ⟨q, k0, k1', k2', k3', k4, r0, r1, r2, r3, r4, r5, r6, r7⟩ := HK.out V (Below.refl _ _)
  clear q
  go_wp2_with fail
  refine (HC.out _).mono ?_
  rintro e w1 ⟨rfl, rfl⟩
  go_wp2
  go_ret2
  exact ⟨HE.out.symm, HBB.out⟩
set_option maxHeartbeats 2000000 in
theorem rOpd78 {a : PgA} {p : Prg} (i : I8) (hi : i.Wf) (w : World) (hP : PgW w a p) : Calls Tryz.prog 133 #[a.val, i.val, .int .u8 78] w fun e w' => e = gvB (.ok (Lib.itoa i.n)) ∧ Below w.heap.size w w' := by
  obtain ⟨W, hWE⟩ : ∃ W, w.alloc (.cells a.fs 28) = W := ⟨_, rfl⟩
  have hbW : Below w.heap.size w W := by rw [← hWE]; exact belowAlloc w _
  have hB : PBox W w.heap.size a := by rw [← hWE]; exact Blk.new w _ _
  have hz : W.heap.size = w.heap.size + 1 := by rw [← hWE]; simp
  have HC := Lib.hid (fun X => rForm i.n _ rfl hi.n.1 hi.n.2 X)
  have HE := Lib.hid (show gvB (.ok (Lib.itoa i.n)) = .returned (.tuple #[.string ⟨(Lib.itoa i.n).toArray⟩, .bool true]) from rfl)
  generalize (⟨(Lib.itoa i.n).toArray⟩ : ByteArray) = s at *
  generalize gvB (.ok (Lib.itoa i.n)) = g at HE ⊢
  obtain ⟨op, a', b', c', obj, n, fn, ord⟩ := i
  obtain ⟨V, hVE⟩ : ∃ V, W.alloc (.cells #[.int .i64 op, .int .i64 a', .int .i64 b', .int .i64 c', .int .i64 obj, .int .i64 n, .int .i64 fn, .int .i64 ord] 41) = V := ⟨_, rfl⟩
  have hbV : Below W.heap.size W V := by rw [← hVE]; exact belowAlloc W _
  have hI : Blk V W.heap.size 41 #[.int .i64 op, .int .i64 a', .int .i64 b', .int .i64 c', .int .i64 obj, .int .i64 n, .int .i64 fn, .int .i64 ord] := by rw [← hVE]; exact Blk.new W _ _
  rw [hz] at hI
  have hbB := belowThen hbW hbV
  have HKB := Lib.hid (hB.below hbV)
  have HKI := Lib.hid hI
  have HP := Lib.hid (fun X (hX : Below V.heap.size V X) => (hP.below hbB).below hX)
  obtain ⟨A1, n1, c1, A2, n2, c2, A3, n3, c3, A4, n4, c4, A5, n5, c5⟩ := a
  simp only [PgA.val, PgA.fs, I8.val] at *
  obtain ⟨b0, hb0⟩ : ∃ b0, w.heap.size = b0 := ⟨_, rfl⟩
  obtain ⟨b1, hb1⟩ : ∃ b1, w.heap.size + 1 = b1 := ⟨_, rfl⟩
  have HBB := Lib.hid hbB
  have HB0 := Lib.hid hb0
  have HB1 := Lib.hid hb1
  have HK : Hid (∀ X, Below V.heap.size V X → Below V.heap.size V X ∧ X.cell? ⟨b0, 0, none⟩ = some (.slice A1 n1 c1) ∧ X.cell? ⟨b0, 1, none⟩ = some (.slice A2 n2 c2) ∧ X.cell? ⟨b0, 2, none⟩ = some (.slice A3 n3 c3) ∧ X.cell? ⟨b0, 3, none⟩ = some (.slice A4 n4 c4) ∧ X.cell? ⟨b0, 4, none⟩ = some (.slice A5 n5 c5) ∧ X.cell? ⟨b1, 0, none⟩ = some (.int .i64 op) ∧ X.cell? ⟨b1, 1, none⟩ = some (.int .i64 a') ∧ X.cell? ⟨b1, 2, none⟩ = some (.int .i64 b') ∧ X.cell? ⟨b1, 3, none⟩ = some (.int .i64 c') ∧ X.cell? ⟨b1, 4, none⟩ = some (.int .i64 obj) ∧ X.cell? ⟨b1, 5, none⟩ = some (.int .i64 n) ∧ X.cell? ⟨b1, 6, none⟩ = some (.int .i64 fn) ∧ X.cell? ⟨b1, 7, none⟩ = some (.int .i64 ord)) := by
    refine Lib.hid fun X hX => ?_
    obtain ⟨g0, g1, g2, g3, g4⟩ := (HKB.out.below hX).facts
    have hJ := HKI.out.below' hX
    rw [hb1] at hJ
    rw [hb0] at g0 g1 g2 g3 g4
    exact ⟨hX, g0, g1, g2, g3, g4, hJ.cell 0, hJ.cell 1, hJ.cell 2, hJ.cell 3, hJ.cell 4, hJ.cell 5, hJ.cell 6, hJ.cell 7⟩
  have HWE := Lib.hid hWE
  have HVE := Lib.hid hVE
  clear hP hB hbW hbV hWE hVE hI hbB hb0 hb1 HKB HKI
  go_enter Tryz.func133, Tryz.ntmps133
  go_wp2_with fail
  rw [HWE.out, HVE.out]
  rw [HB1.out, HB0.out]
  obtain ⟨q, k0, k1', k2', k3', k4, r0, r1, r2, r3, r4, r5, r6, r7⟩ := HK.out V (Below.refl _ _)
  clear q
  go_wp2_with fail
  refine (HC.out _).mono ?_
  rintro e w1 ⟨rfl, rfl⟩
  go_wp2
  go_ret2
  exact ⟨HE.out.symm, HBB.out⟩
set_option maxHeartbeats 2000000 in
theorem rOpd70 {a : PgA} {p : Prg} (i : I8) (hi : i.Wf) (w : World) (hP : PgW w a p) : Calls Tryz.prog 133 #[a.val, i.val, .int .u8 70] w fun e w' => e = gvB (.ok (nameOf i.fn).data.toList) ∧ Below w.heap.size w w' := by
  obtain ⟨W, hWE⟩ : ∃ W, w.alloc (.cells a.fs 28) = W := ⟨_, rfl⟩
  have hbW : Below w.heap.size w W := by rw [← hWE]; exact belowAlloc w _
  have hB : PBox W w.heap.size a := by rw [← hWE]; exact Blk.new w _ _
  have hz : W.heap.size = w.heap.size + 1 := by rw [← hWE]; simp
  have HC := Lib.hid (fun X => rName i.fn X)
  have HE := Lib.hid (show gvB (.ok (nameOf i.fn).data.toList) = .returned (.tuple #[.string (nameOf i.fn), .bool true]) from rfl)
  generalize gvB (.ok (nameOf i.fn).data.toList) = g at HE ⊢
  generalize nameOf i.fn = s at *
  obtain ⟨op, a', b', c', obj, n, fn, ord⟩ := i
  obtain ⟨V, hVE⟩ : ∃ V, W.alloc (.cells #[.int .i64 op, .int .i64 a', .int .i64 b', .int .i64 c', .int .i64 obj, .int .i64 n, .int .i64 fn, .int .i64 ord] 41) = V := ⟨_, rfl⟩
  have hbV : Below W.heap.size W V := by rw [← hVE]; exact belowAlloc W _
  have hI : Blk V W.heap.size 41 #[.int .i64 op, .int .i64 a', .int .i64 b', .int .i64 c', .int .i64 obj, .int .i64 n, .int .i64 fn, .int .i64 ord] := by rw [← hVE]; exact Blk.new W _ _
  rw [hz] at hI
  have hbB := belowThen hbW hbV
  have HKB := Lib.hid (hB.below hbV)
  have HKI := Lib.hid hI
  have HP := Lib.hid (fun X (hX : Below V.heap.size V X) => (hP.below hbB).below hX)
  obtain ⟨A1, n1, c1, A2, n2, c2, A3, n3, c3, A4, n4, c4, A5, n5, c5⟩ := a
  simp only [PgA.val, PgA.fs, I8.val] at *
  obtain ⟨b0, hb0⟩ : ∃ b0, w.heap.size = b0 := ⟨_, rfl⟩
  obtain ⟨b1, hb1⟩ : ∃ b1, w.heap.size + 1 = b1 := ⟨_, rfl⟩
  have HBB := Lib.hid hbB
  have HB0 := Lib.hid hb0
  have HB1 := Lib.hid hb1
  have HK : Hid (∀ X, Below V.heap.size V X → Below V.heap.size V X ∧ X.cell? ⟨b0, 0, none⟩ = some (.slice A1 n1 c1) ∧ X.cell? ⟨b0, 1, none⟩ = some (.slice A2 n2 c2) ∧ X.cell? ⟨b0, 2, none⟩ = some (.slice A3 n3 c3) ∧ X.cell? ⟨b0, 3, none⟩ = some (.slice A4 n4 c4) ∧ X.cell? ⟨b0, 4, none⟩ = some (.slice A5 n5 c5) ∧ X.cell? ⟨b1, 0, none⟩ = some (.int .i64 op) ∧ X.cell? ⟨b1, 1, none⟩ = some (.int .i64 a') ∧ X.cell? ⟨b1, 2, none⟩ = some (.int .i64 b') ∧ X.cell? ⟨b1, 3, none⟩ = some (.int .i64 c') ∧ X.cell? ⟨b1, 4, none⟩ = some (.int .i64 obj) ∧ X.cell? ⟨b1, 5, none⟩ = some (.int .i64 n) ∧ X.cell? ⟨b1, 6, none⟩ = some (.int .i64 fn) ∧ X.cell? ⟨b1, 7, none⟩ = some (.int .i64 ord)) := by
    refine Lib.hid fun X hX => ?_
    obtain ⟨g0, g1, g2, g3, g4⟩ := (HKB.out.below hX).facts
    have hJ := HKI.out.below' hX
    rw [hb1] at hJ
    rw [hb0] at g0 g1 g2 g3 g4
    exact ⟨hX, g0, g1, g2, g3, g4, hJ.cell 0, hJ.cell 1, hJ.cell 2, hJ.cell 3, hJ.cell 4, hJ.cell 5, hJ.cell 6, hJ.cell 7⟩
  have HWE := Lib.hid hWE
  have HVE := Lib.hid hVE
  clear hP hB hbW hbV hWE hVE hI hbB hb0 hb1 HKB HKI
  go_enter Tryz.func133, Tryz.ntmps133
  go_wp2_with fail
  rw [HWE.out, HVE.out]
  rw [HB1.out, HB0.out]
  obtain ⟨q, k0, k1', k2', k3', k4, r0, r1, r2, r3, r4, r5, r6, r7⟩ := HK.out V (Below.refl _ _)
  clear q
  go_wp2_with fail
  refine (HC.out _).mono ?_
  rintro e w1 ⟨rfl, rfl⟩
  go_wp2
  go_ret2
  exact ⟨HE.out.symm, HBB.out⟩
set_option maxHeartbeats 2000000 in
theorem rOpd79 {a : PgA} {p : Prg} (i : I8) (hi : i.Wf) (w : World) (hP : PgW w a p) : Calls Tryz.prog 133 #[a.val, i.val, .int .u8 79] w fun e w' => e = gvB (.ok (ornOf i.ord).data.toList) ∧ Below w.heap.size w w' := by
  obtain ⟨W, hWE⟩ : ∃ W, w.alloc (.cells a.fs 28) = W := ⟨_, rfl⟩
  have hbW : Below w.heap.size w W := by rw [← hWE]; exact belowAlloc w _
  have hB : PBox W w.heap.size a := by rw [← hWE]; exact Blk.new w _ _
  have hz : W.heap.size = w.heap.size + 1 := by rw [← hWE]; simp
  have HC := Lib.hid (fun X => rOrd i.ord _ rfl X)
  have HE := Lib.hid (show gvB (.ok (ornOf i.ord).data.toList) = .returned (.tuple #[.string (ornOf i.ord), .bool true]) from rfl)
  generalize gvB (.ok (ornOf i.ord).data.toList) = g at HE ⊢
  generalize ornOf i.ord = s at *
  obtain ⟨op, a', b', c', obj, n, fn, ord⟩ := i
  obtain ⟨V, hVE⟩ : ∃ V, W.alloc (.cells #[.int .i64 op, .int .i64 a', .int .i64 b', .int .i64 c', .int .i64 obj, .int .i64 n, .int .i64 fn, .int .i64 ord] 41) = V := ⟨_, rfl⟩
  have hbV : Below W.heap.size W V := by rw [← hVE]; exact belowAlloc W _
  have hI : Blk V W.heap.size 41 #[.int .i64 op, .int .i64 a', .int .i64 b', .int .i64 c', .int .i64 obj, .int .i64 n, .int .i64 fn, .int .i64 ord] := by rw [← hVE]; exact Blk.new W _ _
  rw [hz] at hI
  have hbB := belowThen hbW hbV
  have HKB := Lib.hid (hB.below hbV)
  have HKI := Lib.hid hI
  have HP := Lib.hid (fun X (hX : Below V.heap.size V X) => (hP.below hbB).below hX)
  obtain ⟨A1, n1, c1, A2, n2, c2, A3, n3, c3, A4, n4, c4, A5, n5, c5⟩ := a
  simp only [PgA.val, PgA.fs, I8.val] at *
  obtain ⟨b0, hb0⟩ : ∃ b0, w.heap.size = b0 := ⟨_, rfl⟩
  obtain ⟨b1, hb1⟩ : ∃ b1, w.heap.size + 1 = b1 := ⟨_, rfl⟩
  have HBB := Lib.hid hbB
  have HB0 := Lib.hid hb0
  have HB1 := Lib.hid hb1
  have HK : Hid (∀ X, Below V.heap.size V X → Below V.heap.size V X ∧ X.cell? ⟨b0, 0, none⟩ = some (.slice A1 n1 c1) ∧ X.cell? ⟨b0, 1, none⟩ = some (.slice A2 n2 c2) ∧ X.cell? ⟨b0, 2, none⟩ = some (.slice A3 n3 c3) ∧ X.cell? ⟨b0, 3, none⟩ = some (.slice A4 n4 c4) ∧ X.cell? ⟨b0, 4, none⟩ = some (.slice A5 n5 c5) ∧ X.cell? ⟨b1, 0, none⟩ = some (.int .i64 op) ∧ X.cell? ⟨b1, 1, none⟩ = some (.int .i64 a') ∧ X.cell? ⟨b1, 2, none⟩ = some (.int .i64 b') ∧ X.cell? ⟨b1, 3, none⟩ = some (.int .i64 c') ∧ X.cell? ⟨b1, 4, none⟩ = some (.int .i64 obj) ∧ X.cell? ⟨b1, 5, none⟩ = some (.int .i64 n) ∧ X.cell? ⟨b1, 6, none⟩ = some (.int .i64 fn) ∧ X.cell? ⟨b1, 7, none⟩ = some (.int .i64 ord)) := by
    refine Lib.hid fun X hX => ?_
    obtain ⟨g0, g1, g2, g3, g4⟩ := (HKB.out.below hX).facts
    have hJ := HKI.out.below' hX
    rw [hb1] at hJ
    rw [hb0] at g0 g1 g2 g3 g4
    exact ⟨hX, g0, g1, g2, g3, g4, hJ.cell 0, hJ.cell 1, hJ.cell 2, hJ.cell 3, hJ.cell 4, hJ.cell 5, hJ.cell 6, hJ.cell 7⟩
  have HWE := Lib.hid hWE
  have HVE := Lib.hid hVE
  clear hP hB hbW hbV hWE hVE hI hbB hb0 hb1 HKB HKI
  go_enter Tryz.func133, Tryz.ntmps133
  go_wp2_with fail
  rw [HWE.out, HVE.out]
  rw [HB1.out, HB0.out]
  obtain ⟨q, k0, k1', k2', k3', k4, r0, r1, r2, r3, r4, r5, r6, r7⟩ := HK.out V (Below.refl _ _)
  clear q
  go_wp2_with fail
  refine (HC.out _).mono ?_
  rintro e w1 ⟨rfl, b1'⟩
  go_wp2
  go_ret2
  exact ⟨HE.out.symm, belowThen HBB.out b1'⟩
set_option maxHeartbeats 2000000 in
theorem rOpd119 {a : PgA} {p : Prg} (i : I8) (hi : i.Wf) (w : World) (hP : PgW w a p) : Calls Tryz.prog 133 #[a.val, i.val, .int .u8 119] w fun e w' => e = gvB (obW p.muts i.n) ∧ Below w.heap.size w w' := by
  obtain ⟨W, hWE⟩ : ∃ W, w.alloc (.cells a.fs 28) = W := ⟨_, rfl⟩
  have hbW : Below w.heap.size w W := by rw [← hWE]; exact belowAlloc w _
  have hB : PBox W w.heap.size a := by rw [← hWE]; exact Blk.new w _ _
  have hz : W.heap.size = w.heap.size + 1 := by rw [← hWE]; simp
  have HC := Lib.hid (fun X (hX : PgW X a p) => rMn i.n X hX)
  generalize obW p.muts i.n = x at HC ⊢
  obtain ⟨op, a', b', c', obj, n, fn, ord⟩ := i
  obtain ⟨V, hVE⟩ : ∃ V, W.alloc (.cells #[.int .i64 op, .int .i64 a', .int .i64 b', .int .i64 c', .int .i64 obj, .int .i64 n, .int .i64 fn, .int .i64 ord] 41) = V := ⟨_, rfl⟩
  have hbV : Below W.heap.size W V := by rw [← hVE]; exact belowAlloc W _
  have hI : Blk V W.heap.size 41 #[.int .i64 op, .int .i64 a', .int .i64 b', .int .i64 c', .int .i64 obj, .int .i64 n, .int .i64 fn, .int .i64 ord] := by rw [← hVE]; exact Blk.new W _ _
  rw [hz] at hI
  have hbB := belowThen hbW hbV
  have HKB := Lib.hid (hB.below hbV)
  have HKI := Lib.hid hI
  have HP := Lib.hid (fun X (hX : Below V.heap.size V X) => (hP.below hbB).below hX)
  obtain ⟨A1, n1, c1, A2, n2, c2, A3, n3, c3, A4, n4, c4, A5, n5, c5⟩ := a
  simp only [PgA.val, PgA.fs, I8.val] at *
  obtain ⟨b0, hb0⟩ : ∃ b0, w.heap.size = b0 := ⟨_, rfl⟩
  obtain ⟨b1, hb1⟩ : ∃ b1, w.heap.size + 1 = b1 := ⟨_, rfl⟩
  have HBB := Lib.hid hbB
  have HB0 := Lib.hid hb0
  have HB1 := Lib.hid hb1
  have HK : Hid (∀ X, Below V.heap.size V X → Below V.heap.size V X ∧ X.cell? ⟨b0, 0, none⟩ = some (.slice A1 n1 c1) ∧ X.cell? ⟨b0, 1, none⟩ = some (.slice A2 n2 c2) ∧ X.cell? ⟨b0, 2, none⟩ = some (.slice A3 n3 c3) ∧ X.cell? ⟨b0, 3, none⟩ = some (.slice A4 n4 c4) ∧ X.cell? ⟨b0, 4, none⟩ = some (.slice A5 n5 c5) ∧ X.cell? ⟨b1, 0, none⟩ = some (.int .i64 op) ∧ X.cell? ⟨b1, 1, none⟩ = some (.int .i64 a') ∧ X.cell? ⟨b1, 2, none⟩ = some (.int .i64 b') ∧ X.cell? ⟨b1, 3, none⟩ = some (.int .i64 c') ∧ X.cell? ⟨b1, 4, none⟩ = some (.int .i64 obj) ∧ X.cell? ⟨b1, 5, none⟩ = some (.int .i64 n) ∧ X.cell? ⟨b1, 6, none⟩ = some (.int .i64 fn) ∧ X.cell? ⟨b1, 7, none⟩ = some (.int .i64 ord)) := by
    refine Lib.hid fun X hX => ?_
    obtain ⟨g0, g1, g2, g3, g4⟩ := (HKB.out.below hX).facts
    have hJ := HKI.out.below' hX
    rw [hb1] at hJ
    rw [hb0] at g0 g1 g2 g3 g4
    exact ⟨hX, g0, g1, g2, g3, g4, hJ.cell 0, hJ.cell 1, hJ.cell 2, hJ.cell 3, hJ.cell 4, hJ.cell 5, hJ.cell 6, hJ.cell 7⟩
  have HWE := Lib.hid hWE
  have HVE := Lib.hid hVE
  clear hP hB hbW hbV hWE hVE hI hbB hb0 hb1 HKB HKI
  go_enter Tryz.func133, Tryz.ntmps133
  go_wp2_with fail
  rw [HWE.out, HVE.out]
  rw [HB1.out, HB0.out]
  obtain ⟨q, k0, k1', k2', k3', k4, r0, r1, r2, r3, r4, r5, r6, r7⟩ := HK.out V (Below.refl _ _)
  clear q
  go_wp2_with fail
  refine (HC.out _ (HP.out _ (Below.refl _ _))).mono ?_
  rintro e w1 ⟨he, b1'⟩
  obtain ⟨t, ex⟩ := x
  have he : e = .returned (.tuple #[.string (bs t), .bool (decide (ex = 0))]) := he
  subst he
  have HB9 := Lib.hid (belowThen HBB.out b1')
  have HG : Hid (gvB ⟨t, ex⟩ = .returned (.tuple #[.string (bs t), .bool (decide (ex = 0))])) := Lib.hid rfl
  generalize bs t = s at *
  generalize decide (ex = 0) = d at *
  clear b1'
  go_wp2
  go_ret2
  exact ⟨HG.out.symm, HB9.out⟩
set_option maxHeartbeats 2000000 in
theorem rOpd118 {a : PgA} {p : Prg} (i : I8) (hi : i.Wf) (w : World) (hP : PgW w a p) : Calls Tryz.prog 133 #[a.val, i.val, .int .u8 118] w fun e w' => e = gvB (obW p.vN i.obj) ∧ Below w.heap.size w w' := by
  obtain ⟨W, hWE⟩ : ∃ W, w.alloc (.cells a.fs 28) = W := ⟨_, rfl⟩
  have hbW : Below w.heap.size w W := by rw [← hWE]; exact belowAlloc w _
  have hB : PBox W w.heap.size a := by rw [← hWE]; exact Blk.new w _ _
  have hz : W.heap.size = w.heap.size + 1 := by rw [← hWE]; simp
  have HC := Lib.hid (fun X (hX : PgW X a p) => rVn i.obj X hX)
  generalize obW p.vN i.obj = x at HC ⊢
  obtain ⟨op, a', b', c', obj, n, fn, ord⟩ := i
  obtain ⟨V, hVE⟩ : ∃ V, W.alloc (.cells #[.int .i64 op, .int .i64 a', .int .i64 b', .int .i64 c', .int .i64 obj, .int .i64 n, .int .i64 fn, .int .i64 ord] 41) = V := ⟨_, rfl⟩
  have hbV : Below W.heap.size W V := by rw [← hVE]; exact belowAlloc W _
  have hI : Blk V W.heap.size 41 #[.int .i64 op, .int .i64 a', .int .i64 b', .int .i64 c', .int .i64 obj, .int .i64 n, .int .i64 fn, .int .i64 ord] := by rw [← hVE]; exact Blk.new W _ _
  rw [hz] at hI
  have hbB := belowThen hbW hbV
  have HKB := Lib.hid (hB.below hbV)
  have HKI := Lib.hid hI
  have HP := Lib.hid (fun X (hX : Below V.heap.size V X) => (hP.below hbB).below hX)
  obtain ⟨A1, n1, c1, A2, n2, c2, A3, n3, c3, A4, n4, c4, A5, n5, c5⟩ := a
  simp only [PgA.val, PgA.fs, I8.val] at *
  obtain ⟨b0, hb0⟩ : ∃ b0, w.heap.size = b0 := ⟨_, rfl⟩
  obtain ⟨b1, hb1⟩ : ∃ b1, w.heap.size + 1 = b1 := ⟨_, rfl⟩
  have HBB := Lib.hid hbB
  have HB0 := Lib.hid hb0
  have HB1 := Lib.hid hb1
  have HK : Hid (∀ X, Below V.heap.size V X → Below V.heap.size V X ∧ X.cell? ⟨b0, 0, none⟩ = some (.slice A1 n1 c1) ∧ X.cell? ⟨b0, 1, none⟩ = some (.slice A2 n2 c2) ∧ X.cell? ⟨b0, 2, none⟩ = some (.slice A3 n3 c3) ∧ X.cell? ⟨b0, 3, none⟩ = some (.slice A4 n4 c4) ∧ X.cell? ⟨b0, 4, none⟩ = some (.slice A5 n5 c5) ∧ X.cell? ⟨b1, 0, none⟩ = some (.int .i64 op) ∧ X.cell? ⟨b1, 1, none⟩ = some (.int .i64 a') ∧ X.cell? ⟨b1, 2, none⟩ = some (.int .i64 b') ∧ X.cell? ⟨b1, 3, none⟩ = some (.int .i64 c') ∧ X.cell? ⟨b1, 4, none⟩ = some (.int .i64 obj) ∧ X.cell? ⟨b1, 5, none⟩ = some (.int .i64 n) ∧ X.cell? ⟨b1, 6, none⟩ = some (.int .i64 fn) ∧ X.cell? ⟨b1, 7, none⟩ = some (.int .i64 ord)) := by
    refine Lib.hid fun X hX => ?_
    obtain ⟨g0, g1, g2, g3, g4⟩ := (HKB.out.below hX).facts
    have hJ := HKI.out.below' hX
    rw [hb1] at hJ
    rw [hb0] at g0 g1 g2 g3 g4
    exact ⟨hX, g0, g1, g2, g3, g4, hJ.cell 0, hJ.cell 1, hJ.cell 2, hJ.cell 3, hJ.cell 4, hJ.cell 5, hJ.cell 6, hJ.cell 7⟩
  have HWE := Lib.hid hWE
  have HVE := Lib.hid hVE
  clear hP hB hbW hbV hWE hVE hI hbB hb0 hb1 HKB HKI
  go_enter Tryz.func133, Tryz.ntmps133
  go_wp2_with fail
  rw [HWE.out, HVE.out]
  rw [HB1.out, HB0.out]
  obtain ⟨q, k0, k1', k2', k3', k4, r0, r1, r2, r3, r4, r5, r6, r7⟩ := HK.out V (Below.refl _ _)
  clear q
  go_wp2_with fail
  refine (HC.out _ (HP.out _ (Below.refl _ _))).mono ?_
  rintro e w1 ⟨he, b1'⟩
  obtain ⟨t, ex⟩ := x
  have he : e = .returned (.tuple #[.string (bs t), .bool (decide (ex = 0))]) := he
  subst he
  have HB9 := Lib.hid (belowThen HBB.out b1')
  have HG : Hid (gvB ⟨t, ex⟩ = .returned (.tuple #[.string (bs t), .bool (decide (ex = 0))])) := Lib.hid rfl
  generalize bs t = s at *
  generalize decide (ex = 0) = d at *
  clear b1'
  go_wp2
  go_ret2
  exact ⟨HG.out.symm, HB9.out⟩
set_option maxHeartbeats 2000000 in
theorem rOpd109 {a : PgA} {p : Prg} (i : I8) (hi : i.Wf) (w : World) (hP : PgW w a p) : Calls Tryz.prog 133 #[a.val, i.val, .int .u8 109] w fun e w' => e = gvB (obW p.muts i.obj) ∧ Below w.heap.size w w' := by
  obtain ⟨W, hWE⟩ : ∃ W, w.alloc (.cells a.fs 28) = W := ⟨_, rfl⟩
  have hbW : Below w.heap.size w W := by rw [← hWE]; exact belowAlloc w _
  have hB : PBox W w.heap.size a := by rw [← hWE]; exact Blk.new w _ _
  have hz : W.heap.size = w.heap.size + 1 := by rw [← hWE]; simp
  have HC := Lib.hid (fun X (hX : PgW X a p) => rMn i.obj X hX)
  generalize obW p.muts i.obj = x at HC ⊢
  obtain ⟨op, a', b', c', obj, n, fn, ord⟩ := i
  obtain ⟨V, hVE⟩ : ∃ V, W.alloc (.cells #[.int .i64 op, .int .i64 a', .int .i64 b', .int .i64 c', .int .i64 obj, .int .i64 n, .int .i64 fn, .int .i64 ord] 41) = V := ⟨_, rfl⟩
  have hbV : Below W.heap.size W V := by rw [← hVE]; exact belowAlloc W _
  have hI : Blk V W.heap.size 41 #[.int .i64 op, .int .i64 a', .int .i64 b', .int .i64 c', .int .i64 obj, .int .i64 n, .int .i64 fn, .int .i64 ord] := by rw [← hVE]; exact Blk.new W _ _
  rw [hz] at hI
  have hbB := belowThen hbW hbV
  have HKB := Lib.hid (hB.below hbV)
  have HKI := Lib.hid hI
  have HP := Lib.hid (fun X (hX : Below V.heap.size V X) => (hP.below hbB).below hX)
  obtain ⟨A1, n1, c1, A2, n2, c2, A3, n3, c3, A4, n4, c4, A5, n5, c5⟩ := a
  simp only [PgA.val, PgA.fs, I8.val] at *
  obtain ⟨b0, hb0⟩ : ∃ b0, w.heap.size = b0 := ⟨_, rfl⟩
  obtain ⟨b1, hb1⟩ : ∃ b1, w.heap.size + 1 = b1 := ⟨_, rfl⟩
  have HBB := Lib.hid hbB
  have HB0 := Lib.hid hb0
  have HB1 := Lib.hid hb1
  have HK : Hid (∀ X, Below V.heap.size V X → Below V.heap.size V X ∧ X.cell? ⟨b0, 0, none⟩ = some (.slice A1 n1 c1) ∧ X.cell? ⟨b0, 1, none⟩ = some (.slice A2 n2 c2) ∧ X.cell? ⟨b0, 2, none⟩ = some (.slice A3 n3 c3) ∧ X.cell? ⟨b0, 3, none⟩ = some (.slice A4 n4 c4) ∧ X.cell? ⟨b0, 4, none⟩ = some (.slice A5 n5 c5) ∧ X.cell? ⟨b1, 0, none⟩ = some (.int .i64 op) ∧ X.cell? ⟨b1, 1, none⟩ = some (.int .i64 a') ∧ X.cell? ⟨b1, 2, none⟩ = some (.int .i64 b') ∧ X.cell? ⟨b1, 3, none⟩ = some (.int .i64 c') ∧ X.cell? ⟨b1, 4, none⟩ = some (.int .i64 obj) ∧ X.cell? ⟨b1, 5, none⟩ = some (.int .i64 n) ∧ X.cell? ⟨b1, 6, none⟩ = some (.int .i64 fn) ∧ X.cell? ⟨b1, 7, none⟩ = some (.int .i64 ord)) := by
    refine Lib.hid fun X hX => ?_
    obtain ⟨g0, g1, g2, g3, g4⟩ := (HKB.out.below hX).facts
    have hJ := HKI.out.below' hX
    rw [hb1] at hJ
    rw [hb0] at g0 g1 g2 g3 g4
    exact ⟨hX, g0, g1, g2, g3, g4, hJ.cell 0, hJ.cell 1, hJ.cell 2, hJ.cell 3, hJ.cell 4, hJ.cell 5, hJ.cell 6, hJ.cell 7⟩
  have HWE := Lib.hid hWE
  have HVE := Lib.hid hVE
  clear hP hB hbW hbV hWE hVE hI hbB hb0 hb1 HKB HKI
  go_enter Tryz.func133, Tryz.ntmps133
  go_wp2_with fail
  rw [HWE.out, HVE.out]
  rw [HB1.out, HB0.out]
  obtain ⟨q, k0, k1', k2', k3', k4, r0, r1, r2, r3, r4, r5, r6, r7⟩ := HK.out V (Below.refl _ _)
  clear q
  go_wp2_with fail
  refine (HC.out _ (HP.out _ (Below.refl _ _))).mono ?_
  rintro e w1 ⟨he, b1'⟩
  obtain ⟨t, ex⟩ := x
  have he : e = .returned (.tuple #[.string (bs t), .bool (decide (ex = 0))]) := he
  subst he
  have HB9 := Lib.hid (belowThen HBB.out b1')
  have HG : Hid (gvB ⟨t, ex⟩ = .returned (.tuple #[.string (bs t), .bool (decide (ex = 0))])) := Lib.hid rfl
  generalize bs t = s at *
  generalize decide (ex = 0) = d at *
  clear b1'
  go_wp2
  go_ret2
  exact ⟨HG.out.symm, HB9.out⟩
set_option maxHeartbeats 2000000 in
theorem rOpd99 {a : PgA} {p : Prg} (i : I8) (hi : i.Wf) (w : World) (hP : PgW w a p) : Calls Tryz.prog 133 #[a.val, i.val, .int .u8 99] w fun e w' => e = gvB (obW p.conds i.obj) ∧ Below w.heap.size w w' := by
  obtain ⟨W, hWE⟩ : ∃ W, w.alloc (.cells a.fs 28) = W := ⟨_, rfl⟩
  have hbW : Below w.heap.size w W := by rw [← hWE]; exact belowAlloc w _
  have hB : PBox W w.heap.size a := by rw [← hWE]; exact Blk.new w _ _
  have hz : W.heap.size = w.heap.size + 1 := by rw [← hWE]; simp
  have HC := Lib.hid (fun X (hX : PgW X a p) => rCn i.obj X hX)
  generalize obW p.conds i.obj = x at HC ⊢
  obtain ⟨op, a', b', c', obj, n, fn, ord⟩ := i
  obtain ⟨V, hVE⟩ : ∃ V, W.alloc (.cells #[.int .i64 op, .int .i64 a', .int .i64 b', .int .i64 c', .int .i64 obj, .int .i64 n, .int .i64 fn, .int .i64 ord] 41) = V := ⟨_, rfl⟩
  have hbV : Below W.heap.size W V := by rw [← hVE]; exact belowAlloc W _
  have hI : Blk V W.heap.size 41 #[.int .i64 op, .int .i64 a', .int .i64 b', .int .i64 c', .int .i64 obj, .int .i64 n, .int .i64 fn, .int .i64 ord] := by rw [← hVE]; exact Blk.new W _ _
  rw [hz] at hI
  have hbB := belowThen hbW hbV
  have HKB := Lib.hid (hB.below hbV)
  have HKI := Lib.hid hI
  have HP := Lib.hid (fun X (hX : Below V.heap.size V X) => (hP.below hbB).below hX)
  obtain ⟨A1, n1, c1, A2, n2, c2, A3, n3, c3, A4, n4, c4, A5, n5, c5⟩ := a
  simp only [PgA.val, PgA.fs, I8.val] at *
  obtain ⟨b0, hb0⟩ : ∃ b0, w.heap.size = b0 := ⟨_, rfl⟩
  obtain ⟨b1, hb1⟩ : ∃ b1, w.heap.size + 1 = b1 := ⟨_, rfl⟩
  have HBB := Lib.hid hbB
  have HB0 := Lib.hid hb0
  have HB1 := Lib.hid hb1
  have HK : Hid (∀ X, Below V.heap.size V X → Below V.heap.size V X ∧ X.cell? ⟨b0, 0, none⟩ = some (.slice A1 n1 c1) ∧ X.cell? ⟨b0, 1, none⟩ = some (.slice A2 n2 c2) ∧ X.cell? ⟨b0, 2, none⟩ = some (.slice A3 n3 c3) ∧ X.cell? ⟨b0, 3, none⟩ = some (.slice A4 n4 c4) ∧ X.cell? ⟨b0, 4, none⟩ = some (.slice A5 n5 c5) ∧ X.cell? ⟨b1, 0, none⟩ = some (.int .i64 op) ∧ X.cell? ⟨b1, 1, none⟩ = some (.int .i64 a') ∧ X.cell? ⟨b1, 2, none⟩ = some (.int .i64 b') ∧ X.cell? ⟨b1, 3, none⟩ = some (.int .i64 c') ∧ X.cell? ⟨b1, 4, none⟩ = some (.int .i64 obj) ∧ X.cell? ⟨b1, 5, none⟩ = some (.int .i64 n) ∧ X.cell? ⟨b1, 6, none⟩ = some (.int .i64 fn) ∧ X.cell? ⟨b1, 7, none⟩ = some (.int .i64 ord)) := by
    refine Lib.hid fun X hX => ?_
    obtain ⟨g0, g1, g2, g3, g4⟩ := (HKB.out.below hX).facts
    have hJ := HKI.out.below' hX
    rw [hb1] at hJ
    rw [hb0] at g0 g1 g2 g3 g4
    exact ⟨hX, g0, g1, g2, g3, g4, hJ.cell 0, hJ.cell 1, hJ.cell 2, hJ.cell 3, hJ.cell 4, hJ.cell 5, hJ.cell 6, hJ.cell 7⟩
  have HWE := Lib.hid hWE
  have HVE := Lib.hid hVE
  clear hP hB hbW hbV hWE hVE hI hbB hb0 hb1 HKB HKI
  go_enter Tryz.func133, Tryz.ntmps133
  go_wp2_with fail
  rw [HWE.out, HVE.out]
  rw [HB1.out, HB0.out]
  obtain ⟨q, k0, k1', k2', k3', k4, r0, r1, r2, r3, r4, r5, r6, r7⟩ := HK.out V (Below.refl _ _)
  clear q
  go_wp2_with fail
  refine (HC.out _ (HP.out _ (Below.refl _ _))).mono ?_
  rintro e w1 ⟨he, b1'⟩
  obtain ⟨t, ex⟩ := x
  have he : e = .returned (.tuple #[.string (bs t), .bool (decide (ex = 0))]) := he
  subst he
  have HB9 := Lib.hid (belowThen HBB.out b1')
  have HG : Hid (gvB ⟨t, ex⟩ = .returned (.tuple #[.string (bs t), .bool (decide (ex = 0))])) := Lib.hid rfl
  generalize bs t = s at *
  generalize decide (ex = 0) = d at *
  clear b1'
  go_wp2
  go_ret2
  exact ⟨HG.out.symm, HB9.out⟩
set_option maxHeartbeats 2000000 in
theorem rOpd102 {a : PgA} {p : Prg} (i : I8) (hi : i.Wf) (w : World) (hP : PgW w a p) : Calls Tryz.prog 133 #[a.val, i.val, .int .u8 102] w fun e w' => e = gvB (obW p.fN i.obj) ∧ Below w.heap.size w w' := by
  obtain ⟨W, hWE⟩ : ∃ W, w.alloc (.cells a.fs 28) = W := ⟨_, rfl⟩
  have hbW : Below w.heap.size w W := by rw [← hWE]; exact belowAlloc w _
  have hB : PBox W w.heap.size a := by rw [← hWE]; exact Blk.new w _ _
  have hz : W.heap.size = w.heap.size + 1 := by rw [← hWE]; simp
  have HC := Lib.hid (fun X (hX : PgW X a p) => rFn i.obj X hX)
  generalize obW p.fN i.obj = x at HC ⊢
  obtain ⟨op, a', b', c', obj, n, fn, ord⟩ := i
  obtain ⟨V, hVE⟩ : ∃ V, W.alloc (.cells #[.int .i64 op, .int .i64 a', .int .i64 b', .int .i64 c', .int .i64 obj, .int .i64 n, .int .i64 fn, .int .i64 ord] 41) = V := ⟨_, rfl⟩
  have hbV : Below W.heap.size W V := by rw [← hVE]; exact belowAlloc W _
  have hI : Blk V W.heap.size 41 #[.int .i64 op, .int .i64 a', .int .i64 b', .int .i64 c', .int .i64 obj, .int .i64 n, .int .i64 fn, .int .i64 ord] := by rw [← hVE]; exact Blk.new W _ _
  rw [hz] at hI
  have hbB := belowThen hbW hbV
  have HKB := Lib.hid (hB.below hbV)
  have HKI := Lib.hid hI
  have HP := Lib.hid (fun X (hX : Below V.heap.size V X) => (hP.below hbB).below hX)
  obtain ⟨A1, n1, c1, A2, n2, c2, A3, n3, c3, A4, n4, c4, A5, n5, c5⟩ := a
  simp only [PgA.val, PgA.fs, I8.val] at *
  obtain ⟨b0, hb0⟩ : ∃ b0, w.heap.size = b0 := ⟨_, rfl⟩
  obtain ⟨b1, hb1⟩ : ∃ b1, w.heap.size + 1 = b1 := ⟨_, rfl⟩
  have HBB := Lib.hid hbB
  have HB0 := Lib.hid hb0
  have HB1 := Lib.hid hb1
  have HK : Hid (∀ X, Below V.heap.size V X → Below V.heap.size V X ∧ X.cell? ⟨b0, 0, none⟩ = some (.slice A1 n1 c1) ∧ X.cell? ⟨b0, 1, none⟩ = some (.slice A2 n2 c2) ∧ X.cell? ⟨b0, 2, none⟩ = some (.slice A3 n3 c3) ∧ X.cell? ⟨b0, 3, none⟩ = some (.slice A4 n4 c4) ∧ X.cell? ⟨b0, 4, none⟩ = some (.slice A5 n5 c5) ∧ X.cell? ⟨b1, 0, none⟩ = some (.int .i64 op) ∧ X.cell? ⟨b1, 1, none⟩ = some (.int .i64 a') ∧ X.cell? ⟨b1, 2, none⟩ = some (.int .i64 b') ∧ X.cell? ⟨b1, 3, none⟩ = some (.int .i64 c') ∧ X.cell? ⟨b1, 4, none⟩ = some (.int .i64 obj) ∧ X.cell? ⟨b1, 5, none⟩ = some (.int .i64 n) ∧ X.cell? ⟨b1, 6, none⟩ = some (.int .i64 fn) ∧ X.cell? ⟨b1, 7, none⟩ = some (.int .i64 ord)) := by
    refine Lib.hid fun X hX => ?_
    obtain ⟨g0, g1, g2, g3, g4⟩ := (HKB.out.below hX).facts
    have hJ := HKI.out.below' hX
    rw [hb1] at hJ
    rw [hb0] at g0 g1 g2 g3 g4
    exact ⟨hX, g0, g1, g2, g3, g4, hJ.cell 0, hJ.cell 1, hJ.cell 2, hJ.cell 3, hJ.cell 4, hJ.cell 5, hJ.cell 6, hJ.cell 7⟩
  have HWE := Lib.hid hWE
  have HVE := Lib.hid hVE
  clear hP hB hbW hbV hWE hVE hI hbB hb0 hb1 HKB HKI
  go_enter Tryz.func133, Tryz.ntmps133
  go_wp2_with fail
  rw [HWE.out, HVE.out]
  rw [HB1.out, HB0.out]
  obtain ⟨q, k0, k1', k2', k3', k4, r0, r1, r2, r3, r4, r5, r6, r7⟩ := HK.out V (Below.refl _ _)
  clear q
  go_wp2_with fail
  refine (HC.out _ (HP.out _ (Below.refl _ _))).mono ?_
  rintro e w1 ⟨he, b1'⟩
  obtain ⟨t, ex⟩ := x
  have he : e = .returned (.tuple #[.string (bs t), .bool (decide (ex = 0))]) := he
  subst he
  have HB9 := Lib.hid (belowThen HBB.out b1')
  have HG : Hid (gvB ⟨t, ex⟩ = .returned (.tuple #[.string (bs t), .bool (decide (ex = 0))])) := Lib.hid rfl
  generalize bs t = s at *
  generalize decide (ex = 0) = d at *
  clear b1'
  go_wp2
  go_ret2
  exact ⟨HG.out.symm, HB9.out⟩
theorem rOpd {a : PgA} {p : Prg} (i : I8) (hi : i.Wf) (c : UInt8) (hc : c ∈ ([65, 66, 67, 78, 70, 79, 119, 118, 109, 99, 102] : List UInt8)) (w : World) (hP : PgW w a p) : Calls Tryz.prog 133 #[a.val, i.val, .int .u8 (c.toNat : Int)] w fun e w' => e = gvB (p.lw i c) ∧ Below w.heap.size w w' := by
  simp only [List.mem_cons, List.not_mem_nil, or_false] at hc
  rcases hc with rfl | rfl | rfl | rfl | rfl | rfl | rfl | rfl | rfl | rfl | rfl
  · exact rOpd65 i hi w hP
  · exact rOpd66 i hi w hP
  · exact rOpd67 i hi w hP
  · exact rOpd78 i hi w hP
  · exact rOpd70 i hi w hP
  · exact rOpd79 i hi w hP
  · exact rOpd119 i hi w hP
  · exact rOpd118 i hi w hP
  · exact rOpd109 i hi w hP
  · exact rOpd99 i hi w hP
  · exact rOpd102 i hi w hP
theorem oplIn : ∀ o, o < 23 → ∀ c ∈ opl o, c ∈ ([65, 66, 67, 78, 70, 79, 119, 118, 109, 99, 102] : List UInt8) := by decide +kernel
/-- The text behind k operands. -/
def Prg.ctK (p : Prg) (i : I8) (k : Nat) : List UInt8 := catW (mnOf i.op).data.toList ((p.lws i).take k)
theorem ctNext {p : Prg} {i : I8} {k : Nat} (h : k < (p.lws i).length) : p.ctK i (k + 1) = p.ctK i k ++ 32 :: (p.lws i)[k].t := by
  unfold Prg.ctK catW
  rw [List.take_succ_eq_append_getElem h, List.map_append]
  simp [Lib.joinTail]
theorem ctLen {p : Prg} (hv : p.Vld) {i : I8} (hi : i.Wf) (k : Nat) : (p.ctK i k).length ≤ 131 := by
  unfold Prg.ctK catW
  rw [List.length_append]
  have h1 := mnOfLen i.op
  have h2 := joinTailLen (l := ((p.lws i).take k).map (·.t)) (B := 22) fun x hx => by
    obtain ⟨y, hy, rfl⟩ := List.mem_map.1 hx
    obtain ⟨c, _, rfl⟩ := List.mem_map.1 (List.mem_of_mem_take hy)
    exact lwLen hv hi c
  have h3 : (((p.lws i).take k).map (·.t)).length ≤ 5 := by
    rw [List.length_map, List.length_take]
    have : (p.lws i).length ≤ 5 := by rw [Prg.lws, List.length_map]; exact oplLen _
    omega
  have h4 := Nat.mul_le_mul_right 23 h3
  omega
/-- What the specification's text gives. -/
def Prg.rtW (p : Prg) (i : I8) : Wd := if allW (p.lws i) = true then .ok (catW (mnOf i.op).data.toList (p.lws i)) else .no 11
theorem rtBad {p : Prg} {i : I8} {k : Nat} (h : k < (p.lws i).length) (h0 : (p.lws i)[k].e ≠ 0) : p.rtW i = .no 11 := by
  unfold Prg.rtW
  rw [if_neg]
  intro ha
  have := List.all_eq_true.1 ha _ (List.getElem_mem h)
  exact h0 (by simpa using this)
theorem rtGood {p : Prg} {i : I8} (h : ∀ j (hj : j < (p.lws i).length), (p.lws i)[j].e = 0) : p.rtW i = .ok (p.ctK i (p.lws i).length) := by
  unfold Prg.rtW Prg.ctK
  rw [if_pos, List.take_length]
  refine List.all_eq_true.2 fun x hx => ?_
  obtain ⟨j, hj, rfl⟩ := List.getElem_of_mem hx
  simpa using h j hj
theorem ctApp (t : List UInt8) (x : List UInt8) : bs t ++ ⟨#[32]⟩ ++ bs x = bs (t ++ 32 :: x) := by
  have e : t ++ 32 :: x = t ++ [32] ++ x := by simp
  rw [e, bsApp, bsApp]; rfl
set_option maxRecDepth 100000 in
set_option maxHeartbeats 8000000 in
theorem rText {a : PgA} {p : Prg} (hv : p.Vld) (i : I8) (hi : i.Wf) (ho : 1 ≤ i.op ∧ i.op ≤ 22) (w : World) (hP : PgW w a p) : Calls Tryz.prog 62 #[a.val, i.val] w fun e w' => e = gvB (p.rtW i) ∧ Below w.heap.size w w' := by
  obtain ⟨W, hWE⟩ : ∃ W, w.alloc (.cells a.fs 28) = W := ⟨_, rfl⟩
  have hbW : Below w.heap.size w W := by rw [← hWE]; exact belowAlloc w _
  have hB : PBox W w.heap.size a := by rw [← hWE]; exact Blk.new w _ _
  have hz : W.heap.size = w.heap.size + 1 := by rw [← hWE]; simp
  have HMN := Lib.hid (fun X => rMnem i.op _ rfl X)
  have HOS := Lib.hid (fun X => rOps i.op.toNat (by omega) X)
  rw [show ((i.op.toNat : Nat) : Int) = i.op by omega] at HOS
  have HOD := Lib.hid (fun c hc X (hX : PgW X a p) => rOpd i hi c hc X hX)
  have HLI := Lib.hid (fun c (hc : c ∈ opl i.op.toNat) => oplIn i.op.toNat (by omega) c hc)
  obtain ⟨r, hr⟩ : ∃ r, gvB (p.rtW i) = r := ⟨_, rfl⟩
  rw [hr]
  have HBAD := Lib.hid (fun k (h : k < (p.lws i).length) (h0 : (p.lws i)[k].e ≠ 0) => (congrArg gvB (rtBad h h0)).symm.trans hr)
  have HGOOD := Lib.hid (fun (h : ∀ j (hj : j < (p.lws i).length), (p.lws i)[j].e = 0) => (congrArg gvB (rtGood h)).symm.trans hr)
  have HNXT := Lib.hid (fun k (h : k < (p.lws i).length) => ctNext h)
  have HCL := Lib.hid (fun k => ctLen hv hi k)
  have HLW : Hid (∀ k (h : k < (p.lws i).length) (h2 : k < (opl i.op.toNat).length), (p.lws i)[k] = p.lw i (opl i.op.toNat)[k]) := Lib.hid fun k h h2 => List.getElem_map _
  have HLL : Hid ((p.lws i).length = (opl i.op.toNat).length) := Lib.hid (by unfold Prg.lws; rw [List.length_map])
  have HL5 := oplLen i.op.toNat
  have HLX := Lib.hid (fun c => lwLen hv hi c)
  have HC0 : Hid (bs (p.ctK i 0) = mnOf i.op) := Lib.hid (by unfold Prg.ctK catW; simp [Lib.joinTail]; exact (rfl : bs (mnOf i.op).data.toList = mnOf i.op))
  generalize p.lws i = ws at *
  generalize p.ctK i = ct at *
  generalize p.lw i = lw at *
  generalize opl i.op.toNat = L at *
  generalize mnOf i.op = m0 at *
  clear hr hv
  obtain ⟨op, a', b', c', obj, n, fn, ord⟩ := i
  obtain ⟨V, hVE⟩ : ∃ V, W.alloc (.cells #[.int .i64 op, .int .i64 a', .int .i64 b', .int .i64 c', .int .i64 obj, .int .i64 n, .int .i64 fn, .int .i64 ord] 41) = V := ⟨_, rfl⟩
  have hbV : Below W.heap.size W V := by rw [← hVE]; exact belowAlloc W _
  have hI : Blk V W.heap.size 41 #[.int .i64 op, .int .i64 a', .int .i64 b', .int .i64 c', .int .i64 obj, .int .i64 n, .int .i64 fn, .int .i64 ord] := by rw [← hVE]; exact Blk.new W _ _
  rw [hz] at hI
  have hbB := belowThen hbW hbV
  have HKB := Lib.hid (hB.below hbV)
  have HKI := Lib.hid hI
  have HP := Lib.hid (fun X (hX : Below V.heap.size V X) => (hP.below hbB).below hX)
  obtain ⟨A1, n1, c1, A2, n2, c2, A3, n3, c3, A4, n4, c4, A5, n5, c5⟩ := a
  simp only [PgA.val, PgA.fs, I8.val] at *
  obtain ⟨b0, hb0⟩ : ∃ b0, w.heap.size = b0 := ⟨_, rfl⟩
  obtain ⟨b1, hb1⟩ : ∃ b1, w.heap.size + 1 = b1 := ⟨_, rfl⟩
  have HBB := Lib.hid hbB
  have HB0 := Lib.hid hb0
  have HB1 := Lib.hid hb1
  have HK : Hid (∀ X, Below V.heap.size V X → Below V.heap.size V X ∧ X.cell? ⟨b0, 0, none⟩ = some (.slice A1 n1 c1) ∧ X.cell? ⟨b0, 1, none⟩ = some (.slice A2 n2 c2) ∧ X.cell? ⟨b0, 2, none⟩ = some (.slice A3 n3 c3) ∧ X.cell? ⟨b0, 3, none⟩ = some (.slice A4 n4 c4) ∧ X.cell? ⟨b0, 4, none⟩ = some (.slice A5 n5 c5) ∧ X.cell? ⟨b1, 0, none⟩ = some (.int .i64 op) ∧ X.cell? ⟨b1, 1, none⟩ = some (.int .i64 a') ∧ X.cell? ⟨b1, 2, none⟩ = some (.int .i64 b') ∧ X.cell? ⟨b1, 3, none⟩ = some (.int .i64 c') ∧ X.cell? ⟨b1, 4, none⟩ = some (.int .i64 obj) ∧ X.cell? ⟨b1, 5, none⟩ = some (.int .i64 n) ∧ X.cell? ⟨b1, 6, none⟩ = some (.int .i64 fn) ∧ X.cell? ⟨b1, 7, none⟩ = some (.int .i64 ord)) := by
    refine Lib.hid fun X hX => ?_
    obtain ⟨g0, g1, g2, g3, g4⟩ := (HKB.out.below hX).facts
    have hJ := HKI.out.below' hX
    rw [hb1] at hJ
    rw [hb0] at g0 g1 g2 g3 g4
    exact ⟨hX, g0, g1, g2, g3, g4, hJ.cell 0, hJ.cell 1, hJ.cell 2, hJ.cell 3, hJ.cell 4, hJ.cell 5, hJ.cell 6, hJ.cell 7⟩
  have HWE := Lib.hid hWE
  have HVE := Lib.hid hVE
  clear hP hB hbW hbV hWE hVE hI hbB hb0 hb1 HKB HKI
  clear hi ho
  obtain ⟨S, hS⟩ : ∃ S, bs L = S := ⟨_, rfl⟩
  rw [hS] at HOS
  have hSL : S.size = L.length := by rw [← hS]; simp [bs, ByteArray.size]
  have HAT : Hid (∀ k (h : k < S.size) (h2 : k < L.length), S[k] = L[k]) := Lib.hid (by subst hS; intro k h h2; simp [bs]; rfl)
  have hS5 : S.size ≤ 5 := by omega
  have HSL := Lib.hid hSL
  clear hS hSL HL5
  go_enter Tryz.func62, Tryz.ntmps62
  go_wp2_with fail
  rw [HWE.out, HVE.out]
  rw [HB1.out, HB0.out]
  obtain ⟨q, k0, k1', k2', k3', k4, r0, r1, r2, r3, r4, r5, r6, r7⟩ := HK.out V (Below.refl _ _)
  clear q
  go_wp2_with fail
  refine (HMN.out _).mono ?_
  rintro e w1 ⟨rfl, q1⟩
  have HS1 := Lib.hid q1
  clear q1 k0 k1' k2' k3' k4 r0 r1 r2 r3 r4 r5 r6 r7
  obtain ⟨q, k0, k1', k2', k3', k4, r0, r1, r2, r3, r4, r5, r6, r7⟩ := HK.out w1 HS1.out
  clear q
  go_wp2_with fail
  refine (HOS.out _).mono ?_
  rintro e w2 ⟨rfl, rfl⟩
  rw [← HC0.out]
  go_wp2
  go_loopw [6, 8] (fun vo vi wr => ∃ k : Nat, k ≤ S.size ∧ vi = .int .i64 k ∧ vo = .string (bs (ct k)) ∧ Below V.heap.size V wr ∧ Hid (∀ j (hj : j < ws.length), j < k → ws[j].e = 0)) (fun _ i _ => S.size - (intOf i).toNat)
  case atStart => exact ⟨0, Nat.zero_le _, rfl, rfl, HS1.out, Lib.hid fun j _ h => by omega⟩
  case round =>
    obtain ⟨k, hk, rfl, rfl, hb, HA⟩ := hrel
    clear k0 k1' k2' k3' k4 r0 r1 r2 r3 r4 r5 r6 r7
    obtain ⟨q, k0, k1', k2', k3', k4, r0, r1, r2, r3, r4, r5, r6, r7⟩ := HK.out wr hb
    clear q
    by_cases hks : k < S.size
    · have hkL : k < L.length := by rw [← HSL.out]; exact hks
      have hkw : k < ws.length := by rw [HLL.out]; exact hkL
      have hc : S[k] = L[k] := HAT.out k hks hkL
      have HCO := Lib.hid (HOD.out L[k] (HLI.out _ (List.getElem_mem hkL)))
      have hlx := HLX.out L[k]
      rw [← HLW.out k hkw hkL] at HCO hlx
      rw [← hc] at HCO
      have HNX := Lib.hid (HNXT.out k hkw)
      have HAP : Hid (bs (ct k) ++ ⟨#[32]⟩ ++ bs (ws[k]).t = bs (ct (k + 1))) := Lib.hid (by rw [HNX.out]; exact ctApp _ _)
      have hcl := HCL.out k
      have hso : (bs (ct k)).size ≤ 131 := by simpa [bs, ByteArray.size] using hcl
      have hst : (bs (ws[k]).t).size ≤ 22 := by simpa [bs, ByteArray.size] using hlx
      have hk0 : (0 : Int) ≤ k := by omega
      have hk1 : (k : Int) < S.size := by omega
      have hbd : Below V.heap.size V wr.drew := hb.drew
      have HBX := Lib.hid hb
      obtain ⟨x, hx⟩ : ∃ x, ws[k] = x := ⟨_, rfl⟩
      have HKW := Lib.hid hkw
      rw [hx] at HCO HAP hst
      have HX := Lib.hid hx
      generalize bs (ct k) = so at HAP hso ⊢
      clear hcl hlx hkL hc hx hb HNX
      go_wp2_with fail
      go_region_held3 (fun w' => Below V.heap.size V w' ∧ w'.cell? ⟨b0, 0, none⟩ = some (.slice A1 n1 c1) ∧ w'.cell? ⟨b0, 1, none⟩ = some (.slice A2 n2 c2) ∧ w'.cell? ⟨b0, 2, none⟩ = some (.slice A3 n3 c3) ∧ w'.cell? ⟨b0, 3, none⟩ = some (.slice A4 n4 c4) ∧ w'.cell? ⟨b0, 4, none⟩ = some (.slice A5 n5 c5) ∧ w'.cell? ⟨b1, 0, none⟩ = some (.int .i64 op) ∧ w'.cell? ⟨b1, 1, none⟩ = some (.int .i64 a') ∧ w'.cell? ⟨b1, 2, none⟩ = some (.int .i64 b') ∧ w'.cell? ⟨b1, 3, none⟩ = some (.int .i64 c') ∧ w'.cell? ⟨b1, 4, none⟩ = some (.int .i64 obj) ∧ w'.cell? ⟨b1, 5, none⟩ = some (.int .i64 n) ∧ w'.cell? ⟨b1, 6, none⟩ = some (.int .i64 fn) ∧ w'.cell? ⟨b1, 7, none⟩ = some (.int .i64 ord))
        (first
          | with_reducible assumption
          | with_reducible exact HK.out _ hbd
          | exact HK.out _ (belowThen (‹Below V.heap.size V _ ∧ _›).1 bk))
        (first
          | (go_at_call 133; refine (HCO.out _ (HP.out _ (‹Below V.heap.size V _ ∧ _›).1)).mono ?_; rintro e wO ⟨he, bk⟩; have he : e = .returned (.tuple #[.string (bs x.t), .bool (decide (x.e = 0))]) := he; subst he))
      have hfin := (‹Below V.heap.size V wO ∧ _›).1
      clear k0 k1' k2' k3' k4 r0 r1 r2 r3 r4 r5 r6 r7 hbd bk
      generalize hsx : bs x.t = sx at *
      have HSX := Lib.hid hsx
      clear hsx
      by_cases h0 : x.e = 0
      · rw [decide_eq_true h0]
        have HAN : Hid (∀ j (hj : j < ws.length), j < k + 1 → ws[j].e = 0) := Lib.hid fun j hj hjk => by
          rcases Nat.lt_or_ge j k with h' | h'
          · exact HA.out j hj h'
          · have e : j = k := by omega
            subst e
            rw [HX.out]; exact h0
        clear h0
        go_wp2
        go_roundw
        case rel => exact ⟨k + 1, by omega, by go_num, by rw [← HAP.out], hfin, HAN⟩
        case measure => simp [intOf]; omega
      · rw [decide_eq_false h0]
        have HZ := Lib.hid (HBAD.out k HKW.out (by rw [HX.out]; exact h0))
        clear h0
        go_wp2
        go_ret2
        exact ⟨(gvBno 11 (by decide)).symm.trans HZ.out, belowThen HBB.out hfin⟩
    · have hkL : k = ws.length := by rw [HLL.out, ← HSL.out]; omega
      have HZ := Lib.hid (HGOOD.out fun j hj => HA.out j hj (by rw [hkL]; exact hj))
      rw [← hkL] at HZ
      clear hkL
      go_wp2
      go_ret2
      exact ⟨(gvBok _).symm.trans HZ.out, belowThen HBB.out hb⟩
end Go.Proofs.YtnckpjcfgeajbaaGreatDoor
