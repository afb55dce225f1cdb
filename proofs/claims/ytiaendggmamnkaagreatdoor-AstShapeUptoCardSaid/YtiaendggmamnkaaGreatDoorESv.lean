/-
  The small functions of ast: kinds, functions, orders, values, the error of a property; what lies inside an element; two expressions but for their arguments.
-/
import Derived.Test.YtiaendggmamnkaaGreatDoorProg
import Derived.KernelRfl
import Derived.OwnWalk
import Derived.Test.YtiaendggmamnkaaGreatDoorEOw
import Derived.ProofKit
import Derived.Lib.Hide
import Derived.BigQuiet
import Derived.Deep.QuietTactic
import Derived.Deep.Cut
import Derived.RangeFuncRecord
namespace Go.Proofs.YtiaendggmamnkaaGreatDoor
open Go Go.RowKit

def kdOk (k : Int) : Bool := decide (1 ≤ k) && decide (k ≤ 20)
theorem iKind16 (k : Int) (w : World) : Calls Tryz.prog 60 #[.int .i64 k] w fun e w' => e = .returned (.bool (kdOk k)) ∧ w' = w := by
  unfold kdOk
  by_cases h1 : 1 ≤ k
  · have z1 : decide (1 ≤ k) = true := by simpa using h1
    by_cases h2 : k ≤ 20
    · have z2 : decide (k ≤ 20) = true := by simpa using h2
      rw [z1, z2]
      go_enter Tryz.func60, Tryz.ntmps60
      go_wp2_with fail
      go_ret
      exact ⟨rfl, rfl⟩
    · have z2 : decide (k ≤ 20) = false := by simpa using h2
      rw [z1, z2]
      go_enter Tryz.func60, Tryz.ntmps60
      go_wp2_with fail
      go_ret
      exact ⟨rfl, rfl⟩
  · have z1 : decide (1 ≤ k) = false := by simpa using h1
    rw [z1]
    go_enter Tryz.func60, Tryz.ntmps60
    go_wp2_with fail
    go_ret
    exact ⟨rfl, rfl⟩
def fnOkA (k : Int) : Bool := decide (1 ≤ k) && decide (k ≤ 10)
theorem iFn16 (k : Int) (w : World) : Calls Tryz.prog 115 #[.int .i64 k] w fun e w' => e = .returned (.bool (fnOkA k)) ∧ w' = w := by
  unfold fnOkA
  by_cases h1 : 1 ≤ k
  · have z1 : decide (1 ≤ k) = true := by simpa using h1
    by_cases h2 : k ≤ 10
    · have z2 : decide (k ≤ 10) = true := by simpa using h2
      rw [z1, z2]
      go_enter Tryz.func115, Tryz.ntmps115
      go_wp2_with fail
      go_ret
      exact ⟨rfl, rfl⟩
    · have z2 : decide (k ≤ 10) = false := by simpa using h2
      rw [z1, z2]
      go_enter Tryz.func115, Tryz.ntmps115
      go_wp2_with fail
      go_ret
      exact ⟨rfl, rfl⟩
  · have z1 : decide (1 ≤ k) = false := by simpa using h1
    rw [z1]
    go_enter Tryz.func115, Tryz.ntmps115
    go_wp2_with fail
    go_ret
    exact ⟨rfl, rfl⟩
def orOkA (k : Int) : Bool := decide (0 ≤ k) && decide (k ≤ 2)
theorem iOrder16 (k : Int) (w : World) : Calls Tryz.prog 154 #[.int .i64 k] w fun e w' => e = .returned (.bool (orOkA k)) ∧ w' = w := by
  unfold orOkA
  by_cases h1 : 0 ≤ k
  · have z1 : decide (0 ≤ k) = true := by simpa using h1
    by_cases h2 : k ≤ 2
    · have z2 : decide (k ≤ 2) = true := by simpa using h2
      rw [z1, z2]
      go_enter Tryz.func154, Tryz.ntmps154
      go_wp2_with fail
      go_ret
      exact ⟨rfl, rfl⟩
    · have z2 : decide (k ≤ 2) = false := by simpa using h2
      rw [z1, z2]
      go_enter Tryz.func154, Tryz.ntmps154
      go_wp2_with fail
      go_ret
      exact ⟨rfl, rfl⟩
  · have z1 : decide (0 ≤ k) = false := by simpa using h1
    rw [z1]
    go_enter Tryz.func154, Tryz.ntmps154
    go_wp2_with fail
    go_ret
    exact ⟨rfl, rfl⟩
def vlOk (k : Int) : Bool := decide (-2147483648 ≤ k) && decide (k ≤ 2147483647)
theorem iValue16 (k : Int) (w : World) : Calls Tryz.prog 103 #[.int .i64 k] w fun e w' => e = .returned (.bool (vlOk k)) ∧ w' = w := by
  unfold vlOk
  by_cases h1 : -2147483648 ≤ k
  · have z1 : decide (-2147483648 ≤ k) = true := by simpa using h1
    by_cases h2 : k ≤ 2147483647
    · have z2 : decide (k ≤ 2147483647) = true := by simpa using h2
      rw [z1, z2]
      go_enter Tryz.func103, Tryz.ntmps103
      go_wp2_with fail
      go_ret
      exact ⟨rfl, rfl⟩
    · have z2 : decide (k ≤ 2147483647) = false := by simpa using h2
      rw [z1, z2]
      go_enter Tryz.func103, Tryz.ntmps103
      go_wp2_with fail
      go_ret
      exact ⟨rfl, rfl⟩
  · have z1 : decide (-2147483648 ≤ k) = false := by simpa using h1
    rw [z1]
    go_enter Tryz.func103, Tryz.ntmps103
    go_wp2_with fail
    go_ret
    exact ⟨rfl, rfl⟩
theorem iUnless (b : Bool) (x : Int) (w : World) : Calls Tryz.prog 101 #[.bool b, .int .i64 x] w fun e w' => e = .returned (.int .i64 (if b = true then 0 else x)) ∧ w' = w := by
  cases b
  · go_enter Tryz.func101, Tryz.ntmps101
    go_wp2_with fail
    go_ret
    exact ⟨rfl, rfl⟩
  · go_enter Tryz.func101, Tryz.ntmps101
    go_wp2_with fail
    go_ret
    exact ⟨rfl, rfl⟩
/-- The cells of a statement, of an expression. -/
def smC (k : Int) (nm ob ot : ByteArray) (f o : Int) (v6 v7 v8 : Value) : Array Value := #[.int .i64 k, .string nm, .string ob, .string ot, .int .i64 f, .int .i64 o, v6, v7, v8]
def exC (k n : Int) (nm : ByteArray) (f : Int) (v4 : Value) : Array Value := #[.int .i64 k, .int .i64 n, .string nm, .int .i64 f, v4]
theorem iBlocks (k f o : Int) (nm ob ot : ByteArray) (A6 A7 A8 : Option Addr) (n6 c6 n7 c7 n8 c8 : Nat) (w : World) : Calls Tryz.prog 67 #[.agg (smC k nm ob ot f o (.slice A6 n6 c6) (.slice A7 n7 c7) (.slice A8 n8 c8))] w fun e w' => e = .returned (.tuple #[.slice A7 n7 c7, .slice A8 n8 c8]) ∧ Below w.heap.size w w' := by
  obtain ⟨W, hW⟩ : ∃ W, w.alloc (.cells (smC k nm ob ot f o (.slice A6 n6 c6) (.slice A7 n7 c7) (.slice A8 n8 c8)) 54) = W := ⟨_, rfl⟩
  have hb : Below w.heap.size w W := by rw [← hW]; exact belowAlloc _ _
  have B : Blk W w.heap.size 54 (smC k nm ob ot f o (.slice A6 n6 c6) (.slice A7 n7 c7) (.slice A8 n8 c8)) := by rw [← hW]; exact Blk.new _ _ _
  have f7 : W.cell? ⟨w.heap.size, 7, none⟩ = some (.slice A7 n7 c7) := B.cell 7
  have f8 : W.cell? ⟨w.heap.size, 8, none⟩ = some (.slice A8 n8 c8) := B.cell 8
  unfold smC at hW ⊢
  have HW := Lib.hid hW
  have HB := Lib.hid hb
  clear B hW hb
  go_enter Tryz.func67, Tryz.ntmps67
  go_upto_region 1 with fail
  rw [HW.out]
  go_quiet (fail)
  go_wp2_with fail
  go_ret2
  exact ⟨rfl, belowDrewN HB.out _⟩
theorem iArgs (k n f : Int) (nm : ByteArray) (A4 : Option Addr) (n4 c4 : Nat) (w : World) : Calls Tryz.prog 112 #[.agg (exC k n nm f (.slice A4 n4 c4))] w fun e w' => e = .returned (.tuple #[.slice A4 n4 c4, .slice none 0 0]) ∧ Below w.heap.size w w' := by
  obtain ⟨W, hW⟩ : ∃ W, w.alloc (.cells (exC k n nm f (.slice A4 n4 c4)) 37) = W := ⟨_, rfl⟩
  have hb : Below w.heap.size w W := by rw [← hW]; exact belowAlloc _ _
  have B : Blk W w.heap.size 37 (exC k n nm f (.slice A4 n4 c4)) := by rw [← hW]; exact Blk.new _ _ _
  have f4 : W.cell? ⟨w.heap.size, 4, none⟩ = some (.slice A4 n4 c4) := B.cell 4
  unfold exC at hW ⊢
  have HW := Lib.hid hW
  have HB := Lib.hid hb
  clear B hW hb
  go_enter Tryz.func112, Tryz.ntmps112
  go_upto_region 1 with fail
  rw [HW.out]
  go_wp2_with fail
  go_ret2
  exact ⟨rfl, HB.out⟩
theorem two16 (W : World) (o1 o2 : Obj) {Z : World} (hZ : (W.alloc o1).alloc o2 = Z) : Z.heap[W.heap.size]? = some o1 ∧ Z.heap[W.heap.size + 1]? = some o2 ∧ Below W.heap.size W Z := by
  subst hZ
  refine ⟨((belowAlloc (W.alloc o1) o2).block W.heap.size (by simp)).trans (World.alloc_heap_new W o1), ?_, belowThen (belowAlloc _ _) (belowAlloc _ _)⟩
  have h := World.alloc_heap_new (W.alloc o1) o2
  rwa [World.size_alloc] at h
/-- Two expressions but for their arguments. -/
def exSame (k n : Int) (s : ByteArray) (f k' n' : Int) (s' : ByteArray) (f' : Int) : Bool := k == k' && (n == n' && (s.toList == s'.toList && f == f'))
set_option maxRecDepth 100000 in
theorem iSameX (k n f k' n' f' : Int) (s s' : ByteArray) (A4 B4 : Option Addr) (n4 c4 m4 d4 : Nat) (w : World) : Calls Tryz.prog 128 #[.agg (exC k n s f (.slice A4 n4 c4)), .agg (exC k' n' s' f' (.slice B4 m4 d4))] w fun e w' => e = .returned (.bool (exSame k n s f k' n' s' f')) ∧ Below w.heap.size w w' := by
  obtain ⟨W, hW⟩ : ∃ W, (w.alloc (.cells (exC k n s f (.slice A4 n4 c4)) 37)).alloc (.cells (exC k' n' s' f' (.slice B4 m4 d4)) 37) = W := ⟨_, rfl⟩
  obtain ⟨h1, h2, hb⟩ := two16 w _ _ hW
  have B : Blk W w.heap.size 37 (exC k n s f (.slice A4 n4 c4)) := h1
  have C : Blk W (w.heap.size + 1) 37 (exC k' n' s' f' (.slice B4 m4 d4)) := h2
  have a0 : W.cell? ⟨w.heap.size, 0, none⟩ = some (.int .i64 k) := B.cell 0
  have a1 : W.cell? ⟨w.heap.size, 1, none⟩ = some (.int .i64 n) := B.cell 1
  have a2 : W.cell? ⟨w.heap.size, 2, none⟩ = some (.string s) := B.cell 2
  have a3 : W.cell? ⟨w.heap.size, 3, none⟩ = some (.int .i64 f) := B.cell 3
  have b0 : W.cell? ⟨w.heap.size + 1, 0, none⟩ = some (.int .i64 k') := C.cell 0
  have b1 : W.cell? ⟨w.heap.size + 1, 1, none⟩ = some (.int .i64 n') := C.cell 1
  have b2 : W.cell? ⟨w.heap.size + 1, 2, none⟩ = some (.string s') := C.cell 2
  have b3 : W.cell? ⟨w.heap.size + 1, 3, none⟩ = some (.int .i64 f') := C.cell 3
  unfold exC at hW ⊢
  have HW := Lib.hid hW
  have HB := Lib.hid hb
  clear B C hW hb h1 h2
  unfold exSame
  rcases e0 : (k == k')
  · go_enter Tryz.func128, Tryz.ntmps128
    go_upto_region 1 with fail
    rw [HW.out]
    go_wp2_with fail
    go_ret
    exact ⟨rfl, HB.out⟩
  rcases e1 : (n == n')
  · go_enter Tryz.func128, Tryz.ntmps128
    go_upto_region 1 with fail
    rw [HW.out]
    go_wp2_with fail
    go_ret
    exact ⟨rfl, HB.out⟩
  rcases e2 : (s.toList == s'.toList)
  · go_enter Tryz.func128, Tryz.ntmps128
    go_upto_region 1 with fail
    rw [HW.out]
    go_wp2_with fail
    go_ret
    exact ⟨rfl, HB.out⟩
  rcases e3 : (f == f')
  · go_enter Tryz.func128, Tryz.ntmps128
    go_upto_region 1 with fail
    rw [HW.out]
    go_wp2_with fail
    go_ret
    exact ⟨rfl, HB.out⟩
  · go_enter Tryz.func128, Tryz.ntmps128
    go_upto_region 1 with fail
    rw [HW.out]
    go_wp2_with fail
    go_ret
    exact ⟨rfl, HB.out⟩
end Go.Proofs.YtiaendggmamnkaaGreatDoor

namespace Go.Proofs.YtiaendggmamnkaaGreatDoor
open Go Go.RowKit


/-- The iterator over a list, whose two boxes are z and z + 1. -/
def itrM (z : Nat) : Value := .func (.func 170) #[] #[.pointer (some ⟨z, 0, none⟩), .pointer (some ⟨z + 1, 0, none⟩)]
def insM : Value := .func (.func 67) #[] #[]
/-- The two boxes of an iterator. -/
structure ItrM (w : World) (z : Nat) (A : Option Addr) (n c : Nat) : Prop where
  l : Blk w z 42 #[.slice A n c]
  f : Blk w (z + 1) 109 #[insM]
theorem ItrM.below {w w' : World} {z : Nat} {A : Option Addr} {n c : Nat} (h : ItrM w z A n c) (hb : Below w.heap.size w w') : ItrM w' z A n c := ⟨h.l.below' hb, h.f.below' hb⟩
set_option maxRecDepth 100000 in
theorem iVisitM (A : Option Addr) (n c : Nat) (w : World) : Calls Tryz.prog 116 #[.slice A n c, insM] w fun e w' => e = .returned (itrM w.heap.size) ∧ ItrM w' w.heap.size A n c ∧ Below w.heap.size w w' := by
  obtain ⟨W, hW⟩ : ∃ W, (w.alloc (.cells #[.slice A n c] 42)).alloc (.cells #[insM] 109) = W := ⟨_, rfl⟩
  obtain ⟨h1, h2, hb⟩ := two16 w _ _ hW
  have HX := Lib.hid (show ItrM W w.heap.size A n c ∧ Below w.heap.size w W from ⟨⟨h1, h2⟩, hb⟩)
  have HW := Lib.hid hW
  clear hW h1 h2 hb
  unfold insM at HW ⊢
  go_enter Tryz.func116, Tryz.ntmps116
  go_upto_region 1 with fail
  rw [HW.out]
  go_wp2_with fail
  go_ret
  exact ⟨rfl, HX.out⟩


/-- The iterator over a list, whose two boxes are z and z + 1. -/
def itrX (z : Nat) : Value := .func (.func 164) #[] #[.pointer (some ⟨z, 0, none⟩), .pointer (some ⟨z + 1, 0, none⟩)]
def insX : Value := .func (.func 112) #[] #[]
/-- The two boxes of an iterator. -/
structure ItrX (w : World) (z : Nat) (A : Option Addr) (n c : Nat) : Prop where
  l : Blk w z 35 #[.slice A n c]
  f : Blk w (z + 1) 158 #[insX]
theorem ItrX.below {w w' : World} {z : Nat} {A : Option Addr} {n c : Nat} (h : ItrX w z A n c) (hb : Below w.heap.size w w') : ItrX w' z A n c := ⟨h.l.below' hb, h.f.below' hb⟩
set_option maxRecDepth 100000 in
theorem iVisitX (A : Option Addr) (n c : Nat) (w : World) : Calls Tryz.prog 111 #[.slice A n c, insX] w fun e w' => e = .returned (itrX w.heap.size) ∧ ItrX w' w.heap.size A n c ∧ Below w.heap.size w w' := by
  obtain ⟨W, hW⟩ : ∃ W, (w.alloc (.cells #[.slice A n c] 35)).alloc (.cells #[insX] 158) = W := ⟨_, rfl⟩
  obtain ⟨h1, h2, hb⟩ := two16 w _ _ hW
  have HX := Lib.hid (show ItrX W w.heap.size A n c ∧ Below w.heap.size w W from ⟨⟨h1, h2⟩, hb⟩)
  have HW := Lib.hid hW
  clear hW h1 h2 hb
  unfold insX at HW ⊢
  go_enter Tryz.func111, Tryz.ntmps111
  go_upto_region 1 with fail
  rw [HW.out]
  go_wp2_with fail
  go_ret
  exact ⟨rfl, HX.out⟩


theorem iStatements (A : Option Addr) (n c : Nat) (w : World) : Calls Tryz.prog 59 #[.slice A n c] w fun e w' => e = .returned (itrM w.heap.size) ∧ ItrM w' w.heap.size A n c ∧ Below w.heap.size w w' := by
  have HV := Lib.hid (iVisitM A n c w)
  unfold insM at HV
  go_enter Tryz.func59, Tryz.ntmps59
  go_wp2_with fail
  refine HV.out.mono ?_
  rintro e w1 ⟨rfl, h1, b1⟩
  have HX := Lib.hid (show ItrM w1 w.heap.size A n c ∧ Below w.heap.size w w1 from ⟨h1, b1⟩)
  clear h1 b1
  go_wp2_with fail
  go_ret
  exact ⟨rfl, HX.out⟩
theorem iExpressions (k n f : Int) (s : ByteArray) (A4 : Option Addr) (n4 c4 : Nat) (w : World) : Calls Tryz.prog 55 #[.agg (exC k n s f (.slice A4 n4 c4))] w fun e w' => ∃ g z, e = .returned (itrX z) ∧ w.heap.size ≤ g ∧ w.heap.size ≤ z ∧ Blk w' g 37 (exC k n s f (.slice A4 n4 c4)) ∧ ItrX w' z (some ⟨g, 0, none⟩) 1 1 ∧ Below w.heap.size w w' := by
  obtain ⟨W, hW⟩ : ∃ W, w.alloc (.cells (exC k n s f (.slice A4 n4 c4)) 37) = W := ⟨_, rfl⟩
  have hb : Below w.heap.size w W := by rw [← hW]; exact belowAlloc _ _
  have hs : W.heap.size = w.heap.size + 1 := by rw [← hW]; simp
  have B : Blk W w.heap.size 37 (exC k n s f (.slice A4 n4 c4)) := by rw [← hW]; exact Blk.new _ _ _
  obtain ⟨Y, hY⟩ : ∃ Y, W.alloc (.cells (exC k n s f (.slice A4 n4 c4)) 37) = Y := ⟨_, rfl⟩
  have hb2 : Below W.heap.size W Y := by rw [← hY]; exact belowAlloc _ _
  have hs2 : Y.heap.size = w.heap.size + 2 := by rw [← hY]; simp [hs]
  have B2 : Blk Y W.heap.size 37 (exC k n s f (.slice A4 n4 c4)) := by rw [← hY]; exact Blk.new _ _ _
  have f0 : W.cell? ⟨w.heap.size, 0, none⟩ = some (.int .i64 k) := B.cell 0
  have f1 : W.cell? ⟨w.heap.size, 1, none⟩ = some (.int .i64 n) := B.cell 1
  have f2 : W.cell? ⟨w.heap.size, 2, none⟩ = some (.string s) := B.cell 2
  have f3 : W.cell? ⟨w.heap.size, 3, none⟩ = some (.int .i64 f) := B.cell 3
  have f4 : W.cell? ⟨w.heap.size, 4, none⟩ = some (.slice A4 n4 c4) := B.cell 4
  have HV := Lib.hid (iVisitX (some ⟨W.heap.size, 0, none⟩) 1 1 Y)
  have HB2 := Lib.hid B2
  have HBB := Lib.hid (belowThen hb hb2)
  have HS := Lib.hid (show w.heap.size ≤ W.heap.size ∧ w.heap.size ≤ Y.heap.size by omega)
  unfold exC at hW hY
  unfold insX at HV
  have HW := Lib.hid hW
  have HY := Lib.hid hY
  clear hW hY hb hb2 B B2 hs hs2
  unfold exC
  go_enter Tryz.func55, Tryz.ntmps55
  go_upto_region 1 with fail
  rw [HW.out]
  go_wp2_with fail
  rw [HY.out]
  refine HV.out.mono ?_
  rintro e w1 ⟨rfl, h1, b1⟩
  have HX := Lib.hid (show Blk w1 W.heap.size 37 (exC k n s f (.slice A4 n4 c4)) ∧ ItrX w1 Y.heap.size (some ⟨W.heap.size, 0, none⟩) 1 1 ∧ Below w.heap.size w w1 from ⟨HB2.out.below' b1, h1, belowThen HBB.out b1⟩)
  clear h1 b1 f0 f1 f2 f3 f4
  go_wp2_with fail
  go_ret
  exact ⟨_, _, rfl, HS.out.1, HS.out.2, HX.out⟩
end Go.Proofs.YtiaendggmamnkaaGreatDoor
