/-
  The contract of lex.shapes: the six shapes, each with the class of its first character and that of all others.
-/
import Derived.Test.YtnlhkeobfidjkaaDoorLxO
namespace Go.Proofs.YtnlhkeobfidjkaaDoor
open Go Go.RowKit

theorem allU8 (P : UInt8 → Bool) (h : ((List.range 256).all fun n => P (UInt8.ofNat n)) = true) (c : UInt8) : P c = true := by
  rw [List.all_eq_true] at h
  have h1 := h c.toNat (List.mem_range.2 (by have := c.toNat_lt; omega))
  simpa using h1
theorem eqU8 (p q : UInt8 → Bool) (h : ((List.range 256).all fun n => p (UInt8.ofNat n) == q (UInt8.ofNat n)) = true) (c : UInt8) : p c = q c := by
  have := allU8 (fun c => p c == q c) h c
  simpa using this
theorem giveF {w : World} {e : Ending} {p : UInt8 → Bool} (h : ∃ v, e = .returned v ∧ Cls w v p) : ∃ f L, e = .returned (.func (.func f) #[] L) ∧ Cls w (.func (.func f) #[] L) p := by
  obtain ⟨v, rfl, hv⟩ := h
  obtain ⟨f, L, e, _⟩ := id hv
  subst e
  exact ⟨f, L, rfl, hv⟩
theorem clsL2 {w : World} {v1 v2 : Value} {p1 p2 : UInt8 → Bool} {T : TypeId} (h1 : Cls w v1 p1) (h2 : Cls w v2 p2) : ClsL (w.alloc (.cells #[v1, v2] T)) w.heap.size 2 [p1, p2] := by
  have hb := Blk.new w T #[v1, v2]
  refine ⟨rfl, hb.lt, fun j hj => ?_⟩
  have hj : j < 2 := hj
  rcases (by omega : j = 0 ∨ j = 1) with rfl | rfl
  · exact ⟨_, hb.cell 0, h1.below (belowAlloc _ _)⟩
  · exact ⟨_, hb.cell 1, h2.below (belowAlloc _ _)⟩
theorem clsL3 {w : World} {v1 v2 v3 : Value} {p1 p2 p3 : UInt8 → Bool} {T : TypeId} (h1 : Cls w v1 p1) (h2 : Cls w v2 p2) (h3 : Cls w v3 p3) : ClsL (w.alloc (.cells #[v1, v2, v3] T)) w.heap.size 3 [p1, p2, p3] := by
  have hb := Blk.new w T #[v1, v2, v3]
  refine ⟨rfl, hb.lt, fun j hj => ?_⟩
  have hj : j < 3 := hj
  rcases (by omega : j = 0 ∨ j = 1 ∨ j = 2) with rfl | rfl | rfl
  · exact ⟨_, hb.cell 0, h1.below (belowAlloc _ _)⟩
  · exact ⟨_, hb.cell 1, h2.below (belowAlloc _ _)⟩
  · exact ⟨_, hb.cell 2, h3.below (belowAlloc _ _)⟩
/-- The kind of the tokens of a shape. -/
def kd (j : Nat) : Int := if j ≤ 1 then 0 else (j : Int) - 1
/-- Block g holds the six shapes. -/
structure ShpW (w : World) (g : Nat) : Prop where
  lt : g < w.heap.size
  at_ : ∀ j, j < 6 → ∃ f L f' L', w.cell? ⟨g, j * 3, none⟩ = some (.int .i64 (kd j)) ∧ w.cell? ⟨g, j * 3 + 1, none⟩ = some (.func (.func f) #[] L) ∧ w.cell? ⟨g, j * 3 + 2, none⟩ = some (.func (.func f') #[] L') ∧
    Cls w (.func (.func f) #[] L) (fun c => cls c == j + 1) ∧ Cls w (.func (.func f') #[] L') (rst (j + 1))
theorem ShpW.below {w w' : World} {g : Nat} (h : ShpW w g) (hb : Below w.heap.size w w') : ShpW w' g :=
  ⟨Nat.lt_of_lt_of_le h.lt hb.size, fun j hj => by
    obtain ⟨f, L, f', L', h1, h2, h3, h4, h5⟩ := h.at_ j hj
    exact ⟨f, L, f', L', (hb.cell h.lt).trans h1, (hb.cell h.lt).trans h2, (hb.cell h.lt).trans h3, h4.below hb, h5.below hb⟩⟩
theorem shpOf (w : World) {T : TypeId} {f9 f8 f10 f11 f3 f6 f13 f14 f7 : FuncId} {L9 L8 L10 L11 L3 L6 L13 L14 L7 : Array Value}
    (k9 : Cls w (.func (.func f9) #[] L9) (fun c => (⟨#[32, 9]⟩ : ByteArray).data.toList.contains c)) (k8 : Cls w (.func (.func f8) #[] L8) (fun c => (⟨#[]⟩ : ByteArray).data.toList.contains c))
    (k10 : Cls w (.func (.func f10) #[] L10) (fun c => (⟨#[35]⟩ : ByteArray).data.toList.contains c)) (k11 : Cls w (.func (.func f11) #[] L11) (fun c => !(⟨#[10]⟩ : ByteArray).data.toList.contains c))
    (k3 : Cls w (.func (.func f3) #[] L3) (fun c => [fun c : UInt8 => decide (97 ≤ c.toNat) && decide (c.toNat ≤ 122), fun c => decide (65 ≤ c.toNat) && decide (c.toNat ≤ 90)].any fun p => p c))
    (k6 : Cls w (.func (.func f6) #[] L6) (fun c => [fun c : UInt8 => [fun c : UInt8 => decide (97 ≤ c.toNat) && decide (c.toNat ≤ 122), fun c => decide (65 ≤ c.toNat) && decide (c.toNat ≤ 90)].any fun p => p c, fun c => decide (48 ≤ c.toNat) && decide (c.toNat ≤ 57), fun c => (⟨#[95]⟩ : ByteArray).data.toList.contains c].any fun p => p c))
    (k13 : Cls w (.func (.func f13) #[] L13) (fun c => [fun c : UInt8 => decide (48 ≤ c.toNat) && decide (c.toNat ≤ 57), fun c => (⟨#[45]⟩ : ByteArray).data.toList.contains c].any fun p => p c))
    (k14 : Cls w (.func (.func f14) #[] L14) (fun c => (⟨#[40, 41, 123, 125, 44, 59, 61, 58]⟩ : ByteArray).data.toList.contains c)) (k7 : Cls w (.func (.func f7) #[] L7) (fun c => (⟨#[10]⟩ : ByteArray).data.toList.contains c)) :
    ShpW (w.alloc (.cells #[.int .i64 0, .func (.func f9) #[] L9, .func (.func f8) #[] L8, .int .i64 0, .func (.func f10) #[] L10, .func (.func f11) #[] L11, .int .i64 1, .func (.func f3) #[] L3, .func (.func f6) #[] L6, .int .i64 2, .func (.func f13) #[] L13, .func (.func f6) #[] L6, .int .i64 3, .func (.func f14) #[] L14, .func (.func f8) #[] L8, .int .i64 4, .func (.func f7) #[] L7, .func (.func f8) #[] L8] T)) w.heap.size := by
  have hb := Blk.new w T #[.int .i64 0, .func (.func f9) #[] L9, .func (.func f8) #[] L8, .int .i64 0, .func (.func f10) #[] L10, .func (.func f11) #[] L11, .int .i64 1, .func (.func f3) #[] L3, .func (.func f6) #[] L6, .int .i64 2, .func (.func f13) #[] L13, .func (.func f6) #[] L6, .int .i64 3, .func (.func f14) #[] L14, .func (.func f8) #[] L8, .int .i64 4, .func (.func f7) #[] L7, .func (.func f8) #[] L8]
  have ba := belowAlloc w (.cells #[.int .i64 0, .func (.func f9) #[] L9, .func (.func f8) #[] L8, .int .i64 0, .func (.func f10) #[] L10, .func (.func f11) #[] L11, .int .i64 1, .func (.func f3) #[] L3, .func (.func f6) #[] L6, .int .i64 2, .func (.func f13) #[] L13, .func (.func f6) #[] L6, .int .i64 3, .func (.func f14) #[] L14, .func (.func f8) #[] L8, .int .i64 4, .func (.func f7) #[] L7, .func (.func f8) #[] L8] T)
  refine ⟨hb.lt, fun j hj => ?_⟩
  rcases (by omega : j = 0 ∨ j = 1 ∨ j = 2 ∨ j = 3 ∨ j = 4 ∨ j = 5) with rfl | rfl | rfl | rfl | rfl | rfl
  · exact ⟨_, _, _, _, hb.cell 0, hb.cell 1, hb.cell 2, (k9.below ba).congr (eqU8 _ _ (by decide +kernel)), (k8.below ba).congr (eqU8 _ _ (by decide +kernel))⟩
  · exact ⟨_, _, _, _, hb.cell 3, hb.cell 4, hb.cell 5, (k10.below ba).congr (eqU8 _ _ (by decide +kernel)), (k11.below ba).congr (eqU8 _ _ (by decide +kernel))⟩
  · exact ⟨_, _, _, _, hb.cell 6, hb.cell 7, hb.cell 8, (k3.below ba).congr (eqU8 _ _ (by decide +kernel)), (k6.below ba).congr (eqU8 _ _ (by decide +kernel))⟩
  · exact ⟨_, _, _, _, hb.cell 9, hb.cell 10, hb.cell 11, (k13.below ba).congr (eqU8 _ _ (by decide +kernel)), (k6.below ba).congr (eqU8 _ _ (by decide +kernel))⟩
  · exact ⟨_, _, _, _, hb.cell 12, hb.cell 13, hb.cell 14, (k14.below ba).congr (eqU8 _ _ (by decide +kernel)), (k8.below ba).congr (eqU8 _ _ (by decide +kernel))⟩
  · exact ⟨_, _, _, _, hb.cell 15, hb.cell 16, hb.cell 17, (k7.below ba).congr (eqU8 _ _ (by decide +kernel)), (k8.below ba).congr (eqU8 _ _ (by decide +kernel))⟩
set_option maxRecDepth 100000 in
set_option maxHeartbeats 4000000 in
theorem iShapes (w : World) : Calls Tryd.prog 17 #[] w fun e w' => (∃ g, e = .returned (.slice (some ⟨g, 0, none⟩) 6 6) ∧ ShpW w' g) ∧ Below w.heap.size w w' := by
  go_enter Tryd.func17, Tryd.ntmps17
  go_wp2_with fail
  refine (cBet 97 122 _).mono ?_
  rintro e w1 ⟨hx1, b1⟩
  obtain ⟨f1, L1, rfl, k1⟩ := giveF hx1
  have B1 := b1
  have K1 := Lib.hid k1
  clear k1 b1
  have C1 := B1
  clear B1
  go_wp2_with fail
  refine (cBet 65 90 _).mono ?_
  rintro e w2 ⟨hx2, b2⟩
  obtain ⟨f2, L2, rfl, k2⟩ := giveF hx2
  have B2 := b2
  replace K1 := Lib.hid (K1.out.below B2)
  have K2 := Lib.hid k2
  clear k2 b2
  have C2 := belowThen C1 B2
  clear C1 B2
  go_wp2_with fail
  have cl3 := clsL2 (T := 45) K1.out K2.out
  refine (cEit _ _ _ (by omega) _ cl3).mono ?_
  rintro e w3 ⟨hx3, b3⟩
  obtain ⟨f3, L3, rfl, k3⟩ := giveF hx3
  have B3 := belowThen (belowAlloc _ _) b3
  clear cl3
  clear K1
  clear K2
  have K3 := Lib.hid k3
  clear k3 b3
  have C3 := belowThen C2 B3
  clear C2 B3
  go_wp2_with fail
  refine (cBet 48 57 _).mono ?_
  rintro e w4 ⟨hx4, b4⟩
  obtain ⟨f4, L4, rfl, k4⟩ := giveF hx4
  have B4 := b4
  replace K3 := Lib.hid (K3.out.below B4)
  have K4 := Lib.hid k4
  clear k4 b4
  have C4 := belowThen C3 B4
  clear C3 B4
  go_wp2_with fail
  refine (cOne ⟨#[95]⟩ _).mono ?_
  rintro e w5 ⟨hx5, b5⟩
  obtain ⟨f5, L5, rfl, k5⟩ := giveF hx5
  have B5 := b5
  replace K3 := Lib.hid (K3.out.below B5)
  replace K4 := Lib.hid (K4.out.below B5)
  have K5 := Lib.hid k5
  clear k5 b5
  have C5 := belowThen C4 B5
  clear C4 B5
  go_wp2_with fail
  have cl6 := clsL3 (T := 45) K3.out K4.out K5.out
  refine (cEit _ _ _ (by omega) _ cl6).mono ?_
  rintro e w6 ⟨hx6, b6⟩
  obtain ⟨f6, L6, rfl, k6⟩ := giveF hx6
  have B6 := belowThen (belowAlloc _ _) b6
  clear cl6
  replace K3 := Lib.hid (K3.out.below B6)
  replace K4 := Lib.hid (K4.out.below B6)
  clear K5
  have K6 := Lib.hid k6
  clear k6 b6
  have C6 := belowThen C5 B6
  clear C5 B6
  go_wp2_with fail
  refine (cOne ⟨#[10]⟩ _).mono ?_
  rintro e w7 ⟨hx7, b7⟩
  obtain ⟨f7, L7, rfl, k7⟩ := giveF hx7
  have B7 := b7
  replace K3 := Lib.hid (K3.out.below B7)
  replace K4 := Lib.hid (K4.out.below B7)
  replace K6 := Lib.hid (K6.out.below B7)
  have K7 := Lib.hid k7
  clear k7 b7
  have C7 := belowThen C6 B7
  clear C6 B7
  go_wp2_with fail
  refine (cOne ⟨#[]⟩ _).mono ?_
  rintro e w8 ⟨hx8, b8⟩
  obtain ⟨f8, L8, rfl, k8⟩ := giveF hx8
  have B8 := b8
  replace K3 := Lib.hid (K3.out.below B8)
  replace K4 := Lib.hid (K4.out.below B8)
  replace K6 := Lib.hid (K6.out.below B8)
  replace K7 := Lib.hid (K7.out.below B8)
  have K8 := Lib.hid k8
  clear k8 b8
  have C8 := belowThen C7 B8
  clear C7 B8
  go_wp2_with fail
  refine (cOne ⟨#[32, 9]⟩ _).mono ?_
  rintro e w9 ⟨hx9, b9⟩
  obtain ⟨f9, L9, rfl, k9⟩ := giveF hx9
  have B9 := b9
  replace K3 := Lib.hid (K3.out.below B9)
  replace K4 := Lib.hid (K4.out.below B9)
  replace K6 := Lib.hid (K6.out.below B9)
  replace K7 := Lib.hid (K7.out.below B9)
  replace K8 := Lib.hid (K8.out.below B9)
  have K9 := Lib.hid k9
  clear k9 b9
  have C9 := belowThen C8 B9
  clear C8 B9
  go_wp2_with fail
  refine (cOne ⟨#[35]⟩ _).mono ?_
  rintro e w10 ⟨hx10, b10⟩
  obtain ⟨f10, L10, rfl, k10⟩ := giveF hx10
  have B10 := b10
  replace K3 := Lib.hid (K3.out.below B10)
  replace K4 := Lib.hid (K4.out.below B10)
  replace K6 := Lib.hid (K6.out.below B10)
  replace K7 := Lib.hid (K7.out.below B10)
  replace K8 := Lib.hid (K8.out.below B10)
  replace K9 := Lib.hid (K9.out.below B10)
  have K10 := Lib.hid k10
  clear k10 b10
  have C10 := belowThen C9 B10
  clear C9 B10
  go_wp2_with fail
  refine (cNot _ _ _ K7.out).mono ?_
  rintro e w11 ⟨hx11, b11⟩
  obtain ⟨f11, L11, rfl, k11⟩ := giveF hx11
  have B11 := b11
  replace K3 := Lib.hid (K3.out.below B11)
  replace K4 := Lib.hid (K4.out.below B11)
  replace K6 := Lib.hid (K6.out.below B11)
  replace K7 := Lib.hid (K7.out.below B11)
  replace K8 := Lib.hid (K8.out.below B11)
  replace K9 := Lib.hid (K9.out.below B11)
  replace K10 := Lib.hid (K10.out.below B11)
  have K11 := Lib.hid k11
  clear k11 b11
  have C11 := belowThen C10 B11
  clear C10 B11
  go_wp2_with fail
  refine (cOne ⟨#[45]⟩ _).mono ?_
  rintro e w12 ⟨hx12, b12⟩
  obtain ⟨f12, L12, rfl, k12⟩ := giveF hx12
  have B12 := b12
  replace K3 := Lib.hid (K3.out.below B12)
  replace K4 := Lib.hid (K4.out.below B12)
  replace K6 := Lib.hid (K6.out.below B12)
  replace K7 := Lib.hid (K7.out.below B12)
  replace K8 := Lib.hid (K8.out.below B12)
  replace K9 := Lib.hid (K9.out.below B12)
  replace K10 := Lib.hid (K10.out.below B12)
  replace K11 := Lib.hid (K11.out.below B12)
  have K12 := Lib.hid k12
  clear k12 b12
  have C12 := belowThen C11 B12
  clear C11 B12
  go_wp2_with fail
  have cl13 := clsL2 (T := 45) K4.out K12.out
  refine (cEit _ _ _ (by omega) _ cl13).mono ?_
  rintro e w13 ⟨hx13, b13⟩
  obtain ⟨f13, L13, rfl, k13⟩ := giveF hx13
  have B13 := belowThen (belowAlloc _ _) b13
  clear cl13
  replace K3 := Lib.hid (K3.out.below B13)
  clear K4
  replace K6 := Lib.hid (K6.out.below B13)
  replace K7 := Lib.hid (K7.out.below B13)
  replace K8 := Lib.hid (K8.out.below B13)
  replace K9 := Lib.hid (K9.out.below B13)
  replace K10 := Lib.hid (K10.out.below B13)
  replace K11 := Lib.hid (K11.out.below B13)
  clear K12
  have K13 := Lib.hid k13
  clear k13 b13
  have C13 := belowThen C12 B13
  clear C12 B13
  go_wp2_with fail
  refine (cOne ⟨#[40, 41, 123, 125, 44, 59, 61, 58]⟩ _).mono ?_
  rintro e w14 ⟨hx14, b14⟩
  obtain ⟨f14, L14, rfl, k14⟩ := giveF hx14
  have B14 := b14
  replace K3 := Lib.hid (K3.out.below B14)
  replace K6 := Lib.hid (K6.out.below B14)
  replace K7 := Lib.hid (K7.out.below B14)
  replace K8 := Lib.hid (K8.out.below B14)
  replace K9 := Lib.hid (K9.out.below B14)
  replace K10 := Lib.hid (K10.out.below B14)
  replace K11 := Lib.hid (K11.out.below B14)
  replace K13 := Lib.hid (K13.out.below B14)
  have K14 := Lib.hid k14
  clear k14 b14
  have C14 := belowThen C13 B14
  clear C13 B14
  go_wp2
  go_ret
  refine ⟨⟨_, rfl, ?_⟩, belowThen C14 (belowAlloc _ _)⟩
  exact shpOf _ K9.out K8.out K10.out K11.out K3.out K6.out K13.out K14.out K7.out
end Go.Proofs.YtnlhkeobfidjkaaDoor
