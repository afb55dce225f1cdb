/-
  The law's exampleHolds returns true; both Scans as the laws need them, long texts too.
-/
import Derived.Test.YtnlhkeobfidjkaaDoorLxU
import Derived.Test.YtnlhkeobfidjkaaDoorLxV
namespace Go.Proofs.YtnlhkeobfidjkaaDoor
open Go Go.RowKit

/-- The call returns a slice that reads as the tokens and the zero fault, or nil and a fault. -/
def GivesTR (r : Except (Int × Nat) (List Tok)) (w : World) (e : Ending) (w' : World) : Prop := Below w.heap.size w w' ∧ match r with
  | .ok l => ∃ A n c, e = .returned (.tuple #[.slice A n c, .agg #[.int .i64 0, .int .i64 0]]) ∧ Hid (l.length = n) ∧ Rk w' A c l
  | .error x => e = .returned (.tuple #[.slice none 0 0, .agg #[.int .i64 x.1, .int .i64 (x.2 : Int)]])
theorem GivesTk.tr {r : Except (Int × Nat) (List Tok)} {w w' : World} {e : Ending} (h : GivesTk r w e w') : GivesTR r w e w' := by
  obtain ⟨hb, h⟩ := h
  refine ⟨hb, ?_⟩
  cases r with
  | ok l =>
    obtain ⟨v, rfl, ho⟩ := h
    obtain ⟨A, c, rfl, hr, _⟩ := ho.rd
    exact ⟨A, _, c, rfl, Lib.hid rfl, hr⟩
  | error x => exact h
theorem iScanIs (s : ByteArray) (hs : s.size ≤ 16384) (r : Except (Int × Nat) (List Tok)) (h : lexT s.data.toList 0 = r) (w : World) (hE : Ev w) : Calls Tryd.prog 9 #[.string s] w (GivesTR r w) := by
  subst h; exact (iScan s hs w hE).mono fun _ _ h => h.tr
theorem rScanIs (s : ByteArray) (hs : s.size ≤ 16384) (r : Except (Int × Nat) (List Tok)) (h : lexT s.data.toList 0 = r) (w : World) : Calls Tryd.prog 10 #[.string s] w (GivesTR r w) := by
  subst h; exact (rScan s hs w).mono fun _ _ h => h.tr
set_option maxHeartbeats 1000000 in
theorem iScanLong (s : ByteArray) (hs : 16384 < s.size) (w : World) : Calls Tryd.prog 9 #[.string s] w (GivesTR (.error (4, 0)) w) := by
  go_enter Tryd.func9, Tryd.ntmps9
  go_wp2
  go_step3
  go_wp2
  try rw [Exit.noGoto_ret]
  refine bodyPost_ret (resTC (Blk.new w _ _) rfl _ rfl Tryd.underlying26 rfl infoFault) rfl ?_
  exact ⟨belowAlloc _ _, rfl⟩
set_option maxHeartbeats 1000000 in
theorem rScanLong (s : ByteArray) (hs : 16384 < s.size) (w : World) : Calls Tryd.prog 10 #[.string s] w (GivesTR (.error (4, 0)) w) := by
  go_enter Tryd.func10, Tryd.ntmps10
  go_wp2
  refine bodyPost_ret (resTC (Blk.new w _ _) rfl _ rfl Tryd.underlying26 rfl infoFault) rfl ?_
  exact ⟨belowAlloc _ _, rfl⟩
def exToks : List Tok := [⟨1, [120, 49], 0, 0⟩, ⟨3, [61], 0, 3⟩, ⟨2, [45, 51], -3, 4⟩, ⟨3, [59], 0, 6⟩]
theorem exT1 : lexT (⟨#[120, 49, 32, 61, 45, 51, 59, 35, 32, 99]⟩ : ByteArray).data.toList 0 = .ok exToks := by kernel_rfl
theorem exT2 : lexT (⟨#[97, 32, 48, 49]⟩ : ByteArray).data.toList 0 = .error (16, 2) := by kernel_rfl
theorem exT3 : lexT (⟨#[95]⟩ : ByteArray).data.toList 0 = .error (14, 0) := by kernel_rfl
theorem exWant (w : World) (T : TypeId) : Rk (w.alloc (.cells #[.int .i64 1, .string ⟨#[120, 49]⟩, .int .i64 0, .int .i64 0, .int .i64 3, .string ⟨#[61]⟩, .int .i64 0, .int .i64 3, .int .i64 2, .string ⟨#[45, 51]⟩, .int .i64 (-3), .int .i64 4, .int .i64 3, .string ⟨#[59]⟩, .int .i64 0, .int .i64 6] T)) (some ⟨w.heap.size, 0, none⟩) 4 exToks := by
  have h := Blk.new w T #[.int .i64 1, .string ⟨#[120, 49]⟩, .int .i64 0, .int .i64 0, .int .i64 3, .string ⟨#[61]⟩, .int .i64 0, .int .i64 3, .int .i64 2, .string ⟨#[45, 51]⟩, .int .i64 (-3), .int .i64 4, .int .i64 3, .string ⟨#[59]⟩, .int .i64 0, .int .i64 6]
  refine ⟨by decide, by decide, fun _ => ⟨_, 0, rfl, h.lt, fun j hj => ?_⟩⟩
  have hj : j < 4 := hj
  rcases (by omega : j = 0 ∨ j = 1 ∨ j = 2 ∨ j = 3) with rfl | rfl | rfl | rfl
  · exact ⟨h.cell 0, h.cell 1, h.cell 2, h.cell 3⟩
  · exact ⟨h.cell 4, h.cell 5, h.cell 6, h.cell 7⟩
  · exact ⟨h.cell 8, h.cell 9, h.cell 10, h.cell 11⟩
  · exact ⟨h.cell 12, h.cell 13, h.cell 14, h.cell 15⟩
theorem boxC {w : World} {b : Nat} {T : TypeId} {u v : Value} (h : Blk w b T #[u, v]) : w.cell? ⟨b, 0, none⟩ = some u ∧ w.cell? ⟨b, 1, none⟩ = some v := ⟨h.cell 0, h.cell 1⟩
set_option maxRecDepth 100000 in
set_option maxHeartbeats 4000000 in
theorem exOk9 (w : World) (hw : Ev w) : Calls Tryd.prog 8 #[] w fun e w' => e = .returned (.bool true) ∧ Below w.heap.size w w' := by
  go_enter Tryd.func8, Tryd.ntmps8
  go_wp2_with fail
  refine (iScanIs _ (by decide) _ exT1 _ hw).mono ?_
  rintro e w1 ⟨b1, A, n, c, rfl, hn, r1⟩
  have HW1 := Lib.hid (exWant (w1.alloc (.cells #[.int .i64 0, .int .i64 0] 26)) 40)
  have k1 := Blk.new w1 26 #[.int .i64 0, .int .i64 0]
  rw [World.size_alloc] at HW1
  go_wp2_with fail
  refine (iScanIs _ (by decide) _ exT2 _ (hw.stays (belowThen b1 (belowThen (belowAlloc _ _) (belowAlloc _ _))))).mono ?_
  rintro e w2 ⟨b2, rfl⟩
  have B2 := belowThen b1 (belowThen (belowThen (belowAlloc _ _) (belowAlloc _ _)) b2)
  have R1 := r1.below (belowThen (belowThen (belowAlloc _ _) (belowAlloc _ _)) b2)
  have W2 := HW1.out.below b2
  have K1 := (k1.alloc _).below' b2
  have k2 := Blk.new w2 26 #[.int .i64 16, .int .i64 2]
  clear r1 b1 b2 HW1 k1
  go_wp2_with fail
  refine (iScanIs _ (by decide) _ exT3 _ (hw.stays (belowThen B2 (belowAlloc _ _)))).mono ?_
  rintro e w3 ⟨b3, rfl⟩
  have K2 := (k2.below' b3).alloc (.cells #[.int .i64 14, .int .i64 0] 26)
  have K1 := ((K1.alloc _).below' b3).alloc (.cells #[.int .i64 14, .int .i64 0] 26)
  have R1 := (R1.below (belowThen (belowAlloc _ _) b3)).alloc (.cells #[.int .i64 14, .int .i64 0] 26)
  have W3 := (W2.below (belowThen (belowAlloc _ _) b3)).alloc (.cells #[.int .i64 14, .int .i64 0] 26)
  have B3 := belowThen B2 (belowThen (belowThen (belowAlloc _ _) b3) (belowAlloc _ (.cells #[.int .i64 14, .int .i64 0] 26)))
  have k3 := Blk.new w3 26 #[.int .i64 14, .int .i64 0]
  obtain ⟨p0, p1⟩ := boxC K1
  have HS := Lib.hid (rSame exToks exToks n 4 hn.out rfl A _ c 4 _ R1 W3)
  rw [decide_eq_true rfl] at HS
  have HK1 := Lib.hid K1
  have HK2 := Lib.hid K2
  have HK3 := Lib.hid k3
  have HB3 := Lib.hid B3
  clear k2 K2 K1 R1 W3 W2 B2 b3 k3 B3 hn
  go_wp2_with fail
  refine HS.out.mono ?_
  rintro e w4 ⟨rfl, b4⟩
  obtain ⟨p0, p1⟩ := boxC (HK1.out.below' b4)
  obtain ⟨q0, q1⟩ := boxC (HK2.out.below' b4)
  obtain ⟨s0, s1⟩ := boxC (HK3.out.below' b4)
  go_wp2
  go_ret
  exact ⟨rfl, belowThen HB3.out b4⟩
end Go.Proofs.YtnlhkeobfidjkaaDoor
