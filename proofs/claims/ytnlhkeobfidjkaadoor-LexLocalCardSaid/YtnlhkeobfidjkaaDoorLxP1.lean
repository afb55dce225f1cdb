/-
  The law LexLocal where one of the texts has a fault.
-/
import Derived.Test.YtnlhkeobfidjkaaDoorLxQ
namespace Go.Proofs.YtnlhkeobfidjkaaDoor
open Go Go.RowKit

set_option maxRecDepth 100000 in
set_option maxHeartbeats 600000 in
theorem lawLocalA (s t : ByteArray) (h1 : ¬ 200 < s.size) (h2 : ¬ 200 < t.size) (hsz : (s ++ (⟨#[10]⟩ : ByteArray) ++ t).size ≤ 16384) (x : Int × Nat) (hA : lexT s.data.toList 0 = .error x) (w : World) (hw : Ev w) : Calls Tryd.prog 7 #[.string s, .string t] w (LawOk9 w) := by
  have HEV := Lib.hid (fun X (hX : Below w.heap.size w X) => hw.stays hX)
  have HEX := Lib.hid (fun X (hX : Below w.heap.size w X) => exOk9 X (hw.stays hX))
  clear hw
  have h3 := local3 s t
  rw [hA] at h3
  have hx := lexNz hA
  have H1 := Lib.hid (fun X (hX : Below w.heap.size w X) => iScanIs s (by omega) _ hA X (HEV.out X hX))
  have H2 := Lib.hid (fun X (hX : Below w.heap.size w X) => (iScanIs t (by omega) _ rfl X (HEV.out X hX)).mono fun _ _ h => h.flat)
  have H3 := Lib.hid (fun X (hX : Below w.heap.size w X) => iScanIs _ hsz _ h3 X (HEV.out X hX))
  obtain ⟨⟨l, E, P⟩, hfl⟩ : ∃ z, flatR (lexT t.data.toList 0) = z := ⟨_, rfl⟩
  rw [hfl] at H2
  clear hA h3 hfl hsz
  obtain ⟨x1, x2⟩ := x
  go_enter Tryd.func7, Tryd.ntmps7
  go_wp2_with fail
  refine (H1.out _ (Below.refl _ _)).mono ?_
  rintro e w1 ⟨b1, rfl⟩
  have k1 := Blk.new w1 26 #[.int .i64 x1, .int .i64 (x2 : Int)]
  have B1 := belowThen b1 (belowAlloc _ (.cells #[.int .i64 x1, .int .i64 (x2 : Int)] 26))
  clear b1
  go_wp2_with fail
  refine (H2.out _ B1).mono ?_
  rintro e w2 ⟨B, m, d, rfl, _, _, b2⟩
  have K1 := (k1.below' b2).alloc (.cells #[.int .i64 E, .int .i64 P] 26)
  have B2 := belowThen B1 (belowThen b2 (belowAlloc _ (.cells #[.int .i64 E, .int .i64 P] 26)))
  clear b2 B1 k1
  go_wp2_with fail
  refine (H3.out _ B2).mono ?_
  rintro e w3 ⟨b3, rfl⟩
  obtain ⟨p0, p1⟩ := boxC ((K1.below' b3).alloc (.cells #[.int .i64 x1, .int .i64 (x2 : Int)] 26))
  have B3 := Lib.hid (belowThen B2 (belowThen b3 (belowAlloc _ (.cells #[.int .i64 x1, .int .i64 (x2 : Int)] 26))))
  clear B2 b3 K1
  go_wp2_with fail
  refine (HEX.out _ B3.out).mono ?_
  rintro e w4 ⟨rfl, b4⟩
  go_wp2
  go_ret
  exact ⟨rfl, belowThen B3.out b4⟩
set_option maxRecDepth 100000 in
set_option maxHeartbeats 600000 in
theorem lawLocalB (s t : ByteArray) (h1 : ¬ 200 < s.size) (h2 : ¬ 200 < t.size) (hsz : (s ++ (⟨#[10]⟩ : ByteArray) ++ t).size ≤ 16384) (a : List Tok) (hA : lexT s.data.toList 0 = .ok a) (y : Int × Nat) (hB : lexT t.data.toList 0 = .error y) (w : World) (hw : Ev w) : Calls Tryd.prog 7 #[.string s, .string t] w (LawOk9 w) := by
  have HEV := Lib.hid (fun X (hX : Below w.heap.size w X) => hw.stays hX)
  have HEX := Lib.hid (fun X (hX : Below w.heap.size w X) => exOk9 X (hw.stays hX))
  clear hw
  have h3 := local3 s t
  rw [hA, hB] at h3
  have hy := lexNz hB
  have h3 : lexT (s ++ (⟨#[10]⟩ : ByteArray) ++ t).data.toList 0 = .error (y.1, y.2 + (s.size + 1)) := h3
  have H1 := Lib.hid (fun X (hX : Below w.heap.size w X) => iScanIs s (by omega) _ hA X (HEV.out X hX))
  have H2 := Lib.hid (fun X (hX : Below w.heap.size w X) => iScanIs t (by omega) _ hB X (HEV.out X hX))
  have H3 := Lib.hid (fun X (hX : Below w.heap.size w X) => iScanIs _ hsz _ h3 X (HEV.out X hX))
  clear hA hB h3 hsz
  obtain ⟨y1, y2⟩ := y
  obtain ⟨y3, hy3⟩ : ∃ y3, y2 + (s.size + 1) = y3 := ⟨_, rfl⟩
  simp only [hy3] at H3
  clear hy3
  go_enter Tryd.func7, Tryd.ntmps7
  go_wp2_with fail
  refine (H1.out _ (Below.refl _ _)).mono ?_
  rintro e w1 ⟨b1, A, n, c, rfl, _, _⟩
  have k1 := Blk.new w1 26 #[.int .i64 0, .int .i64 0]
  have B1 := belowThen b1 (belowAlloc _ (.cells #[.int .i64 0, .int .i64 0] 26))
  clear b1
  go_wp2_with fail
  refine (H2.out _ B1).mono ?_
  rintro e w2 ⟨b2, rfl⟩
  have K1 := (k1.below' b2).alloc (.cells #[.int .i64 y1, .int .i64 (y2 : Int)] 26)
  have k2 := Blk.new w2 26 #[.int .i64 y1, .int .i64 (y2 : Int)]
  have B2 := belowThen B1 (belowThen b2 (belowAlloc _ (.cells #[.int .i64 y1, .int .i64 (y2 : Int)] 26)))
  clear b2 B1 k1
  go_wp2_with fail
  refine (H3.out _ B2).mono ?_
  rintro e w3 ⟨b3, rfl⟩
  obtain ⟨p0, p1⟩ := boxC ((K1.below' b3).alloc (.cells #[.int .i64 y1, .int .i64 (y3 : Int)] 26))
  obtain ⟨q0, q1⟩ := boxC ((k2.below' b3).alloc (.cells #[.int .i64 y1, .int .i64 (y3 : Int)] 26))
  have B3 := Lib.hid (belowThen B2 (belowThen b3 (belowAlloc _ (.cells #[.int .i64 y1, .int .i64 (y3 : Int)] 26))))
  clear B2 b3 K1 k2
  go_wp2_with fail
  refine (HEX.out _ B3.out).mono ?_
  rintro e w4 ⟨rfl, b4⟩
  go_wp2
  go_ret
  exact ⟨rfl, belowThen B3.out b4⟩
end Go.Proofs.YtnlhkeobfidjkaaDoor
