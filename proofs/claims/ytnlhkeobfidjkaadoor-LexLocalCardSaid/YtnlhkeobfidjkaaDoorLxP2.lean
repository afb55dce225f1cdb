/-
  The law LexLocal of two texts without a fault.
-/
import Derived.Test.YtnlhkeobfidjkaaDoorLxQ
import Derived.Deep.CutRange
import Derived.BigQuiet
import Derived.Deep.DeepCutAuto
namespace Go.Proofs.YtnlhkeobfidjkaaDoor
open Go Go.RowKit

set_option maxRecDepth 100000 in
set_option maxHeartbeats 2000000 in
theorem lawLocalC (s t : ByteArray) (h1 : ¬ 200 < s.size) (h2 : ¬ 200 < t.size) (hsz : (s ++ (⟨#[10]⟩ : ByteArray) ++ t).size ≤ 16384) (a b : List Tok) (hA : lexT s.data.toList 0 = .ok a) (hB : lexT t.data.toList 0 = .ok b) (w : World) (hw : Ev w) : Calls Tryd.prog 7 #[.string s, .string t] w (LawOk9 w) := by
  have HEV := Lib.hid (fun X (hX : Below w.heap.size w X) => hw.stays hX)
  have HEX := Lib.hid (fun X (hX : Below w.heap.size w X) => exOk9 X (hw.stays hX))
  clear hw
  have h3 := local3 s t
  rw [hA, hB] at h3
  have hF := Lib.hid (lxFound parE parV _ t.data.toList 0 b (Nat.le_refl _) hB)
  obtain ⟨cc, hcc⟩ : ∃ cc, a ++ [⟨4, [10], 0, (s.size : Int)⟩] ++ b.map (shT (s.size + 1)) = cc := ⟨_, rfl⟩
  replace h3 : lexT (s ++ (⟨#[10]⟩ : ByteArray) ++ t).data.toList 0 = .ok cc := by rw [h3, ← hcc]; rfl
  have H1 := Lib.hid (fun X (hX : Below w.heap.size w X) => iScanIs s (by omega) _ hA X (HEV.out X hX))
  have H2 := Lib.hid (fun X (hX : Below w.heap.size w X) => iScanIs t (by omega) _ hB X (HEV.out X hX))
  have H3 := Lib.hid (fun X (hX : Below w.heap.size w X) => iScanIs _ hsz _ h3 X (HEV.out X hX))
  have HCC := Lib.hid hcc
  clear hA hB h3 hsz hcc
  go_enter Tryd.func7, Tryd.ntmps7
  go_wp2_with fail
  refine (H1.out _ (Below.refl _ _)).mono ?_
  rintro e w1 ⟨b1, A, n, c, rfl, HN, r1⟩
  have k1 := Blk.new w1 26 #[.int .i64 0, .int .i64 0]
  have B1 := belowThen b1 (belowAlloc _ (.cells #[.int .i64 0, .int .i64 0] 26))
  have R1 := r1.alloc (.cells #[.int .i64 0, .int .i64 0] 26)
  clear b1 r1
  go_wp2_with fail
  refine (H2.out _ B1).mono ?_
  rintro e w2 ⟨b2, B, m, d, rfl, HM, r2⟩
  have K1 := (k1.below' b2).alloc (.cells #[.int .i64 0, .int .i64 0] 26)
  have k2 := Blk.new w2 26 #[.int .i64 0, .int .i64 0]
  have R1 := (R1.below b2).alloc (.cells #[.int .i64 0, .int .i64 0] 26)
  have R2 := r2.alloc (.cells #[.int .i64 0, .int .i64 0] 26)
  have B2 := belowThen B1 (belowThen b2 (belowAlloc _ (.cells #[.int .i64 0, .int .i64 0] 26)))
  clear b2 B1 k1 r2
  go_wp2_with fail
  refine (H3.out _ B2).mono ?_
  rintro e w3 ⟨b3, D, k, f, rfl, HK, r3⟩
  have K1 := (K1.below' b3).alloc (.cells #[.int .i64 0, .int .i64 0] 26)
  have K2 := (k2.below' b3).alloc (.cells #[.int .i64 0, .int .i64 0] 26)
  have K3 := Blk.new w3 26 #[.int .i64 0, .int .i64 0]
  have R1 := (R1.below b3).alloc (.cells #[.int .i64 0, .int .i64 0] 26)
  have R2 := (R2.below b3).alloc (.cells #[.int .i64 0, .int .i64 0] 26)
  have R3 := r3.alloc (.cells #[.int .i64 0, .int .i64 0] 26)
  have B3 := belowThen B2 (belowThen b3 (belowAlloc _ (.cells #[.int .i64 0, .int .i64 0] 26)))
  have hlen : k = n + 1 + m := by
    rw [← HK.out, ← HN.out, ← HM.out, ← HCC.out]; simp; omega
  have HLEN := Lib.hid hlen
  have hle1 := R1.le
  have hmx1 := leMax R1.max
  have hle2 := R2.le
  have hmx2 := leMax R2.max
  have hle3 := R3.le
  have hmx3 := leMax R3.max
  rw [HN.out] at hle1
  rw [HM.out] at hle2
  rw [HK.out] at hle3
  obtain ⟨p0, p1⟩ := boxC K1
  obtain ⟨q0, q1⟩ := boxC K2
  obtain ⟨s0, s1⟩ := boxC K3
  have hnl : n < cc.length := by rw [HK.out]; omega
  obtain ⟨bb, o, hD, _, c0, c1, c2, c3⟩ := R3.one hnl
  have hcn : cc[n] = ⟨4, [10], 0, (s.size : Int)⟩ := by
    have e : cc[n]? = some ⟨4, [10], 0, (s.size : Int)⟩ := by
      rw [← HCC.out, ← HN.out]; simp
    rw [List.getElem?_eq_getElem hnl] at e
    exact Option.some.inj e
  rw [hcn] at c0 c1 c2 c3
  simp only at c0 c1 c2 c3
  obtain ⟨TB, hTB⟩ : ∃ TB, bs [10] = TB := ⟨_, rfl⟩
  rw [hTB] at c1
  have e10 : (TB.toList == (⟨#[10]⟩ : ByteArray).toList) = true := by rw [← hTB, ByteArray.toList_eq, ByteArray.toList_eq]; decide
  clear hTB
  subst hD
  have hcut := cutK (some ⟨bb, o, none⟩) k f n (by omega)
  have hnm : n + 1 + m ≤ 9223372036854775807 := hlen ▸ Nat.le_trans hle3 hmx3
  have hsum : ((k : Int) != (n : Int) + 1 + m) = false := by simp; omega
  have HS := Lib.hid (rSame a (cc.take n) n n HN.out (minLen HK.out (by omega)) A _ c f (w3.alloc (.cells #[.int .i64 0, .int .i64 0] 26)) R1 (R3.take n))
  have htk := takePre HCC.out HN.out
  rw [htk] at HS
  have HB3 := Lib.hid B3
  have HR2 := Lib.hid (fun Y (hY : Below (w3.alloc (.cells #[.int .i64 0, .int .i64 0] 26)).heap.size (w3.alloc (.cells #[.int .i64 0, .int .i64 0] 26)) Y) => R2.below hY)
  have HR3 := Lib.hid (fun Y (hY : Below (w3.alloc (.cells #[.int .i64 0, .int .i64 0] 26)).heap.size (w3.alloc (.cells #[.int .i64 0, .int .i64 0] 26)) Y) => R3.below hY)
  have hn0 : (0 : Int) ≤ n := by omega
  have hn1 : (n : Int) < k := by omega
  clear htk hcn R1 R2 R3 r3 b3 B2 B3 K1 K2 K3 k2 hlen
  have HEQ : Hid ((Op.equalIn 10000 40 (.agg #[.int .i64 4, .string TB, .int .i64 0, .int .i64 (s.size : Int)]) (.agg #[.int .i64 4, .string ⟨#[10]⟩, .int .i64 0, .int .i64 (s.size : Int)])).run Tryd.prog (w3.alloc (.cells #[.int .i64 0, .int .i64 0] 26)) = .ok true (w3.alloc (.cells #[.int .i64 0, .int .i64 0] 26))) := Lib.hid (by
    rw [eqTokIs, show (TB.toList == (⟨#[10]⟩ : ByteArray).toList) = true from e10]
    simp)
  go_upto_region 8 with (fail)
  go_wp2_with (refine neqK _ (by rfl) (.tmp 73) (.tmp 76) 40 rfl _ _ rfl rfl true (by kernel_rfl) HEQ.out ?_)
  refine HS.out.mono ?_
  rintro e w4 ⟨rfl, b4⟩
  have HB4 := Lib.hid (belowThen HB3.out b4)
  have HX4 := Lib.hid b4
  clear p0 p1 q0 q1 s0 s1 c0 c1 c2 c3 e10 hcut hsum b4 HS
  go_wp2
  go_loopw [90] (fun vi wr => ∃ i : Nat, i ≤ m ∧ vi = .int .i64 i ∧ Below w4.heap.size w4 wr) (fun i _ => m - (intOf i).toNat)
  case atStart => exact ⟨0, Nat.zero_le _, rfl, Below.refl _ _⟩
  case round =>
    obtain ⟨i, hi, rfl, hb⟩ := hrel
    by_cases hlt : i < m
    · have hil : i < b.length := by rw [HM.out]; exact hlt
      obtain ⟨b2, o2, e2, _, x0, x1, x2, x3⟩ := (HR2.out wr (belowThen HX4.out hb)).one hil
      have hic : n + 1 + i < cc.length := by rw [HK.out, HLEN.out]; omega
      obtain ⟨b3', o3, e3, _, y0, y1, y2, y3⟩ := (HR3.out wr (belowThen HX4.out hb)).one hic
      obtain ⟨q, hq1, hq2, hq3⟩ := hF.out b[i] (List.getElem_mem hil)
      rw [Nat.zero_add] at hq1
      have hce : cc[n + 1 + i] = shT (s.size + 1) b[i] := ccAt HCC.out HN.out hil hic
      rw [hce] at y0 y1 y2 y3
      simp only [shT] at y0 y1 y2 y3
      rw [hq1] at x3 y3
      have hsz : b[i].text.length = (bs b[i].text).size := (bsSize _).symm
      have hext : t.extract q (q + (bs b[i].text).size) = bs b[i].text := by
        apply byteArrayEq'
        rw [Lib.extract_data, bsTo, ← hsz, Nat.add_sub_cancel_left]
        exact hq3
      have hqt : q + (bs b[i].text).size ≤ t.size := by rw [← hsz]; exact hq2
      generalize b[i].kind = K at *
      generalize hTB2 : bs b[i].text = T2 at *
      generalize b[i].n = N at *
      subst e2
      injection e3 with e3
      injection e3 with e3 e4
      subst e3; subst e4
      have hi0 : (0 : Int) ≤ i := by omega
      have hi1 : (i : Int) < m := by omega
      clear hq1 hq2 hq3 hce hsz hTB2
      have y3 : wr.cell? ⟨bb, o + (n + 1 + i) * 4 + 3, none⟩ = some (.int .i64 ((q : Int) + s.size + 1)) := by rw [y3]; congr 2
      have d1 : decide ((q : Int) < 0) = false := by simp
      have d2 : decide ((t.size : Int) < (q : Int) + T2.size) = false := by simp; omega
      have d3 : ((t.extract q (q + T2.size)).toList == T2.toList) = true := by rw [hext]; exact beq_self_eq_true _
      have q0 : (0 : Int) ≤ q := by omega
      have q1 : (q : Int) ≤ (q : Int) + T2.size := by omega
      have q2 : (q : Int) + T2.size ≤ t.size := by omega
      have htn : ((n : Int) + 1 + (i : Int)).toNat = n + 1 + i := by omega
      have n0 : (0 : Int) ≤ (n : Int) + 1 + i := by omega
      have n1 : (n : Int) + 1 + (i : Int) < k := by have := HLEN.out; omega
      have HDN := Lib.hid (fun X (hX : Below w4.heap.size w4 X) nq => belowDrewN hX nq)
      clear hext R2
      go_wp2_with fail
      go_quiet (fail)
      go_wp2_with fail
      have HL := locZ wr 40 K N q ((q : Int) + s.size + 1) T2 nq
      generalize hZ : ((wr.alloc (.cells #[.int .i64 K, .string T2, .int .i64 N, .int .i64 (q : Int)] 40)).drewN nq).setCell ⟨wr.heap.size, 3, none⟩ (.int .i64 ((q : Int) + s.size + 1)) = Z at HL ⊢
      have HZB := Lib.hid (belowThen hb HL.below)
      obtain ⟨z0, z1, z2, z3, zo, _⟩ := HL
      have hbb := World.block_lt_of_cell? _ _ y0
      have y0 := (zo bb (o + (n + 1 + i) * 4) hbb).trans y0
      have y1 := (zo bb (o + (n + 1 + i) * 4 + 1) hbb).trans y1
      have y2 := (zo bb (o + (n + 1 + i) * 4 + 2) hbb).trans y2
      have y3 := (zo bb (o + (n + 1 + i) * 4 + 3) hbb).trans y3
      clear zo hZ
      go_quiet (fail)
      go_wp2
      go_roundw
      case rel => exact ⟨i + 1, by omega, by go_num, HDN.out _ HZB.out _⟩
      case measure => simp [intOf]; omega
    · go_wp2_with fail
      refine (HEX.out _ (belowThen HB4.out hb)).mono ?_
      rintro e w5 ⟨rfl, b5⟩
      go_wp2
      go_ret
      exact ⟨rfl, belowThen HB4.out (belowThen hb b5)⟩
end Go.Proofs.YtnlhkeobfidjkaaDoor
