/-
  The law LivenessPaths returns true for every function, where the tables are laid.
-/
import Derived.Test.YtjdimlofdblgdaaDoorPLfY
import Derived.Test.YtjdimlofdblgdaaDoorPLf4
import Derived.Test.YtjdimlofdblgdaaDoorPLfPT
namespace Go.Proofs.YtjdimlofdblgdaaDoor
open Go Go.RowKit Go.Shelf
attribute [local go_sem] Oper.semAt_some

theorem fdOne (C : List I8) (ex : Bool) (r : Int) (k : Nat) : fdB C ex r [k] = lvB C ex k r := by
  unfold fdB
  simp
theorem fdNext (C : List I8) (ex : Bool) (r : Int) (k : Nat) : fdB C ex r (scM C k) = anyB C ex k r := by
  unfold fdB anyB
  rw [Bool.eq_iff_iff, List.any_eq_true, List.any_eq_true]
  exact ⟨fun ⟨y, hy, h⟩ => ⟨y, scMMem.1 hy, h⟩, fun ⟨y, hy, h⟩ => ⟨y, scMMem.2 hy, h⟩⟩
theorem memRg {S : Int → Bool} (hS : Regs S) (r : Int) : memB (rgL S) r = S r := by
  unfold memB
  rw [Bool.eq_iff_iff, decide_eq_true_iff, rgLMem hS]
theorem memDe {C : List I8} {n k : Nat} (hk : k < n) : memB (deL C n) (k : Int) = deB C k := by
  unfold memB deL
  rw [Bool.eq_iff_iff, decide_eq_true_iff, List.mem_map]
  constructor
  · rintro ⟨j, hj, e⟩
    have e : (j : Int) = k := e
    obtain rfl : j = k := by omega
    exact (List.mem_filter.1 hj).2
  · intro h
    exact ⟨k, List.mem_filter.2 ⟨List.mem_range.2 hk, h⟩, rfl⟩
set_option maxRecDepth 100000 in
set_option maxHeartbeats 40000000 in
set_option linter.unusedSimpArgs false in
theorem lawPaths (nm : ByteArray) (C : List I8) (n : Nat) (hn : C.length = n) (A : Option Addr) (c : Nat) (w : World) (h : CdW w A c C) :
    Calls Tryd.prog 5 #[fnV nm A n c] w (LawOkL w) := by
  obtain ⟨W, hW⟩ : ∃ W, w.alloc (.cells #[.string nm, .slice A n c] 24) = W := ⟨_, rfl⟩
  have hbW : Below w.heap.size w W := by rw [← hW]; exact belowAlloc w _
  have hB : Blk W w.heap.size 24 #[.string nm, .slice A n c] := by rw [← hW]; exact Blk.new w _ _
  have k0 : W.cell? ⟨w.heap.size, 0, none⟩ = some (.string nm) := hB.cell 0
  have k1 : W.cell? ⟨w.heap.size, 1, none⟩ = some (.slice A n c) := hB.cell 1
  have HK := Lib.hid (fun X (hX : Below W.heap.size W X) => (⟨(hB.below' hX).cell 0, (hB.below' hX).cell 1⟩ : X.cell? ⟨w.heap.size, 0, none⟩ = some (.string nm) ∧ X.cell? ⟨w.heap.size, 1, none⟩ = some (.slice A n c)))
  have hcd := h.below hbW
  have HCD := Lib.hid (fun X (hX : Below W.heap.size W X) => hcd.below hX)
  have HEX := Lib.hid (fun X (hX : Below W.heap.size W X) => awakeL X (hcd.ld.below hX))
  have HRE := Lib.hid (rReach nm C n hn A c W hcd)
  have HBE := Lib.hid (fun X (hX : Below W.heap.size W X) => iBeforeL nm C n hn A c X (hcd.below hX))
  have HDD := Lib.hid (fun X (hX : Below W.heap.size W X) => iDead nm C n hn A c X (hcd.below hX))
  have HNX := Lib.hid (fun (k : Nat) X (hX : Below W.heap.size W X) => rNx12 nm C n hn (k : Int) A c X (hcd.below hX))
  have HFI := Lib.hid (fun hc F hF hFl mf hmf r ex hex Af cf X (hX : Below W.heap.size W X) hf => rFinds nm C hc n hn F hF hFl mf hmf r ex hex A c Af cf X (hcd.below hX) hf)
  have HW := Lib.hid hW
  have HBW := Lib.hid hbW
  have HN := Lib.hid hn
  have hle := h.rd.le
  have hmx := h.rd.max
  rw [hn] at hle
  unfold maxLen at hmx
  unfold fnV at HRE HBE HDD HNX HFI ⊢
  clear h hB hW hbW hcd hn
  refine (callsIn_wide (n := 7)).1 ?_
  refine callsIn_of_wp Tryd.func5 rfl trivial ?_ rfl
  simp only [Tryd.ntmps5, List.size_toArray, List.length_cons, List.length_nil, Nat.reduceAdd, Nat.reduceSub, Array.replicate_succ, Array.replicate_zero, List.push_toArray, List.append_toArray, List.nil_append, List.cons_append]
  gi_wp2_with fail
  rw [HW.out]
  refine ⟨trivial, (callsIn_wide.2 HRE.out).mono ?_⟩
  rintro e w1 ⟨A1, c1, rfl, _, b1⟩
  obtain ⟨q1, hq1⟩ : ∃ q1, (rhR C).length = q1 := ⟨_, rfl⟩
  rw [hq1]
  have HB1 := Lib.hid b1
  obtain ⟨m0, m1⟩ := HK.out w1 b1
  have HX1 := Lib.hid (HEX.out w1 b1)
  clear b1 k0 k1 hq1
  by_cases hbig : 20 < n
  · have d1 : decide ((20 : Int) < (n : Int)) = true := decide_eq_true (by omega)
    gi_wp2_with fail
    all_goals first
      | (exfalso; omega)
      | skip
    refine ⟨trivial, (callsIn_wide.2 HX1.out).mono ?_⟩
    rintro e w2 ⟨rfl, b2⟩
    gi_wp2
    go_ret
    exact ⟨rfl, belowThen HBW.out (belowThen HB1.out b2)⟩
  have d1 : decide ((20 : Int) < (n : Int)) = false := decide_eq_false (by omega)
  by_cases hc : cfE C = 0
  rotate_left
  · have hne : (cfE C != 0) = true := by simpa using hc
    gi_wp2_with fail
    all_goals first
      | (exfalso; omega)
      | skip
    refine ⟨trivial, (callsIn_wide.2 HX1.out).mono ?_⟩
    rintro e w2 ⟨rfl, b2⟩
    gi_wp2
    go_ret
    exact ⟨rfl, belowThen HBW.out (belowThen HB1.out b2)⟩
  have e1 : beR C = beL C := by unfold beR; rw [if_pos hc]
  have HBL := Lib.hid (show (beL C).length = n by unfold beL; rw [List.length_map, List.length_range]; exact HN.out)
  have e3 : deR C = deL C n := by unfold deR; rw [if_pos hc, HN.out]
  rw [e1, hc] at HBE
  rw [e3, hc] at HDD
  rw [hc]
  have HHC := Lib.hid hc
  have HBC := Lib.hid (HBE.out w1 HB1.out)
  clear e1 e3 hc
  gi_wp2_with fail
  all_goals first
    | (exfalso; omega)
    | skip
  refine ⟨trivial, (callsIn_wide.2 HBC.out).mono ?_⟩
  rintro e w2 ⟨A2, c2, rfl, r2, b2⟩
  rw [HBL.out]
  have HR2 := Lib.hid (fun X (hX : Below w2.heap.size w2 X) => r2.below hX)
  have HB2 := Lib.hid (belowThen HB1.out b2)
  have hle2 := r2.le
  have hmx2 := r2.max
  rw [HBL.out] at hle2
  unfold maxLen at hmx2
  clear r2 b2 m0 m1
  obtain ⟨m0, m1⟩ := HK.out w2 HB2.out
  have HDC := Lib.hid (HDD.out w2 HB2.out)
  gi_wp2_with fail
  refine ⟨trivial, (callsIn_wide.2 HDC.out).mono ?_⟩
  rintro e w5 ⟨A5, c5, rfl, r5, b5⟩
  obtain ⟨q5, hq5⟩ : ∃ q5, (deL C n).length = q5 := ⟨_, rfl⟩
  rw [hq5]
  have HQ5 := Lib.hid hq5
  have HR5 := Lib.hid (fun X (hX : Below w5.heap.size w5 X) => Rd.below r5 hX)
  have HR2 := Lib.hid (fun X (hX : Below w5.heap.size w5 X) => HR2.out X (belowThen b5 hX))
  have HB5 := Lib.hid (belowThen HB2.out b5)
  have hle5 := r5.le
  have hmx5 := r5.max
  rw [hq5] at hle5
  unfold maxLen at hmx5
  clear r5 b5 hq5 m0 m1 HDC HDD
  obtain ⟨m0, m1⟩ := HK.out w5 HB5.out
  gi_wp2_with fail
  clear m0 m1
  gi_loopw [9] (fun i X => ∃ k : Nat, k ≤ n ∧ i = .int .i64 k ∧ Hid (Below w5.heap.size w5 X)) (fun i _ => n - (intOf i).toNat)
  case atStart => exact ⟨0, Nat.zero_le _, rfl, Lib.hid (Below.refl _ _)⟩
  case round =>
    obtain ⟨k, hk, rfl, HB⟩ := hrel
    have hbw := belowThen HB5.out HB.out
    obtain ⟨m0, m1⟩ := HK.out wr hbw
    by_cases hkn : k < n
    · have hkC : k < C.length := by rw [HN.out]; exact hkn
      have hk0 : (0 : Int) ≤ k := by omega
      have hk1 : (k : Int) < n := by omega
      have hkb : k < (beL C).length := by rw [HBL.out]; exact hkn
      obtain ⟨lk, hlk⟩ : ∃ lk, rgL (lvB C false k) = lk := ⟨_, rfl⟩
      have HLK := Lib.hid (show (beL C)[k] = lk by
        have h : (beL C)[k]? = some lk := by
          unfold beL
          rw [List.getElem?_map, List.getElem?_range (by rw [HN.out]; exact hkn)]
          show some (rgL (lvB C false k)) = _
          rw [hlk]
        rw [List.getElem?_eq_getElem hkb] at h
        exact Option.some.inj h)
      obtain ⟨ad, Al, cl, hA2, hcl, hrl⟩ := (HR2.out wr HB.out).one hkb
      rw [HLK.out] at hcl hrl
      obtain ⟨ql, hql⟩ : ∃ ql, lk.length = ql := ⟨_, rfl⟩
      rw [hql] at hcl
      have hadl := World.block_lt_of_cell? _ _ hcl
      have HCL := Lib.hid (fun X (hX : Below wr.heap.size wr X) => (hX.cell hadl).trans hcl)
      have HHA := Lib.hid (fun (r : Int) X (hX : Below wr.heap.size wr X) => by
        have h := rHas lk r _ rfl Al cl X (Rd.below hrl hX)
        rw [hql, ← hlk, memRg (S := lvB C false k) (fun r hr => lvRg (cfOk HHC.out) hr)] at h
        exact h)
      have HKW := Lib.hid (fun X (hX : Below wr.heap.size wr X) => HK.out X (belowThen hbw hX))
      have HFW := Lib.hid (fun (r : Int) X (hX : Below wr.heap.size wr X) (b : Nat) (hf : Rd X (some ⟨b, 0, none⟩) 1 ([k].map Int.ofNat)) => by
        have h := HFI.out HHC.out [k] (fun s hs => by rw [List.mem_singleton] at hs; omega) (by simp) 1 rfl r false (fun h => by cases h) (some ⟨b, 0, none⟩) 1 X (belowThen hbw hX) hf
        rw [fdOne] at h
        exact h)
      have HBR := Lib.hid hbw
      subst hA2
      obtain ⟨wo, hwo⟩ : ∃ wo, wr = wo := ⟨_, rfl⟩
      rw [hwo] at HCL HHA HKW HFW HB HBR m0 m1 ⊢
      clear HLK hwo hcl hrl hadl hlk hql hbw hkb
      gi_wp2_with fail
      gi_loopw [10] (fun i X => ∃ r : Nat, r ≤ 8 ∧ i = .int .i64 r ∧ Hid (Below wo.heap.size wo X)) (fun i _ => 8 - (intOf i).toNat)
      case atStart => exact ⟨0, Nat.zero_le _, rfl, Lib.hid (Below.refl _ _)⟩
      case round =>
        clear m0 m1
        obtain ⟨r, hr, rfl, HBo⟩ := hrel
        by_cases hr8 : r < 8
        · have hr0 : (0 : Int) ≤ r := by omega
          have hr1 : (r : Int) < 8 := by omega
          gi_wp2_with fail
          obtain ⟨Z1, hZ1⟩ : ∃ Z1, wr.drew = Z1 := ⟨_, rfl⟩
          have hbZ : Below wo.heap.size wo Z1 := by rw [← hZ1]; exact HBo.out.drew
          have hbL := belowThen hbZ (belowAlloc Z1 (.cells #[.int .i64 (k : Int)] 3))
          have HBZ := Lib.hid hbZ
          have tz := HCL.out Z1 hbZ
          have tl := HCL.out _ hbL
          obtain ⟨z0, z1⟩ := HKW.out Z1 hbZ
          obtain ⟨y0, y1⟩ := HKW.out _ hbL
          have HHZ := HHA.out (r : Int) Z1 hbZ
          have HHL := HHA.out (r : Int) _ hbL
          have HFL := HFW.out (r : Int) _ hbL Z1.heap.size (Rd.lit Z1 [(k : Int)] 3 (by simp))
          obtain ⟨b, hb⟩ : ∃ b, lvB C false k (r : Int) = b := ⟨_, rfl⟩
          rw [hb] at HHZ HHL HFL
          have HHZ := Lib.hid HHZ
          have HHL := Lib.hid HHL
          have HFL := Lib.hid HFL
          have hbb : (b != b) = false := by cases b <;> rfl
          clear hb hbZ hbL
          refine wpIn_region_any (by kernel_rfl) ?_
          change wpAnyIn _ _ _ _ _ _ _ _ _ (World.drew _)
          rw [hZ1]
          clear hZ1
          refine mergeAnyL fun G hG => ?_
          have hs111111111111 : ∀ (X9 : World) (_ : Below Z1.heap.size Z1 X9), G 0 #[true, true, true, true, true, true, true, true, true, true, true, true] { tmps := #[.agg #[.string nm, .slice A n c], .pointer (some ⟨w.heap.size, 0, none⟩), u2, .slice A1 q1 c1, .int .i64 0, .slice (some ad) n c2, .int .i64 0, .slice A5 q5 c5, .int .i64 0, .int .i64 (k : Int), .int .i64 (r : Int), u11, u12, u13, u14, u15, .tuple #[.slice A1 q1 c1, .int .i64 0], .agg #[.string nm, .slice A n c], .tuple #[.slice A1 q1 c1, .int .i64 0], .slice A1 q1 c1, .int .i64 0, .pointer (some ⟨w.heap.size, 1, none⟩), .slice A n c, .int .i64 (n : Int), .bool false, .bool false, .int .i64 0, .bool false, .bool false, undef, .tuple #[.slice (some ad) n c2, .int .i64 0], .agg #[.string nm, .slice A n c], .tuple #[.slice (some ad) n c2, .int .i64 0], .slice (some ad) n c2, .int .i64 0, .tuple #[.slice A5 q5 c5, .int .i64 0], .agg #[.string nm, .slice A n c], .tuple #[.slice A5 q5 c5, .int .i64 0], .slice A5 q5 c5, .int .i64 0, .int .i64 0, .bool false, .bool false, .int .i64 0, .bool false, .bool false, .bool false, .slice (some ad) n c2, .int .i64 (n : Int), .pointer (some ⟨w.heap.size, 1, none⟩), .slice A n c, .int .i64 (n : Int), .bool false, .bool false, .int .i64 (k : Int), .pointer (some ⟨w.heap.size, 1, none⟩), .slice A n c, .int .i64 (n : Int), .bool true, u59, u60, .int .i64 (r : Int), .bool true, u63, u64, .slice (some ad) n c2, .int .i64 (k : Int), .pointer (some (ad.add k)), .slice Al ql cl, .int .i64 (r : Int), .bool b, .agg #[.string nm, .slice A n c], .int .i64 (k : Int), .slice (some ⟨Z1.heap.size, 0, none⟩) 1 1, .int .i64 (r : Int), .bool b, .bool false, u77, u78, u79, u80, u81, u82, u83, u84, u85, u86, u87, u88, u89, u90, u91, u92, u93, u94, u95, u96, u97, u98, u99, u100, u101, u102, u103, u104, u105, u106, u107, u108, u109, u110, u111, u112, u113, u114, undef], defers := [] } X9 := by
            intro X9 HP
            have HP := Lib.hid HP
            refine (hG _ _ _ _).2 ?_
            refine wpAnyIn_done (by kernel_rfl) ?_ _
            have HF := Lib.hid (belowThen HBZ.out HP.out)
            gi_wp2
            go_roundw
            case rel => exact ⟨r + 1, by omega, by go_num, HF⟩
            case measure => simp [intOf]; omega
          have hs111111111110 : ∀ (X9 : World) (_ : Below Z1.heap.size Z1 X9), G 1 #[true, true, true, true, true, true, true, true, true, true, true, false] { tmps := #[.agg #[.string nm, .slice A n c], .pointer (some ⟨w.heap.size, 0, none⟩), u2, .slice A1 q1 c1, .int .i64 0, .slice (some ad) n c2, .int .i64 0, .slice A5 q5 c5, .int .i64 0, .int .i64 (k : Int), .int .i64 (r : Int), u11, u12, u13, u14, u15, .tuple #[.slice A1 q1 c1, .int .i64 0], .agg #[.string nm, .slice A n c], .tuple #[.slice A1 q1 c1, .int .i64 0], .slice A1 q1 c1, .int .i64 0, .pointer (some ⟨w.heap.size, 1, none⟩), .slice A n c, .int .i64 (n : Int), .bool false, .bool false, .int .i64 0, .bool false, .bool false, undef, .tuple #[.slice (some ad) n c2, .int .i64 0], .agg #[.string nm, .slice A n c], .tuple #[.slice (some ad) n c2, .int .i64 0], .slice (some ad) n c2, .int .i64 0, .tuple #[.slice A5 q5 c5, .int .i64 0], .agg #[.string nm, .slice A n c], .tuple #[.slice A5 q5 c5, .int .i64 0], .slice A5 q5 c5, .int .i64 0, .int .i64 0, .bool false, .bool false, .int .i64 0, .bool false, .bool false, .bool false, .slice (some ad) n c2, .int .i64 (n : Int), .pointer (some ⟨w.heap.size, 1, none⟩), .slice A n c, .int .i64 (n : Int), .bool false, .bool false, .int .i64 (k : Int), .pointer (some ⟨w.heap.size, 1, none⟩), .slice A n c, .int .i64 (n : Int), .bool true, u59, u60, .int .i64 (r : Int), .bool true, u63, u64, .slice (some ad) n c2, .int .i64 (k : Int), .pointer (some (ad.add k)), .slice Al ql cl, .int .i64 (r : Int), .bool b, .agg #[.string nm, .slice A n c], .int .i64 (k : Int), .slice (some ⟨Z1.heap.size, 0, none⟩) 1 1, .int .i64 (r : Int), .bool b, u76, u77, u78, u79, u80, u81, u82, u83, u84, u85, u86, u87, u88, u89, u90, u91, u92, u93, u94, u95, u96, u97, u98, u99, u100, u101, u102, u103, u104, u105, u106, u107, u108, u109, u110, u111, u112, u113, u114, undef], defers := [] } X9 := by
            intro X9 HP
            have HP := Lib.hid HP
            refine (hG _ _ _ _).2 ?_
            refine wpAnyIn_ready (rs := [11]) (by kernel_rfl) (by simp) ?_
            refine AllReadyIn.cons rfl (fun K hK => ?_) (AllReadyIn.nil)
            · go_simp
              refine hK _ _ ?_
              clear hK K
              (try simp only [Act.put, List.setIfInBounds_toArray, List.set_cons_zero, List.set_cons_succ])
              exact (hG _ _ _ _).1 (hs111111111111 _ HP.out)
          have hs111111111100 : G 2 #[true, true, true, true, true, true, true, true, true, true, false, false] { tmps := #[.agg #[.string nm, .slice A n c], .pointer (some ⟨w.heap.size, 0, none⟩), u2, .slice A1 q1 c1, .int .i64 0, .slice (some ad) n c2, .int .i64 0, .slice A5 q5 c5, .int .i64 0, .int .i64 (k : Int), .int .i64 (r : Int), u11, u12, u13, u14, u15, .tuple #[.slice A1 q1 c1, .int .i64 0], .agg #[.string nm, .slice A n c], .tuple #[.slice A1 q1 c1, .int .i64 0], .slice A1 q1 c1, .int .i64 0, .pointer (some ⟨w.heap.size, 1, none⟩), .slice A n c, .int .i64 (n : Int), .bool false, .bool false, .int .i64 0, .bool false, .bool false, undef, .tuple #[.slice (some ad) n c2, .int .i64 0], .agg #[.string nm, .slice A n c], .tuple #[.slice (some ad) n c2, .int .i64 0], .slice (some ad) n c2, .int .i64 0, .tuple #[.slice A5 q5 c5, .int .i64 0], .agg #[.string nm, .slice A n c], .tuple #[.slice A5 q5 c5, .int .i64 0], .slice A5 q5 c5, .int .i64 0, .int .i64 0, .bool false, .bool false, .int .i64 0, .bool false, .bool false, .bool false, .slice (some ad) n c2, .int .i64 (n : Int), .pointer (some ⟨w.heap.size, 1, none⟩), .slice A n c, .int .i64 (n : Int), .bool false, .bool false, .int .i64 (k : Int), .pointer (some ⟨w.heap.size, 1, none⟩), .slice A n c, .int .i64 (n : Int), .bool true, u59, u60, .int .i64 (r : Int), .bool true, u63, u64, .slice (some ad) n c2, .int .i64 (k : Int), .pointer (some (ad.add k)), .slice Al ql cl, .int .i64 (r : Int), .bool b, .agg #[.string nm, .slice A n c], .int .i64 (k : Int), .slice (some ⟨Z1.heap.size, 0, none⟩) 1 1, .int .i64 (r : Int), u75, u76, u77, u78, u79, u80, u81, u82, u83, u84, u85, u86, u87, u88, u89, u90, u91, u92, u93, u94, u95, u96, u97, u98, u99, u100, u101, u102, u103, u104, u105, u106, u107, u108, u109, u110, u111, u112, u113, u114, undef], defers := [] } (Z1.alloc (.cells #[.int .i64 (k : Int)] 3)) := by
            refine (hG _ _ _ _).2 ?_
            refine wpAnyIn_ready (rs := [10]) (by kernel_rfl) (by simp) ?_
            refine AllReadyIn.cons rfl (fun K hK => ?_) (AllReadyIn.nil)
            · go_simp
              gi_wp2_with fail
              refine ⟨trivial, (callsIn_wide.2 HFL.out).mono ?_⟩
              rintro e X9 ⟨rfl, hb9⟩
              refine hK _ _ ?_
              clear hK K
              (try simp only [Act.put, List.setIfInBounds_toArray, List.set_cons_zero, List.set_cons_succ])
              exact (hG _ _ _ _).1 (hs111111111110 X9 (belowThen (belowAlloc Z1 _) hb9))
          have hs111111110100 : G 3 #[true, true, true, true, true, true, true, true, false, true, false, false] { tmps := #[.agg #[.string nm, .slice A n c], .pointer (some ⟨w.heap.size, 0, none⟩), u2, .slice A1 q1 c1, .int .i64 0, .slice (some ad) n c2, .int .i64 0, .slice A5 q5 c5, .int .i64 0, .int .i64 (k : Int), .int .i64 (r : Int), u11, u12, u13, u14, u15, .tuple #[.slice A1 q1 c1, .int .i64 0], .agg #[.string nm, .slice A n c], .tuple #[.slice A1 q1 c1, .int .i64 0], .slice A1 q1 c1, .int .i64 0, .pointer (some ⟨w.heap.size, 1, none⟩), .slice A n c, .int .i64 (n : Int), .bool false, .bool false, .int .i64 0, .bool false, .bool false, undef, .tuple #[.slice (some ad) n c2, .int .i64 0], .agg #[.string nm, .slice A n c], .tuple #[.slice (some ad) n c2, .int .i64 0], .slice (some ad) n c2, .int .i64 0, .tuple #[.slice A5 q5 c5, .int .i64 0], .agg #[.string nm, .slice A n c], .tuple #[.slice A5 q5 c5, .int .i64 0], .slice A5 q5 c5, .int .i64 0, .int .i64 0, .bool false, .bool false, .int .i64 0, .bool false, .bool false, .bool false, .slice (some ad) n c2, .int .i64 (n : Int), .pointer (some ⟨w.heap.size, 1, none⟩), .slice A n c, .int .i64 (n : Int), .bool false, .bool false, .int .i64 (k : Int), .pointer (some ⟨w.heap.size, 1, none⟩), .slice A n c, .int .i64 (n : Int), .bool true, u59, u60, .int .i64 (r : Int), .bool true, u63, u64, .slice (some ad) n c2, .int .i64 (k : Int), .pointer (some (ad.add k)), .slice Al ql cl, .int .i64 (r : Int), .bool b, .agg #[.string nm, .slice A n c], .int .i64 (k : Int), u73, .int .i64 (r : Int), u75, u76, u77, u78, u79, u80, u81, u82, u83, u84, u85, u86, u87, u88, u89, u90, u91, u92, u93, u94, u95, u96, u97, u98, u99, u100, u101, u102, u103, u104, u105, u106, u107, u108, u109, u110, u111, u112, u113, u114, undef], defers := [] } Z1 := by
            refine (hG _ _ _ _).2 ?_
            refine wpAnyIn_ready (rs := [8]) (by kernel_rfl) (by simp) ?_
            refine AllReadyIn.cons rfl (fun K hK => ?_) (AllReadyIn.nil)
            · go_simp
              refine hK _ _ ?_
              clear hK K
              (try simp only [Act.put, List.setIfInBounds_toArray, List.set_cons_zero, List.set_cons_succ])
              exact (hG _ _ _ _).1 hs111111111100
          have hs111111011100 : G 3 #[true, true, true, true, true, true, false, true, true, true, false, false] { tmps := #[.agg #[.string nm, .slice A n c], .pointer (some ⟨w.heap.size, 0, none⟩), u2, .slice A1 q1 c1, .int .i64 0, .slice (some ad) n c2, .int .i64 0, .slice A5 q5 c5, .int .i64 0, .int .i64 (k : Int), .int .i64 (r : Int), u11, u12, u13, u14, u15, .tuple #[.slice A1 q1 c1, .int .i64 0], .agg #[.string nm, .slice A n c], .tuple #[.slice A1 q1 c1, .int .i64 0], .slice A1 q1 c1, .int .i64 0, .pointer (some ⟨w.heap.size, 1, none⟩), .slice A n c, .int .i64 (n : Int), .bool false, .bool false, .int .i64 0, .bool false, .bool false, undef, .tuple #[.slice (some ad) n c2, .int .i64 0], .agg #[.string nm, .slice A n c], .tuple #[.slice (some ad) n c2, .int .i64 0], .slice (some ad) n c2, .int .i64 0, .tuple #[.slice A5 q5 c5, .int .i64 0], .agg #[.string nm, .slice A n c], .tuple #[.slice A5 q5 c5, .int .i64 0], .slice A5 q5 c5, .int .i64 0, .int .i64 0, .bool false, .bool false, .int .i64 0, .bool false, .bool false, .bool false, .slice (some ad) n c2, .int .i64 (n : Int), .pointer (some ⟨w.heap.size, 1, none⟩), .slice A n c, .int .i64 (n : Int), .bool false, .bool false, .int .i64 (k : Int), .pointer (some ⟨w.heap.size, 1, none⟩), .slice A n c, .int .i64 (n : Int), .bool true, u59, u60, .int .i64 (r : Int), .bool true, u63, u64, .slice (some ad) n c2, .int .i64 (k : Int), .pointer (some (ad.add k)), .slice Al ql cl, .int .i64 (r : Int), .bool b, u71, .int .i64 (k : Int), .slice (some ⟨Z1.heap.size, 0, none⟩) 1 1, .int .i64 (r : Int), u75, u76, u77, u78, u79, u80, u81, u82, u83, u84, u85, u86, u87, u88, u89, u90, u91, u92, u93, u94, u95, u96, u97, u98, u99, u100, u101, u102, u103, u104, u105, u106, u107, u108, u109, u110, u111, u112, u113, u114, undef], defers := [] } (Z1.alloc (.cells #[.int .i64 (k : Int)] 3)) := by
            refine (hG _ _ _ _).2 ?_
            refine wpAnyIn_ready (rs := [6]) (by kernel_rfl) (by simp) ?_
            refine AllReadyIn.cons rfl (fun K hK => ?_) (AllReadyIn.nil)
            · go_simp
              refine hK _ _ ?_
              clear hK K
              (try simp only [Act.put, List.setIfInBounds_toArray, List.set_cons_zero, List.set_cons_succ])
              exact (hG _ _ _ _).1 hs111111111100
          have hs111110111100 : G 3 #[true, true, true, true, true, false, true, true, true, true, false, false] { tmps := #[.agg #[.string nm, .slice A n c], .pointer (some ⟨w.heap.size, 0, none⟩), u2, .slice A1 q1 c1, .int .i64 0, .slice (some ad) n c2, .int .i64 0, .slice A5 q5 c5, .int .i64 0, .int .i64 (k : Int), .int .i64 (r : Int), u11, u12, u13, u14, u15, .tuple #[.slice A1 q1 c1, .int .i64 0], .agg #[.string nm, .slice A n c], .tuple #[.slice A1 q1 c1, .int .i64 0], .slice A1 q1 c1, .int .i64 0, .pointer (some ⟨w.heap.size, 1, none⟩), .slice A n c, .int .i64 (n : Int), .bool false, .bool false, .int .i64 0, .bool false, .bool false, undef, .tuple #[.slice (some ad) n c2, .int .i64 0], .agg #[.string nm, .slice A n c], .tuple #[.slice (some ad) n c2, .int .i64 0], .slice (some ad) n c2, .int .i64 0, .tuple #[.slice A5 q5 c5, .int .i64 0], .agg #[.string nm, .slice A n c], .tuple #[.slice A5 q5 c5, .int .i64 0], .slice A5 q5 c5, .int .i64 0, .int .i64 0, .bool false, .bool false, .int .i64 0, .bool false, .bool false, .bool false, .slice (some ad) n c2, .int .i64 (n : Int), .pointer (some ⟨w.heap.size, 1, none⟩), .slice A n c, .int .i64 (n : Int), .bool false, .bool false, .int .i64 (k : Int), .pointer (some ⟨w.heap.size, 1, none⟩), .slice A n c, .int .i64 (n : Int), .bool true, u59, u60, .int .i64 (r : Int), .bool true, u63, u64, .slice (some ad) n c2, .int .i64 (k : Int), .pointer (some (ad.add k)), .slice Al ql cl, .int .i64 (r : Int), u70, .agg #[.string nm, .slice A n c], .int .i64 (k : Int), .slice (some ⟨Z1.heap.size, 0, none⟩) 1 1, .int .i64 (r : Int), u75, u76, u77, u78, u79, u80, u81, u82, u83, u84, u85, u86, u87, u88, u89, u90, u91, u92, u93, u94, u95, u96, u97, u98, u99, u100, u101, u102, u103, u104, u105, u106, u107, u108, u109, u110, u111, u112, u113, u114, undef], defers := [] } (Z1.alloc (.cells #[.int .i64 (k : Int)] 3)) := by
            refine (hG _ _ _ _).2 ?_
            refine wpAnyIn_ready (rs := [5]) (by kernel_rfl) (by simp) ?_
            refine AllReadyIn.cons rfl (fun K hK => ?_) (AllReadyIn.nil)
            · go_simp
              gi_wp2_with fail
              refine ⟨trivial, (callsIn_wide.2 HHL.out).mono ?_⟩
              rintro e X9 ⟨rfl, rfl⟩
              refine hK _ _ ?_
              clear hK K
              (try simp only [Act.put, List.setIfInBounds_toArray, List.set_cons_zero, List.set_cons_succ])
              exact (hG _ _ _ _).1 hs111111111100
          have hs111111010100 : G 4 #[true, true, true, true, true, true, false, true, false, true, false, false] { tmps := #[.agg #[.string nm, .slice A n c], .pointer (some ⟨w.heap.size, 0, none⟩), u2, .slice A1 q1 c1, .int .i64 0, .slice (some ad) n c2, .int .i64 0, .slice A5 q5 c5, .int .i64 0, .int .i64 (k : Int), .int .i64 (r : Int), u11, u12, u13, u14, u15, .tuple #[.slice A1 q1 c1, .int .i64 0], .agg #[.string nm, .slice A n c], .tuple #[.slice A1 q1 c1, .int .i64 0], .slice A1 q1 c1, .int .i64 0, .pointer (some ⟨w.heap.size, 1, none⟩), .slice A n c, .int .i64 (n : Int), .bool false, .bool false, .int .i64 0, .bool false, .bool false, undef, .tuple #[.slice (some ad) n c2, .int .i64 0], .agg #[.string nm, .slice A n c], .tuple #[.slice (some ad) n c2, .int .i64 0], .slice (some ad) n c2, .int .i64 0, .tuple #[.slice A5 q5 c5, .int .i64 0], .agg #[.string nm, .slice A n c], .tuple #[.slice A5 q5 c5, .int .i64 0], .slice A5 q5 c5, .int .i64 0, .int .i64 0, .bool false, .bool false, .int .i64 0, .bool false, .bool false, .bool false, .slice (some ad) n c2, .int .i64 (n : Int), .pointer (some ⟨w.heap.size, 1, none⟩), .slice A n c, .int .i64 (n : Int), .bool false, .bool false, .int .i64 (k : Int), .pointer (some ⟨w.heap.size, 1, none⟩), .slice A n c, .int .i64 (n : Int), .bool true, u59, u60, .int .i64 (r : Int), .bool true, u63, u64, .slice (some ad) n c2, .int .i64 (k : Int), .pointer (some (ad.add k)), .slice Al ql cl, .int .i64 (r : Int), .bool b, u71, .int .i64 (k : Int), u73, .int .i64 (r : Int), u75, u76, u77, u78, u79, u80, u81, u82, u83, u84, u85, u86, u87, u88, u89, u90, u91, u92, u93, u94, u95, u96, u97, u98, u99, u100, u101, u102, u103, u104, u105, u106, u107, u108, u109, u110, u111, u112, u113, u114, undef], defers := [] } Z1 := by
            refine (hG _ _ _ _).2 ?_
            refine wpAnyIn_ready (rs := [6, 8]) (by kernel_rfl) (by simp) ?_
            refine AllReadyIn.cons rfl (fun K hK => ?_) (AllReadyIn.cons rfl (fun K hK => ?_) (AllReadyIn.nil))
            · go_simp
              refine hK _ _ ?_
              clear hK K
              (try simp only [Act.put, List.setIfInBounds_toArray, List.set_cons_zero, List.set_cons_succ])
              exact (hG _ _ _ _).1 hs111111110100
            · go_simp
              refine hK _ _ ?_
              clear hK K
              (try simp only [Act.put, List.setIfInBounds_toArray, List.set_cons_zero, List.set_cons_succ])
              exact (hG _ _ _ _).1 hs111111011100
          have hs111110110100 : G 4 #[true, true, true, true, true, false, true, true, false, true, false, false] { tmps := #[.agg #[.string nm, .slice A n c], .pointer (some ⟨w.heap.size, 0, none⟩), u2, .slice A1 q1 c1, .int .i64 0, .slice (some ad) n c2, .int .i64 0, .slice A5 q5 c5, .int .i64 0, .int .i64 (k : Int), .int .i64 (r : Int), u11, u12, u13, u14, u15, .tuple #[.slice A1 q1 c1, .int .i64 0], .agg #[.string nm, .slice A n c], .tuple #[.slice A1 q1 c1, .int .i64 0], .slice A1 q1 c1, .int .i64 0, .pointer (some ⟨w.heap.size, 1, none⟩), .slice A n c, .int .i64 (n : Int), .bool false, .bool false, .int .i64 0, .bool false, .bool false, undef, .tuple #[.slice (some ad) n c2, .int .i64 0], .agg #[.string nm, .slice A n c], .tuple #[.slice (some ad) n c2, .int .i64 0], .slice (some ad) n c2, .int .i64 0, .tuple #[.slice A5 q5 c5, .int .i64 0], .agg #[.string nm, .slice A n c], .tuple #[.slice A5 q5 c5, .int .i64 0], .slice A5 q5 c5, .int .i64 0, .int .i64 0, .bool false, .bool false, .int .i64 0, .bool false, .bool false, .bool false, .slice (some ad) n c2, .int .i64 (n : Int), .pointer (some ⟨w.heap.size, 1, none⟩), .slice A n c, .int .i64 (n : Int), .bool false, .bool false, .int .i64 (k : Int), .pointer (some ⟨w.heap.size, 1, none⟩), .slice A n c, .int .i64 (n : Int), .bool true, u59, u60, .int .i64 (r : Int), .bool true, u63, u64, .slice (some ad) n c2, .int .i64 (k : Int), .pointer (some (ad.add k)), .slice Al ql cl, .int .i64 (r : Int), u70, .agg #[.string nm, .slice A n c], .int .i64 (k : Int), u73, .int .i64 (r : Int), u75, u76, u77, u78, u79, u80, u81, u82, u83, u84, u85, u86, u87, u88, u89, u90, u91, u92, u93, u94, u95, u96, u97, u98, u99, u100, u101, u102, u103, u104, u105, u106, u107, u108, u109, u110, u111, u112, u113, u114, undef], defers := [] } Z1 := by
            refine (hG _ _ _ _).2 ?_
            refine wpAnyIn_ready (rs := [5, 8]) (by kernel_rfl) (by simp) ?_
            refine AllReadyIn.cons rfl (fun K hK => ?_) (AllReadyIn.cons rfl (fun K hK => ?_) (AllReadyIn.nil))
            · go_simp
              gi_wp2_with fail
              refine ⟨trivial, (callsIn_wide.2 HHZ.out).mono ?_⟩
              rintro e X9 ⟨rfl, rfl⟩
              refine hK _ _ ?_
              clear hK K
              (try simp only [Act.put, List.setIfInBounds_toArray, List.set_cons_zero, List.set_cons_succ])
              exact (hG _ _ _ _).1 hs111111110100
            · go_simp
              refine hK _ _ ?_
              clear hK K
              (try simp only [Act.put, List.setIfInBounds_toArray, List.set_cons_zero, List.set_cons_succ])
              exact (hG _ _ _ _).1 hs111110111100
          have hs111110011100 : G 4 #[true, true, true, true, true, false, false, true, true, true, false, false] { tmps := #[.agg #[.string nm, .slice A n c], .pointer (some ⟨w.heap.size, 0, none⟩), u2, .slice A1 q1 c1, .int .i64 0, .slice (some ad) n c2, .int .i64 0, .slice A5 q5 c5, .int .i64 0, .int .i64 (k : Int), .int .i64 (r : Int), u11, u12, u13, u14, u15, .tuple #[.slice A1 q1 c1, .int .i64 0], .agg #[.string nm, .slice A n c], .tuple #[.slice A1 q1 c1, .int .i64 0], .slice A1 q1 c1, .int .i64 0, .pointer (some ⟨w.heap.size, 1, none⟩), .slice A n c, .int .i64 (n : Int), .bool false, .bool false, .int .i64 0, .bool false, .bool false, undef, .tuple #[.slice (some ad) n c2, .int .i64 0], .agg #[.string nm, .slice A n c], .tuple #[.slice (some ad) n c2, .int .i64 0], .slice (some ad) n c2, .int .i64 0, .tuple #[.slice A5 q5 c5, .int .i64 0], .agg #[.string nm, .slice A n c], .tuple #[.slice A5 q5 c5, .int .i64 0], .slice A5 q5 c5, .int .i64 0, .int .i64 0, .bool false, .bool false, .int .i64 0, .bool false, .bool false, .bool false, .slice (some ad) n c2, .int .i64 (n : Int), .pointer (some ⟨w.heap.size, 1, none⟩), .slice A n c, .int .i64 (n : Int), .bool false, .bool false, .int .i64 (k : Int), .pointer (some ⟨w.heap.size, 1, none⟩), .slice A n c, .int .i64 (n : Int), .bool true, u59, u60, .int .i64 (r : Int), .bool true, u63, u64, .slice (some ad) n c2, .int .i64 (k : Int), .pointer (some (ad.add k)), .slice Al ql cl, .int .i64 (r : Int), u70, u71, .int .i64 (k : Int), .slice (some ⟨Z1.heap.size, 0, none⟩) 1 1, .int .i64 (r : Int), u75, u76, u77, u78, u79, u80, u81, u82, u83, u84, u85, u86, u87, u88, u89, u90, u91, u92, u93, u94, u95, u96, u97, u98, u99, u100, u101, u102, u103, u104, u105, u106, u107, u108, u109, u110, u111, u112, u113, u114, undef], defers := [] } (Z1.alloc (.cells #[.int .i64 (k : Int)] 3)) := by
            refine (hG _ _ _ _).2 ?_
            refine wpAnyIn_ready (rs := [5, 6]) (by kernel_rfl) (by simp) ?_
            refine AllReadyIn.cons rfl (fun K hK => ?_) (AllReadyIn.cons rfl (fun K hK => ?_) (AllReadyIn.nil))
            · go_simp
              gi_wp2_with fail
              refine ⟨trivial, (callsIn_wide.2 HHL.out).mono ?_⟩
              rintro e X9 ⟨rfl, rfl⟩
              refine hK _ _ ?_
              clear hK K
              (try simp only [Act.put, List.setIfInBounds_toArray, List.set_cons_zero, List.set_cons_succ])
              exact (hG _ _ _ _).1 hs111111011100
            · go_simp
              refine hK _ _ ?_
              clear hK K
              (try simp only [Act.put, List.setIfInBounds_toArray, List.set_cons_zero, List.set_cons_succ])
              exact (hG _ _ _ _).1 hs111110111100
          have hs111010111100 : G 4 #[true, true, true, false, true, false, true, true, true, true, false, false] { tmps := #[.agg #[.string nm, .slice A n c], .pointer (some ⟨w.heap.size, 0, none⟩), u2, .slice A1 q1 c1, .int .i64 0, .slice (some ad) n c2, .int .i64 0, .slice A5 q5 c5, .int .i64 0, .int .i64 (k : Int), .int .i64 (r : Int), u11, u12, u13, u14, u15, .tuple #[.slice A1 q1 c1, .int .i64 0], .agg #[.string nm, .slice A n c], .tuple #[.slice A1 q1 c1, .int .i64 0], .slice A1 q1 c1, .int .i64 0, .pointer (some ⟨w.heap.size, 1, none⟩), .slice A n c, .int .i64 (n : Int), .bool false, .bool false, .int .i64 0, .bool false, .bool false, undef, .tuple #[.slice (some ad) n c2, .int .i64 0], .agg #[.string nm, .slice A n c], .tuple #[.slice (some ad) n c2, .int .i64 0], .slice (some ad) n c2, .int .i64 0, .tuple #[.slice A5 q5 c5, .int .i64 0], .agg #[.string nm, .slice A n c], .tuple #[.slice A5 q5 c5, .int .i64 0], .slice A5 q5 c5, .int .i64 0, .int .i64 0, .bool false, .bool false, .int .i64 0, .bool false, .bool false, .bool false, .slice (some ad) n c2, .int .i64 (n : Int), .pointer (some ⟨w.heap.size, 1, none⟩), .slice A n c, .int .i64 (n : Int), .bool false, .bool false, .int .i64 (k : Int), .pointer (some ⟨w.heap.size, 1, none⟩), .slice A n c, .int .i64 (n : Int), .bool true, u59, u60, .int .i64 (r : Int), .bool true, u63, u64, .slice (some ad) n c2, .int .i64 (k : Int), .pointer (some (ad.add k)), u68, .int .i64 (r : Int), u70, .agg #[.string nm, .slice A n c], .int .i64 (k : Int), .slice (some ⟨Z1.heap.size, 0, none⟩) 1 1, .int .i64 (r : Int), u75, u76, u77, u78, u79, u80, u81, u82, u83, u84, u85, u86, u87, u88, u89, u90, u91, u92, u93, u94, u95, u96, u97, u98, u99, u100, u101, u102, u103, u104, u105, u106, u107, u108, u109, u110, u111, u112, u113, u114, undef], defers := [] } (Z1.alloc (.cells #[.int .i64 (k : Int)] 3)) := by
            refine (hG _ _ _ _).2 ?_
            refine wpAnyIn_ready (rs := [3]) (by kernel_rfl) (by simp) ?_
            refine AllReadyIn.cons rfl (fun K hK => ?_) (AllReadyIn.nil)
            · go_simp
              refine hK _ _ ?_
              clear hK K
              (try simp only [Act.put, List.setIfInBounds_toArray, List.set_cons_zero, List.set_cons_succ])
              exact (hG _ _ _ _).1 hs111110111100
          have hs111110010100 : G 5 #[true, true, true, true, true, false, false, true, false, true, false, false] { tmps := #[.agg #[.string nm, .slice A n c], .pointer (some ⟨w.heap.size, 0, none⟩), u2, .slice A1 q1 c1, .int .i64 0, .slice (some ad) n c2, .int .i64 0, .slice A5 q5 c5, .int .i64 0, .int .i64 (k : Int), .int .i64 (r : Int), u11, u12, u13, u14, u15, .tuple #[.slice A1 q1 c1, .int .i64 0], .agg #[.string nm, .slice A n c], .tuple #[.slice A1 q1 c1, .int .i64 0], .slice A1 q1 c1, .int .i64 0, .pointer (some ⟨w.heap.size, 1, none⟩), .slice A n c, .int .i64 (n : Int), .bool false, .bool false, .int .i64 0, .bool false, .bool false, undef, .tuple #[.slice (some ad) n c2, .int .i64 0], .agg #[.string nm, .slice A n c], .tuple #[.slice (some ad) n c2, .int .i64 0], .slice (some ad) n c2, .int .i64 0, .tuple #[.slice A5 q5 c5, .int .i64 0], .agg #[.string nm, .slice A n c], .tuple #[.slice A5 q5 c5, .int .i64 0], .slice A5 q5 c5, .int .i64 0, .int .i64 0, .bool false, .bool false, .int .i64 0, .bool false, .bool false, .bool false, .slice (some ad) n c2, .int .i64 (n : Int), .pointer (some ⟨w.heap.size, 1, none⟩), .slice A n c, .int .i64 (n : Int), .bool false, .bool false, .int .i64 (k : Int), .pointer (some ⟨w.heap.size, 1, none⟩), .slice A n c, .int .i64 (n : Int), .bool true, u59, u60, .int .i64 (r : Int), .bool true, u63, u64, .slice (some ad) n c2, .int .i64 (k : Int), .pointer (some (ad.add k)), .slice Al ql cl, .int .i64 (r : Int), u70, u71, .int .i64 (k : Int), u73, .int .i64 (r : Int), u75, u76, u77, u78, u79, u80, u81, u82, u83, u84, u85, u86, u87, u88, u89, u90, u91, u92, u93, u94, u95, u96, u97, u98, u99, u100, u101, u102, u103, u104, u105, u106, u107, u108, u109, u110, u111, u112, u113, u114, undef], defers := [] } Z1 := by
            refine (hG _ _ _ _).2 ?_
            refine wpAnyIn_ready (rs := [5, 6, 8]) (by kernel_rfl) (by simp) ?_
            refine AllReadyIn.cons rfl (fun K hK => ?_) (AllReadyIn.cons rfl (fun K hK => ?_) (AllReadyIn.cons rfl (fun K hK => ?_) (AllReadyIn.nil)))
            · go_simp
              gi_wp2_with fail
              refine ⟨trivial, (callsIn_wide.2 HHZ.out).mono ?_⟩
              rintro e X9 ⟨rfl, rfl⟩
              refine hK _ _ ?_
              clear hK K
              (try simp only [Act.put, List.setIfInBounds_toArray, List.set_cons_zero, List.set_cons_succ])
              exact (hG _ _ _ _).1 hs111111010100
            · go_simp
              refine hK _ _ ?_
              clear hK K
              (try simp only [Act.put, List.setIfInBounds_toArray, List.set_cons_zero, List.set_cons_succ])
              exact (hG _ _ _ _).1 hs111110110100
            · go_simp
              refine hK _ _ ?_
              clear hK K
              (try simp only [Act.put, List.setIfInBounds_toArray, List.set_cons_zero, List.set_cons_succ])
              exact (hG _ _ _ _).1 hs111110011100
          have hs111010110100 : G 5 #[true, true, true, false, true, false, true, true, false, true, false, false] { tmps := #[.agg #[.string nm, .slice A n c], .pointer (some ⟨w.heap.size, 0, none⟩), u2, .slice A1 q1 c1, .int .i64 0, .slice (some ad) n c2, .int .i64 0, .slice A5 q5 c5, .int .i64 0, .int .i64 (k : Int), .int .i64 (r : Int), u11, u12, u13, u14, u15, .tuple #[.slice A1 q1 c1, .int .i64 0], .agg #[.string nm, .slice A n c], .tuple #[.slice A1 q1 c1, .int .i64 0], .slice A1 q1 c1, .int .i64 0, .pointer (some ⟨w.heap.size, 1, none⟩), .slice A n c, .int .i64 (n : Int), .bool false, .bool false, .int .i64 0, .bool false, .bool false, undef, .tuple #[.slice (some ad) n c2, .int .i64 0], .agg #[.string nm, .slice A n c], .tuple #[.slice (some ad) n c2, .int .i64 0], .slice (some ad) n c2, .int .i64 0, .tuple #[.slice A5 q5 c5, .int .i64 0], .agg #[.string nm, .slice A n c], .tuple #[.slice A5 q5 c5, .int .i64 0], .slice A5 q5 c5, .int .i64 0, .int .i64 0, .bool false, .bool false, .int .i64 0, .bool false, .bool false, .bool false, .slice (some ad) n c2, .int .i64 (n : Int), .pointer (some ⟨w.heap.size, 1, none⟩), .slice A n c, .int .i64 (n : Int), .bool false, .bool false, .int .i64 (k : Int), .pointer (some ⟨w.heap.size, 1, none⟩), .slice A n c, .int .i64 (n : Int), .bool true, u59, u60, .int .i64 (r : Int), .bool true, u63, u64, .slice (some ad) n c2, .int .i64 (k : Int), .pointer (some (ad.add k)), u68, .int .i64 (r : Int), u70, .agg #[.string nm, .slice A n c], .int .i64 (k : Int), u73, .int .i64 (r : Int), u75, u76, u77, u78, u79, u80, u81, u82, u83, u84, u85, u86, u87, u88, u89, u90, u91, u92, u93, u94, u95, u96, u97, u98, u99, u100, u101, u102, u103, u104, u105, u106, u107, u108, u109, u110, u111, u112, u113, u114, undef], defers := [] } Z1 := by
            refine (hG _ _ _ _).2 ?_
            refine wpAnyIn_ready (rs := [3, 8]) (by kernel_rfl) (by simp) ?_
            refine AllReadyIn.cons rfl (fun K hK => ?_) (AllReadyIn.cons rfl (fun K hK => ?_) (AllReadyIn.nil))
            · go_simp
              refine hK _ _ ?_
              clear hK K
              (try simp only [Act.put, List.setIfInBounds_toArray, List.set_cons_zero, List.set_cons_succ])
              exact (hG _ _ _ _).1 hs111110110100
            · go_simp
              refine hK _ _ ?_
              clear hK K
              (try simp only [Act.put, List.setIfInBounds_toArray, List.set_cons_zero, List.set_cons_succ])
              exact (hG _ _ _ _).1 hs111010111100
          have hs111010011100 : G 5 #[true, true, true, false, true, false, false, true, true, true, false, false] { tmps := #[.agg #[.string nm, .slice A n c], .pointer (some ⟨w.heap.size, 0, none⟩), u2, .slice A1 q1 c1, .int .i64 0, .slice (some ad) n c2, .int .i64 0, .slice A5 q5 c5, .int .i64 0, .int .i64 (k : Int), .int .i64 (r : Int), u11, u12, u13, u14, u15, .tuple #[.slice A1 q1 c1, .int .i64 0], .agg #[.string nm, .slice A n c], .tuple #[.slice A1 q1 c1, .int .i64 0], .slice A1 q1 c1, .int .i64 0, .pointer (some ⟨w.heap.size, 1, none⟩), .slice A n c, .int .i64 (n : Int), .bool false, .bool false, .int .i64 0, .bool false, .bool false, undef, .tuple #[.slice (some ad) n c2, .int .i64 0], .agg #[.string nm, .slice A n c], .tuple #[.slice (some ad) n c2, .int .i64 0], .slice (some ad) n c2, .int .i64 0, .tuple #[.slice A5 q5 c5, .int .i64 0], .agg #[.string nm, .slice A n c], .tuple #[.slice A5 q5 c5, .int .i64 0], .slice A5 q5 c5, .int .i64 0, .int .i64 0, .bool false, .bool false, .int .i64 0, .bool false, .bool false, .bool false, .slice (some ad) n c2, .int .i64 (n : Int), .pointer (some ⟨w.heap.size, 1, none⟩), .slice A n c, .int .i64 (n : Int), .bool false, .bool false, .int .i64 (k : Int), .pointer (some ⟨w.heap.size, 1, none⟩), .slice A n c, .int .i64 (n : Int), .bool true, u59, u60, .int .i64 (r : Int), .bool true, u63, u64, .slice (some ad) n c2, .int .i64 (k : Int), .pointer (some (ad.add k)), u68, .int .i64 (r : Int), u70, u71, .int .i64 (k : Int), .slice (some ⟨Z1.heap.size, 0, none⟩) 1 1, .int .i64 (r : Int), u75, u76, u77, u78, u79, u80, u81, u82, u83, u84, u85, u86, u87, u88, u89, u90, u91, u92, u93, u94, u95, u96, u97, u98, u99, u100, u101, u102, u103, u104, u105, u106, u107, u108, u109, u110, u111, u112, u113, u114, undef], defers := [] } (Z1.alloc (.cells #[.int .i64 (k : Int)] 3)) := by
            refine (hG _ _ _ _).2 ?_
            refine wpAnyIn_ready (rs := [3, 6]) (by kernel_rfl) (by simp) ?_
            refine AllReadyIn.cons rfl (fun K hK => ?_) (AllReadyIn.cons rfl (fun K hK => ?_) (AllReadyIn.nil))
            · go_simp
              refine hK _ _ ?_
              clear hK K
              (try simp only [Act.put, List.setIfInBounds_toArray, List.set_cons_zero, List.set_cons_succ])
              exact (hG _ _ _ _).1 hs111110011100
            · go_simp
              refine hK _ _ ?_
              clear hK K
              (try simp only [Act.put, List.setIfInBounds_toArray, List.set_cons_zero, List.set_cons_succ])
              exact (hG _ _ _ _).1 hs111010111100
          have hs110010111100 : G 5 #[true, true, false, false, true, false, true, true, true, true, false, false] { tmps := #[.agg #[.string nm, .slice A n c], .pointer (some ⟨w.heap.size, 0, none⟩), u2, .slice A1 q1 c1, .int .i64 0, .slice (some ad) n c2, .int .i64 0, .slice A5 q5 c5, .int .i64 0, .int .i64 (k : Int), .int .i64 (r : Int), u11, u12, u13, u14, u15, .tuple #[.slice A1 q1 c1, .int .i64 0], .agg #[.string nm, .slice A n c], .tuple #[.slice A1 q1 c1, .int .i64 0], .slice A1 q1 c1, .int .i64 0, .pointer (some ⟨w.heap.size, 1, none⟩), .slice A n c, .int .i64 (n : Int), .bool false, .bool false, .int .i64 0, .bool false, .bool false, undef, .tuple #[.slice (some ad) n c2, .int .i64 0], .agg #[.string nm, .slice A n c], .tuple #[.slice (some ad) n c2, .int .i64 0], .slice (some ad) n c2, .int .i64 0, .tuple #[.slice A5 q5 c5, .int .i64 0], .agg #[.string nm, .slice A n c], .tuple #[.slice A5 q5 c5, .int .i64 0], .slice A5 q5 c5, .int .i64 0, .int .i64 0, .bool false, .bool false, .int .i64 0, .bool false, .bool false, .bool false, .slice (some ad) n c2, .int .i64 (n : Int), .pointer (some ⟨w.heap.size, 1, none⟩), .slice A n c, .int .i64 (n : Int), .bool false, .bool false, .int .i64 (k : Int), .pointer (some ⟨w.heap.size, 1, none⟩), .slice A n c, .int .i64 (n : Int), .bool true, u59, u60, .int .i64 (r : Int), .bool true, u63, u64, .slice (some ad) n c2, .int .i64 (k : Int), u67, u68, .int .i64 (r : Int), u70, .agg #[.string nm, .slice A n c], .int .i64 (k : Int), .slice (some ⟨Z1.heap.size, 0, none⟩) 1 1, .int .i64 (r : Int), u75, u76, u77, u78, u79, u80, u81, u82, u83, u84, u85, u86, u87, u88, u89, u90, u91, u92, u93, u94, u95, u96, u97, u98, u99, u100, u101, u102, u103, u104, u105, u106, u107, u108, u109, u110, u111, u112, u113, u114, undef], defers := [] } (Z1.alloc (.cells #[.int .i64 (k : Int)] 3)) := by
            refine (hG _ _ _ _).2 ?_
            refine wpAnyIn_ready (rs := [2]) (by kernel_rfl) (by simp) ?_
            refine AllReadyIn.cons rfl (fun K hK => ?_) (AllReadyIn.nil)
            · go_simp
              refine hK _ _ ?_
              clear hK K
              (try simp only [Act.put, List.setIfInBounds_toArray, List.set_cons_zero, List.set_cons_succ])
              exact (hG _ _ _ _).1 hs111010111100
          have hs111010010100 : G 6 #[true, true, true, false, true, false, false, true, false, true, false, false] { tmps := #[.agg #[.string nm, .slice A n c], .pointer (some ⟨w.heap.size, 0, none⟩), u2, .slice A1 q1 c1, .int .i64 0, .slice (some ad) n c2, .int .i64 0, .slice A5 q5 c5, .int .i64 0, .int .i64 (k : Int), .int .i64 (r : Int), u11, u12, u13, u14, u15, .tuple #[.slice A1 q1 c1, .int .i64 0], .agg #[.string nm, .slice A n c], .tuple #[.slice A1 q1 c1, .int .i64 0], .slice A1 q1 c1, .int .i64 0, .pointer (some ⟨w.heap.size, 1, none⟩), .slice A n c, .int .i64 (n : Int), .bool false, .bool false, .int .i64 0, .bool false, .bool false, undef, .tuple #[.slice (some ad) n c2, .int .i64 0], .agg #[.string nm, .slice A n c], .tuple #[.slice (some ad) n c2, .int .i64 0], .slice (some ad) n c2, .int .i64 0, .tuple #[.slice A5 q5 c5, .int .i64 0], .agg #[.string nm, .slice A n c], .tuple #[.slice A5 q5 c5, .int .i64 0], .slice A5 q5 c5, .int .i64 0, .int .i64 0, .bool false, .bool false, .int .i64 0, .bool false, .bool false, .bool false, .slice (some ad) n c2, .int .i64 (n : Int), .pointer (some ⟨w.heap.size, 1, none⟩), .slice A n c, .int .i64 (n : Int), .bool false, .bool false, .int .i64 (k : Int), .pointer (some ⟨w.heap.size, 1, none⟩), .slice A n c, .int .i64 (n : Int), .bool true, u59, u60, .int .i64 (r : Int), .bool true, u63, u64, .slice (some ad) n c2, .int .i64 (k : Int), .pointer (some (ad.add k)), u68, .int .i64 (r : Int), u70, u71, .int .i64 (k : Int), u73, .int .i64 (r : Int), u75, u76, u77, u78, u79, u80, u81, u82, u83, u84, u85, u86, u87, u88, u89, u90, u91, u92, u93, u94, u95, u96, u97, u98, u99, u100, u101, u102, u103, u104, u105, u106, u107, u108, u109, u110, u111, u112, u113, u114, undef], defers := [] } Z1 := by
            refine (hG _ _ _ _).2 ?_
            refine wpAnyIn_ready (rs := [3, 6, 8]) (by kernel_rfl) (by simp) ?_
            refine AllReadyIn.cons rfl (fun K hK => ?_) (AllReadyIn.cons rfl (fun K hK => ?_) (AllReadyIn.cons rfl (fun K hK => ?_) (AllReadyIn.nil)))
            · go_simp
              refine hK _ _ ?_
              clear hK K
              (try simp only [Act.put, List.setIfInBounds_toArray, List.set_cons_zero, List.set_cons_succ])
              exact (hG _ _ _ _).1 hs111110010100
            · go_simp
              refine hK _ _ ?_
              clear hK K
              (try simp only [Act.put, List.setIfInBounds_toArray, List.set_cons_zero, List.set_cons_succ])
              exact (hG _ _ _ _).1 hs111010110100
            · go_simp
              refine hK _ _ ?_
              clear hK K
              (try simp only [Act.put, List.setIfInBounds_toArray, List.set_cons_zero, List.set_cons_succ])
              exact (hG _ _ _ _).1 hs111010011100
          have hs110010110100 : G 6 #[true, true, false, false, true, false, true, true, false, true, false, false] { tmps := #[.agg #[.string nm, .slice A n c], .pointer (some ⟨w.heap.size, 0, none⟩), u2, .slice A1 q1 c1, .int .i64 0, .slice (some ad) n c2, .int .i64 0, .slice A5 q5 c5, .int .i64 0, .int .i64 (k : Int), .int .i64 (r : Int), u11, u12, u13, u14, u15, .tuple #[.slice A1 q1 c1, .int .i64 0], .agg #[.string nm, .slice A n c], .tuple #[.slice A1 q1 c1, .int .i64 0], .slice A1 q1 c1, .int .i64 0, .pointer (some ⟨w.heap.size, 1, none⟩), .slice A n c, .int .i64 (n : Int), .bool false, .bool false, .int .i64 0, .bool false, .bool false, undef, .tuple #[.slice (some ad) n c2, .int .i64 0], .agg #[.string nm, .slice A n c], .tuple #[.slice (some ad) n c2, .int .i64 0], .slice (some ad) n c2, .int .i64 0, .tuple #[.slice A5 q5 c5, .int .i64 0], .agg #[.string nm, .slice A n c], .tuple #[.slice A5 q5 c5, .int .i64 0], .slice A5 q5 c5, .int .i64 0, .int .i64 0, .bool false, .bool false, .int .i64 0, .bool false, .bool false, .bool false, .slice (some ad) n c2, .int .i64 (n : Int), .pointer (some ⟨w.heap.size, 1, none⟩), .slice A n c, .int .i64 (n : Int), .bool false, .bool false, .int .i64 (k : Int), .pointer (some ⟨w.heap.size, 1, none⟩), .slice A n c, .int .i64 (n : Int), .bool true, u59, u60, .int .i64 (r : Int), .bool true, u63, u64, .slice (some ad) n c2, .int .i64 (k : Int), u67, u68, .int .i64 (r : Int), u70, .agg #[.string nm, .slice A n c], .int .i64 (k : Int), u73, .int .i64 (r : Int), u75, u76, u77, u78, u79, u80, u81, u82, u83, u84, u85, u86, u87, u88, u89, u90, u91, u92, u93, u94, u95, u96, u97, u98, u99, u100, u101, u102, u103, u104, u105, u106, u107, u108, u109, u110, u111, u112, u113, u114, undef], defers := [] } Z1 := by
            refine (hG _ _ _ _).2 ?_
            refine wpAnyIn_ready (rs := [2, 8]) (by kernel_rfl) (by simp) ?_
            refine AllReadyIn.cons rfl (fun K hK => ?_) (AllReadyIn.cons rfl (fun K hK => ?_) (AllReadyIn.nil))
            · go_simp
              refine hK _ _ ?_
              clear hK K
              (try simp only [Act.put, List.setIfInBounds_toArray, List.set_cons_zero, List.set_cons_succ])
              exact (hG _ _ _ _).1 hs111010110100
            · go_simp
              refine hK _ _ ?_
              clear hK K
              (try simp only [Act.put, List.setIfInBounds_toArray, List.set_cons_zero, List.set_cons_succ])
              exact (hG _ _ _ _).1 hs110010111100
          have hs110010011100 : G 6 #[true, true, false, false, true, false, false, true, true, true, false, false] { tmps := #[.agg #[.string nm, .slice A n c], .pointer (some ⟨w.heap.size, 0, none⟩), u2, .slice A1 q1 c1, .int .i64 0, .slice (some ad) n c2, .int .i64 0, .slice A5 q5 c5, .int .i64 0, .int .i64 (k : Int), .int .i64 (r : Int), u11, u12, u13, u14, u15, .tuple #[.slice A1 q1 c1, .int .i64 0], .agg #[.string nm, .slice A n c], .tuple #[.slice A1 q1 c1, .int .i64 0], .slice A1 q1 c1, .int .i64 0, .pointer (some ⟨w.heap.size, 1, none⟩), .slice A n c, .int .i64 (n : Int), .bool false, .bool false, .int .i64 0, .bool false, .bool false, undef, .tuple #[.slice (some ad) n c2, .int .i64 0], .agg #[.string nm, .slice A n c], .tuple #[.slice (some ad) n c2, .int .i64 0], .slice (some ad) n c2, .int .i64 0, .tuple #[.slice A5 q5 c5, .int .i64 0], .agg #[.string nm, .slice A n c], .tuple #[.slice A5 q5 c5, .int .i64 0], .slice A5 q5 c5, .int .i64 0, .int .i64 0, .bool false, .bool false, .int .i64 0, .bool false, .bool false, .bool false, .slice (some ad) n c2, .int .i64 (n : Int), .pointer (some ⟨w.heap.size, 1, none⟩), .slice A n c, .int .i64 (n : Int), .bool false, .bool false, .int .i64 (k : Int), .pointer (some ⟨w.heap.size, 1, none⟩), .slice A n c, .int .i64 (n : Int), .bool true, u59, u60, .int .i64 (r : Int), .bool true, u63, u64, .slice (some ad) n c2, .int .i64 (k : Int), u67, u68, .int .i64 (r : Int), u70, u71, .int .i64 (k : Int), .slice (some ⟨Z1.heap.size, 0, none⟩) 1 1, .int .i64 (r : Int), u75, u76, u77, u78, u79, u80, u81, u82, u83, u84, u85, u86, u87, u88, u89, u90, u91, u92, u93, u94, u95, u96, u97, u98, u99, u100, u101, u102, u103, u104, u105, u106, u107, u108, u109, u110, u111, u112, u113, u114, undef], defers := [] } (Z1.alloc (.cells #[.int .i64 (k : Int)] 3)) := by
            refine (hG _ _ _ _).2 ?_
            refine wpAnyIn_ready (rs := [2, 6]) (by kernel_rfl) (by simp) ?_
            refine AllReadyIn.cons rfl (fun K hK => ?_) (AllReadyIn.cons rfl (fun K hK => ?_) (AllReadyIn.nil))
            · go_simp
              refine hK _ _ ?_
              clear hK K
              (try simp only [Act.put, List.setIfInBounds_toArray, List.set_cons_zero, List.set_cons_succ])
              exact (hG _ _ _ _).1 hs111010011100
            · go_simp
              refine hK _ _ ?_
              clear hK K
              (try simp only [Act.put, List.setIfInBounds_toArray, List.set_cons_zero, List.set_cons_succ])
              exact (hG _ _ _ _).1 hs110010111100
          have hs110010010100 : G 7 #[true, true, false, false, true, false, false, true, false, true, false, false] { tmps := #[.agg #[.string nm, .slice A n c], .pointer (some ⟨w.heap.size, 0, none⟩), u2, .slice A1 q1 c1, .int .i64 0, .slice (some ad) n c2, .int .i64 0, .slice A5 q5 c5, .int .i64 0, .int .i64 (k : Int), .int .i64 (r : Int), u11, u12, u13, u14, u15, .tuple #[.slice A1 q1 c1, .int .i64 0], .agg #[.string nm, .slice A n c], .tuple #[.slice A1 q1 c1, .int .i64 0], .slice A1 q1 c1, .int .i64 0, .pointer (some ⟨w.heap.size, 1, none⟩), .slice A n c, .int .i64 (n : Int), .bool false, .bool false, .int .i64 0, .bool false, .bool false, undef, .tuple #[.slice (some ad) n c2, .int .i64 0], .agg #[.string nm, .slice A n c], .tuple #[.slice (some ad) n c2, .int .i64 0], .slice (some ad) n c2, .int .i64 0, .tuple #[.slice A5 q5 c5, .int .i64 0], .agg #[.string nm, .slice A n c], .tuple #[.slice A5 q5 c5, .int .i64 0], .slice A5 q5 c5, .int .i64 0, .int .i64 0, .bool false, .bool false, .int .i64 0, .bool false, .bool false, .bool false, .slice (some ad) n c2, .int .i64 (n : Int), .pointer (some ⟨w.heap.size, 1, none⟩), .slice A n c, .int .i64 (n : Int), .bool false, .bool false, .int .i64 (k : Int), .pointer (some ⟨w.heap.size, 1, none⟩), .slice A n c, .int .i64 (n : Int), .bool true, u59, u60, .int .i64 (r : Int), .bool true, u63, u64, .slice (some ad) n c2, .int .i64 (k : Int), u67, u68, .int .i64 (r : Int), u70, u71, .int .i64 (k : Int), u73, .int .i64 (r : Int), u75, u76, u77, u78, u79, u80, u81, u82, u83, u84, u85, u86, u87, u88, u89, u90, u91, u92, u93, u94, u95, u96, u97, u98, u99, u100, u101, u102, u103, u104, u105, u106, u107, u108, u109, u110, u111, u112, u113, u114, undef], defers := [] } Z1 := by
            refine (hG _ _ _ _).2 ?_
            refine wpAnyIn_ready (rs := [2, 6, 8]) (by kernel_rfl) (by simp) ?_
            refine AllReadyIn.cons rfl (fun K hK => ?_) (AllReadyIn.cons rfl (fun K hK => ?_) (AllReadyIn.cons rfl (fun K hK => ?_) (AllReadyIn.nil)))
            · go_simp
              refine hK _ _ ?_
              clear hK K
              (try simp only [Act.put, List.setIfInBounds_toArray, List.set_cons_zero, List.set_cons_succ])
              exact (hG _ _ _ _).1 hs111010010100
            · go_simp
              refine hK _ _ ?_
              clear hK K
              (try simp only [Act.put, List.setIfInBounds_toArray, List.set_cons_zero, List.set_cons_succ])
              exact (hG _ _ _ _).1 hs110010110100
            · go_simp
              refine hK _ _ ?_
              clear hK K
              (try simp only [Act.put, List.setIfInBounds_toArray, List.set_cons_zero, List.set_cons_succ])
              exact (hG _ _ _ _).1 hs110010011100
          have hs110010010000 : G 8 #[true, true, false, false, true, false, false, true, false, false, false, false] { tmps := #[.agg #[.string nm, .slice A n c], .pointer (some ⟨w.heap.size, 0, none⟩), u2, .slice A1 q1 c1, .int .i64 0, .slice (some ad) n c2, .int .i64 0, .slice A5 q5 c5, .int .i64 0, .int .i64 (k : Int), .int .i64 (r : Int), u11, u12, u13, u14, u15, .tuple #[.slice A1 q1 c1, .int .i64 0], .agg #[.string nm, .slice A n c], .tuple #[.slice A1 q1 c1, .int .i64 0], .slice A1 q1 c1, .int .i64 0, .pointer (some ⟨w.heap.size, 1, none⟩), .slice A n c, .int .i64 (n : Int), .bool false, .bool false, .int .i64 0, .bool false, .bool false, undef, .tuple #[.slice (some ad) n c2, .int .i64 0], .agg #[.string nm, .slice A n c], .tuple #[.slice (some ad) n c2, .int .i64 0], .slice (some ad) n c2, .int .i64 0, .tuple #[.slice A5 q5 c5, .int .i64 0], .agg #[.string nm, .slice A n c], .tuple #[.slice A5 q5 c5, .int .i64 0], .slice A5 q5 c5, .int .i64 0, .int .i64 0, .bool false, .bool false, .int .i64 0, .bool false, .bool false, .bool false, .slice (some ad) n c2, .int .i64 (n : Int), .pointer (some ⟨w.heap.size, 1, none⟩), .slice A n c, .int .i64 (n : Int), .bool false, .bool false, .int .i64 (k : Int), .pointer (some ⟨w.heap.size, 1, none⟩), .slice A n c, .int .i64 (n : Int), .bool true, u59, u60, .int .i64 (r : Int), .bool true, u63, u64, .slice (some ad) n c2, .int .i64 (k : Int), u67, u68, .int .i64 (r : Int), u70, u71, .int .i64 (k : Int), u73, u74, u75, u76, u77, u78, u79, u80, u81, u82, u83, u84, u85, u86, u87, u88, u89, u90, u91, u92, u93, u94, u95, u96, u97, u98, u99, u100, u101, u102, u103, u104, u105, u106, u107, u108, u109, u110, u111, u112, u113, u114, undef], defers := [] } Z1 := by
            refine (hG _ _ _ _).2 ?_
            refine wpAnyIn_take (i := 9) (v := .int .i64 (r : Int)) rfl rfl (by kernel_rfl) (by kernel_rfl) (by kernel_rfl) (fun _ _ _ h => h) (And.intro (Or.inl (And.intro (by kernel_rfl) (fun _ => by kernel_rfl))) (fun _ => by kernel_rfl)) ?_
            (try simp only [Act.put, List.setIfInBounds_toArray, List.set_cons_zero, List.set_cons_succ])
            exact (hG _ _ _ _).1 hs110010010100
          have hs110010000000 : G 9 #[true, true, false, false, true, false, false, false, false, false, false, false] { tmps := #[.agg #[.string nm, .slice A n c], .pointer (some ⟨w.heap.size, 0, none⟩), u2, .slice A1 q1 c1, .int .i64 0, .slice (some ad) n c2, .int .i64 0, .slice A5 q5 c5, .int .i64 0, .int .i64 (k : Int), .int .i64 (r : Int), u11, u12, u13, u14, u15, .tuple #[.slice A1 q1 c1, .int .i64 0], .agg #[.string nm, .slice A n c], .tuple #[.slice A1 q1 c1, .int .i64 0], .slice A1 q1 c1, .int .i64 0, .pointer (some ⟨w.heap.size, 1, none⟩), .slice A n c, .int .i64 (n : Int), .bool false, .bool false, .int .i64 0, .bool false, .bool false, undef, .tuple #[.slice (some ad) n c2, .int .i64 0], .agg #[.string nm, .slice A n c], .tuple #[.slice (some ad) n c2, .int .i64 0], .slice (some ad) n c2, .int .i64 0, .tuple #[.slice A5 q5 c5, .int .i64 0], .agg #[.string nm, .slice A n c], .tuple #[.slice A5 q5 c5, .int .i64 0], .slice A5 q5 c5, .int .i64 0, .int .i64 0, .bool false, .bool false, .int .i64 0, .bool false, .bool false, .bool false, .slice (some ad) n c2, .int .i64 (n : Int), .pointer (some ⟨w.heap.size, 1, none⟩), .slice A n c, .int .i64 (n : Int), .bool false, .bool false, .int .i64 (k : Int), .pointer (some ⟨w.heap.size, 1, none⟩), .slice A n c, .int .i64 (n : Int), .bool true, u59, u60, .int .i64 (r : Int), .bool true, u63, u64, .slice (some ad) n c2, .int .i64 (k : Int), u67, u68, .int .i64 (r : Int), u70, u71, u72, u73, u74, u75, u76, u77, u78, u79, u80, u81, u82, u83, u84, u85, u86, u87, u88, u89, u90, u91, u92, u93, u94, u95, u96, u97, u98, u99, u100, u101, u102, u103, u104, u105, u106, u107, u108, u109, u110, u111, u112, u113, u114, undef], defers := [] } Z1 := by
            refine (hG _ _ _ _).2 ?_
            refine wpAnyIn_take (i := 7) (v := .int .i64 (k : Int)) rfl rfl (by kernel_rfl) (by kernel_rfl) (by kernel_rfl) (fun _ _ _ h => h) (And.intro (Or.inl (And.intro (by kernel_rfl) (fun _ => by kernel_rfl))) (fun _ => by kernel_rfl)) ?_
            (try simp only [Act.put, List.setIfInBounds_toArray, List.set_cons_zero, List.set_cons_succ])
            exact (hG _ _ _ _).1 hs110010010000
          have hs110000000000 : G 10 #[true, true, false, false, false, false, false, false, false, false, false, false] { tmps := #[.agg #[.string nm, .slice A n c], .pointer (some ⟨w.heap.size, 0, none⟩), u2, .slice A1 q1 c1, .int .i64 0, .slice (some ad) n c2, .int .i64 0, .slice A5 q5 c5, .int .i64 0, .int .i64 (k : Int), .int .i64 (r : Int), u11, u12, u13, u14, u15, .tuple #[.slice A1 q1 c1, .int .i64 0], .agg #[.string nm, .slice A n c], .tuple #[.slice A1 q1 c1, .int .i64 0], .slice A1 q1 c1, .int .i64 0, .pointer (some ⟨w.heap.size, 1, none⟩), .slice A n c, .int .i64 (n : Int), .bool false, .bool false, .int .i64 0, .bool false, .bool false, undef, .tuple #[.slice (some ad) n c2, .int .i64 0], .agg #[.string nm, .slice A n c], .tuple #[.slice (some ad) n c2, .int .i64 0], .slice (some ad) n c2, .int .i64 0, .tuple #[.slice A5 q5 c5, .int .i64 0], .agg #[.string nm, .slice A n c], .tuple #[.slice A5 q5 c5, .int .i64 0], .slice A5 q5 c5, .int .i64 0, .int .i64 0, .bool false, .bool false, .int .i64 0, .bool false, .bool false, .bool false, .slice (some ad) n c2, .int .i64 (n : Int), .pointer (some ⟨w.heap.size, 1, none⟩), .slice A n c, .int .i64 (n : Int), .bool false, .bool false, .int .i64 (k : Int), .pointer (some ⟨w.heap.size, 1, none⟩), .slice A n c, .int .i64 (n : Int), .bool true, u59, u60, .int .i64 (r : Int), .bool true, u63, u64, .slice (some ad) n c2, .int .i64 (k : Int), u67, u68, u69, u70, u71, u72, u73, u74, u75, u76, u77, u78, u79, u80, u81, u82, u83, u84, u85, u86, u87, u88, u89, u90, u91, u92, u93, u94, u95, u96, u97, u98, u99, u100, u101, u102, u103, u104, u105, u106, u107, u108, u109, u110, u111, u112, u113, u114, undef], defers := [] } Z1 := by
            refine (hG _ _ _ _).2 ?_
            refine wpAnyIn_take (i := 4) (v := .int .i64 (r : Int)) rfl rfl (by kernel_rfl) (by kernel_rfl) (by kernel_rfl) (fun _ _ _ h => h) (And.intro (Or.inl (And.intro (by kernel_rfl) (fun _ => by kernel_rfl))) (fun _ => by kernel_rfl)) ?_
            (try simp only [Act.put, List.setIfInBounds_toArray, List.set_cons_zero, List.set_cons_succ])
            exact (hG _ _ _ _).1 hs110010000000
          have hs100000000000 : G 11 #[true, false, false, false, false, false, false, false, false, false, false, false] { tmps := #[.agg #[.string nm, .slice A n c], .pointer (some ⟨w.heap.size, 0, none⟩), u2, .slice A1 q1 c1, .int .i64 0, .slice (some ad) n c2, .int .i64 0, .slice A5 q5 c5, .int .i64 0, .int .i64 (k : Int), .int .i64 (r : Int), u11, u12, u13, u14, u15, .tuple #[.slice A1 q1 c1, .int .i64 0], .agg #[.string nm, .slice A n c], .tuple #[.slice A1 q1 c1, .int .i64 0], .slice A1 q1 c1, .int .i64 0, .pointer (some ⟨w.heap.size, 1, none⟩), .slice A n c, .int .i64 (n : Int), .bool false, .bool false, .int .i64 0, .bool false, .bool false, undef, .tuple #[.slice (some ad) n c2, .int .i64 0], .agg #[.string nm, .slice A n c], .tuple #[.slice (some ad) n c2, .int .i64 0], .slice (some ad) n c2, .int .i64 0, .tuple #[.slice A5 q5 c5, .int .i64 0], .agg #[.string nm, .slice A n c], .tuple #[.slice A5 q5 c5, .int .i64 0], .slice A5 q5 c5, .int .i64 0, .int .i64 0, .bool false, .bool false, .int .i64 0, .bool false, .bool false, .bool false, .slice (some ad) n c2, .int .i64 (n : Int), .pointer (some ⟨w.heap.size, 1, none⟩), .slice A n c, .int .i64 (n : Int), .bool false, .bool false, .int .i64 (k : Int), .pointer (some ⟨w.heap.size, 1, none⟩), .slice A n c, .int .i64 (n : Int), .bool true, u59, u60, .int .i64 (r : Int), .bool true, u63, u64, .slice (some ad) n c2, u66, u67, u68, u69, u70, u71, u72, u73, u74, u75, u76, u77, u78, u79, u80, u81, u82, u83, u84, u85, u86, u87, u88, u89, u90, u91, u92, u93, u94, u95, u96, u97, u98, u99, u100, u101, u102, u103, u104, u105, u106, u107, u108, u109, u110, u111, u112, u113, u114, undef], defers := [] } Z1 := by
            refine (hG _ _ _ _).2 ?_
            refine wpAnyIn_take (i := 1) (v := .int .i64 (k : Int)) rfl rfl (by kernel_rfl) (by kernel_rfl) (by kernel_rfl) (fun _ _ _ h => h) (And.intro (Or.inl (And.intro (by kernel_rfl) (fun _ => by kernel_rfl))) (fun _ => by kernel_rfl)) ?_
            (try simp only [Act.put, List.setIfInBounds_toArray, List.set_cons_zero, List.set_cons_succ])
            exact (hG _ _ _ _).1 hs110000000000
          have hs000000000000 : G 12 #[false, false, false, false, false, false, false, false, false, false, false, false] { tmps := #[.agg #[.string nm, .slice A n c], .pointer (some ⟨w.heap.size, 0, none⟩), u2, .slice A1 q1 c1, .int .i64 0, .slice (some ad) n c2, .int .i64 0, .slice A5 q5 c5, .int .i64 0, .int .i64 (k : Int), .int .i64 (r : Int), u11, u12, u13, u14, u15, .tuple #[.slice A1 q1 c1, .int .i64 0], .agg #[.string nm, .slice A n c], .tuple #[.slice A1 q1 c1, .int .i64 0], .slice A1 q1 c1, .int .i64 0, .pointer (some ⟨w.heap.size, 1, none⟩), .slice A n c, .int .i64 (n : Int), .bool false, .bool false, .int .i64 0, .bool false, .bool false, undef, .tuple #[.slice (some ad) n c2, .int .i64 0], .agg #[.string nm, .slice A n c], .tuple #[.slice (some ad) n c2, .int .i64 0], .slice (some ad) n c2, .int .i64 0, .tuple #[.slice A5 q5 c5, .int .i64 0], .agg #[.string nm, .slice A n c], .tuple #[.slice A5 q5 c5, .int .i64 0], .slice A5 q5 c5, .int .i64 0, .int .i64 0, .bool false, .bool false, .int .i64 0, .bool false, .bool false, .bool false, .slice (some ad) n c2, .int .i64 (n : Int), .pointer (some ⟨w.heap.size, 1, none⟩), .slice A n c, .int .i64 (n : Int), .bool false, .bool false, .int .i64 (k : Int), .pointer (some ⟨w.heap.size, 1, none⟩), .slice A n c, .int .i64 (n : Int), .bool true, u59, u60, .int .i64 (r : Int), .bool true, u63, u64, u65, u66, u67, u68, u69, u70, u71, u72, u73, u74, u75, u76, u77, u78, u79, u80, u81, u82, u83, u84, u85, u86, u87, u88, u89, u90, u91, u92, u93, u94, u95, u96, u97, u98, u99, u100, u101, u102, u103, u104, u105, u106, u107, u108, u109, u110, u111, u112, u113, u114, undef], defers := [] } Z1 := by
            refine (hG _ _ _ _).2 ?_
            refine wpAnyIn_take (i := 0) (v := .slice (some ad) n c2) rfl rfl (by kernel_rfl) (by kernel_rfl) (by kernel_rfl) (fun _ _ _ h => h) (And.intro (Or.inl (And.intro (by kernel_rfl) (fun _ => by kernel_rfl))) (fun _ => by kernel_rfl)) ?_
            (try simp only [Act.put, List.setIfInBounds_toArray, List.set_cons_zero, List.set_cons_succ])
            exact (hG _ _ _ _).1 hs100000000000
          exact hs000000000000
        · obtain rfl : r = 8 := by omega
          obtain ⟨m0, m1⟩ := HKW.out wr HBo.out
          have hb5 := belowThen HB.out HBo.out
          have hbw := belowThen HB5.out hb5
          have HBW5 := Lib.hid hb5
          have HBWW := Lib.hid hbw
          have hnx := nxAtL HHC.out HN.out hkn
          have HNC := HNX.out k wr hbw
          rw [hnx.1, hnx.2] at HNC
          have HNC := Lib.hid HNC
          clear hnx hb5 hbw
          gi_wp2_with fail
          refine ⟨trivial, (callsIn_wide.2 HNC.out).mono ?_⟩
          rintro e w6 ⟨A6, c6, rfl, r6, b6⟩
          obtain ⟨m6, hm6⟩ : ∃ m6, (scS C k).length = m6 := ⟨_, rfl⟩
          rw [hm6]
          have HM6 := Lib.hid hm6
          have HB6 := Lib.hid (belowThen HBWW.out b6)
          have HS6 := Lib.hid (belowThen HBW5.out b6)
          have HR6 := Lib.hid r6
          clear r6 b6 hm6 m0 m1
          obtain ⟨m0, m1⟩ := HK.out w6 HB6.out
          obtain ⟨q, off, hA, _, hEI⟩ := ((HCD.out w6 HB6.out).rd).one hkC
          obtain ⟨ii, hii⟩ : ∃ ii, C[k] = ii := ⟨_, rfl⟩
          have hgd := getDAt hkC
          have hdg := dfRg (cfOk HHC.out) hkC
          have HEI := Lib.hid (fun X (hX : Below W.heap.size W X) => ((HCD.out X hX).rd).one hkC)
          obtain ⟨d, hd⟩ : ∃ d, deB C k = d := ⟨_, rfl⟩
          have HHD := Lib.hid (fun X (hX : Below w5.heap.size w5 X) => by
            have h := rHas (deL C n) (k : Int) d (by rw [memDe hkn]; exact hd) A5 c5 X (HR5.out X hX)
            rw [HQ5.out] at h
            exact h)
          unfold deB at hd
          rw [hgd, hii] at hd
          rw [hii] at hEI HEI hdg
          clear hgd hii
          subst hA
          obtain ⟨op, ra, rb, rc, obj, m, fn, ord⟩ := ii
          obtain ⟨i0, i1, i2, i3, i4, i5, i6, i7⟩ := hEI
          simp only at i0 i1 i2 i3 i4 i5 i6 i7 hd
          obtain ⟨R, hR⟩ : ∃ R, (I8.mk8 op ra rb rc obj m fn ord).dfR = R := ⟨_, rfl⟩
          obtain ⟨p, hp⟩ : ∃ p, (I8.mk8 op ra rb rc obj m fn ord).dfB = p := ⟨_, rfl⟩
          obtain ⟨vi, hvi⟩ : ∃ vi, visL op = vi := ⟨_, rfl⟩
          have HDE := Lib.hid (rDefs (I8.mk8 op ra rb rc obj m fn ord) R p hR hp w6)
          have HVI := Lib.hid (fun X => rVisM op vi hvi X)
          rw [hR, hp, hvi] at hd
          rw [hR, hp] at hdg
          clear hR hp hvi
          gi_wp2_with fail
          refine ⟨trivial, (callsIn_wide.2 HDE.out).mono ?_⟩
          rintro e w7 ⟨rfl, b7⟩
          have HB7 := Lib.hid (belowThen HB6.out b7)
          have HS7 := Lib.hid (belowThen HS6.out b7)
          have HR7 := Lib.hid (Rd.below HR6.out b7)
          clear b7 m0 m1 i0 i1 i2 i3 i4 i5 i6 i7
          obtain ⟨m0, m1⟩ := HK.out w7 HB7.out
          obtain ⟨q', off', hA', _, hEI⟩ := HEI.out w7 HB7.out
          injection hA' with hA'
          injection hA' with hA1 hA2
          subst hA1
          subst hA2
          obtain ⟨i0, i1, i2, i3, i4, i5, i6, i7⟩ := hEI
          simp only at i0 i1 i2 i3 i4 i5 i6 i7
          cases p with
          | false =>
            obtain rfl : d = false := by rw [← hd]; rfl
            gi_wp2_with fail
            refine ⟨trivial, ?_⟩
            gi_wp2_with fail
            refine ⟨trivial, ?_⟩
            gi_wp2_with fail
            refine ⟨trivial, (callsIn_wide.2 (HHD.out _ HS7.out)).mono ?_⟩
            rintro e X9 ⟨rfl, rfl⟩
            gi_wp2
            go_roundw
            case rel => exact ⟨k + 1, by omega, by go_num, HS7⟩
            case measure => simp [intOf]; omega
          | true =>
            gi_wp2_with fail
            refine ⟨trivial, (callsIn_wide.2 (HVI.out _)).mono ?_⟩
            rintro e w8 ⟨rfl, rfl⟩
            cases vi with
            | true =>
              obtain rfl : d = false := by rw [← hd]; rfl
              gi_wp2_with fail
              refine ⟨trivial, ?_⟩
              gi_wp2_with fail
              refine ⟨trivial, (callsIn_wide.2 (HHD.out _ HS7.out)).mono ?_⟩
              rintro e X9 ⟨rfl, rfl⟩
              gi_wp2
              go_roundw
              case rel => exact ⟨k + 1, by omega, by go_num, HS7⟩
              case measure => simp [intOf]; omega
            | false =>
              have HFF := HFI.out HHC.out (scM C k) (fun s hs => by have := (scLe (cfOk HHC.out) (scMMem.1 hs)).2; have := HN.out; omega) (by unfold scM; rw [List.length_map]; have := scSLen (C := C) (k := k); omega) m6 (by unfold scM; rw [List.length_map]; exact HM6.out) R true (fun _ => by first | exact hdg rfl | exact hdg trivial) A6 c6 w7 HB7.out (by rw [scMMap]; exact HR7.out)
              rw [fdNext] at HFF
              obtain ⟨lv, hlv⟩ : ∃ lv, anyB C true k R = lv := ⟨_, rfl⟩
              rw [hlv] at HFF hd
              have HFF := Lib.hid HFF
              clear hlv
              gi_wp2_with fail
              refine ⟨trivial, (callsIn_wide.2 HFF.out).mono ?_⟩
              rintro e w9 ⟨rfl, b9⟩
              have HS9 := Lib.hid (belowThen HS7.out b9)
              clear b9
              cases lv with
              | true =>
                obtain rfl : d = false := by rw [← hd]; rfl
                gi_wp2_with fail
                refine ⟨trivial, (callsIn_wide.2 (HHD.out _ HS9.out)).mono ?_⟩
                rintro e X9 ⟨rfl, rfl⟩
                gi_wp2
                go_roundw
                case rel => exact ⟨k + 1, by omega, by go_num, HS9⟩
                case measure => simp [intOf]; omega
              | false =>
                obtain rfl : d = true := by rw [← hd]; rfl
                gi_wp2_with fail
                refine ⟨trivial, (callsIn_wide.2 (HHD.out _ HS9.out)).mono ?_⟩
                rintro e X9 ⟨rfl, rfl⟩
                gi_wp2
                go_roundw
                case rel => exact ⟨k + 1, by omega, by go_num, HS9⟩
                case measure => simp [intOf]; omega
    · obtain rfl : k = n := by omega
      have HX2 := Lib.hid (HEX.out wr hbw)
      clear hbw
      gi_wp2_with fail
      refine ⟨trivial, (callsIn_wide.2 HX2.out).mono ?_⟩
      rintro e w9 ⟨rfl, b9⟩
      gi_wp2
      go_ret
      exact ⟨rfl, belowThen HBW.out (belowThen (belowThen HB5.out HB.out) b9)⟩
end Go.Proofs.YtjdimlofdblgdaaDoor
