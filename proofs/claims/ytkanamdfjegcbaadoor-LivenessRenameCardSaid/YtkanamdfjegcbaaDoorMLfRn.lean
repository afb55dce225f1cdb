/-
  The law LivenessRename returns true for every function and number, where the tables are laid.
-/
import Derived.Test.YtkanamdfjegcbaaDoorMLfY
import Derived.Test.YtkanamdfjegcbaaDoorMLf4
import Derived.Test.YtkanamdfjegcbaaDoorMLfO
namespace Go.Proofs.YtkanamdfjegcbaaDoor
open Go Go.RowKit Go.Shelf
attribute [local go_sem] Oper.semAt_some

theorem renWf {C : List I8} (hc : cfE C = 0) {f : Int → Int} (hf : MapOk f) (h : ∀ i ∈ C, i.Wf) : ∀ i ∈ renC C f, i.Wf := fun i hi => by
  obtain ⟨j, hj, rfl⟩ := List.mem_map.1 hi
  have hg := (I8.good ((cfOk hc).chk j hj)).ren hf
  have hw := h j hj
  have sm : ∀ n : Int, 0 ≤ n ∧ n < 8 → In64 n := fun n h => ⟨by omega, by omega⟩
  exact { hw with a := sm _ hg.a, b := sm _ hg.b, c := sm _ hg.c }
set_option maxRecDepth 100000 in
set_option maxHeartbeats 40000000 in
set_option linter.unusedSimpArgs false in
theorem lawRename (nm : ByteArray) (C : List I8) (n : Nat) (hn : C.length = n) (A : Option Addr) (c : Nat) (m : Nat) (hm : m < 256) (w : World) (h : CdW w A c C) :
    Calls Tryd.prog 5 #[fnV nm A n c, .int .u8 (m : Int)] w (LawOkL w) := by
  obtain ⟨W, hW⟩ : ∃ W, w.alloc (.cells #[.string nm, .slice A n c] 24) = W := ⟨_, rfl⟩
  have hbW : Below w.heap.size w W := by rw [← hW]; exact belowAlloc w _
  have hB : Blk W w.heap.size 24 #[.string nm, .slice A n c] := by rw [← hW]; exact Blk.new w _ _
  have k0 : W.cell? ⟨w.heap.size, 0, none⟩ = some (.string nm) := hB.cell 0
  have k1 : W.cell? ⟨w.heap.size, 1, none⟩ = some (.slice A n c) := hB.cell 1
  have HK := Lib.hid (fun X (hX : Below W.heap.size W X) => (⟨(hB.below' hX).cell 0, (hB.below' hX).cell 1⟩ : X.cell? ⟨w.heap.size, 0, none⟩ = some (.string nm) ∧ X.cell? ⟨w.heap.size, 1, none⟩ = some (.slice A n c)))
  have hcd := h.below hbW
  have HCD := Lib.hid (fun X (hX : Below W.heap.size W X) => hcd.below hX)
  have HEX := Lib.hid (fun X (hX : Below W.heap.size W X) => awakeL X (hcd.ld.below hX))
  have HRE := Lib.hid (rReach nm C n hn A c W hcd)
  have HBE := Lib.hid (fun X (hX : Below W.heap.size W X) => iBeforeL nm C n hn A c X (hcd.below hX))
  have HDD := Lib.hid (fun X (hX : Below W.heap.size W X) => iDead nm C n hn A c X (hcd.below hX))
  have HPP := Lib.hid (fun X (hX : Below W.heap.size W X) => iPressure nm C n hn A c X (hcd.below hX))
  have HW := Lib.hid hW
  have HBW := Lib.hid hbW
  have HN := Lib.hid hn
  have hle := h.rd.le
  have hmx := h.rd.max
  rw [hn] at hle
  unfold maxLen at hmx
  unfold fnV at HRE HBE HDD HPP ⊢
  clear h hB hW hbW hcd hn
  refine (callsIn_wide (n := 7)).1 ?_
  refine callsIn_of_wp Tryd.func5 rfl trivial ?_ rfl
  simp only [Tryd.ntmps5, List.size_toArray, List.length_cons, List.length_nil, Nat.reduceAdd, Nat.reduceSub, Array.replicate_succ, Array.replicate_zero, List.push_toArray, List.append_toArray, List.nil_append, List.cons_append]
  gi_wp2_with fail
  rw [HW.out]
  refine ⟨trivial, (callsIn_wide.2 HRE.out).mono ?_⟩
  rintro e w1 ⟨A1, c1, rfl, _, b1⟩
  obtain ⟨q1, hq1⟩ : ∃ q1, (rhR C).length = q1 := ⟨_, rfl⟩
  rw [hq1]
  have HB1 := Lib.hid b1
  obtain ⟨m0, m1⟩ := HK.out w1 b1
  have HX1 := Lib.hid (HEX.out w1 b1)
  clear b1 k0 k1 hq1
  by_cases hbig : 30 < n
  · have d1 : decide ((30 : Int) < (n : Int)) = true := decide_eq_true (by omega)
    gi_wp2_with fail
    all_goals first
      | (exfalso; omega)
      | skip
    refine ⟨trivial, (callsIn_wide.2 HX1.out).mono ?_⟩
    rintro e w2 ⟨rfl, b2⟩
    gi_wp2
    go_ret
    exact ⟨rfl, belowThen HBW.out (belowThen HB1.out b2)⟩
  have d1 : decide ((30 : Int) < (n : Int)) = false := decide_eq_false (by omega)
  by_cases hc : cfE C = 0
  rotate_left
  · have hne : (cfE C != 0) = true := by simpa using hc
    gi_wp2_with fail
    all_goals first
      | (exfalso; omega)
      | skip
    refine ⟨trivial, (callsIn_wide.2 HX1.out).mono ?_⟩
    rintro e w2 ⟨rfl, b2⟩
    gi_wp2
    go_ret
    exact ⟨rfl, belowThen HBW.out (belowThen HB1.out b2)⟩
  have HHC := Lib.hid hc
  rw [hc]
  clear hc
  have HB1a : Hid (Below w1.heap.size w1 (w1.alloc (.cells #[] 3))) := Lib.hid (belowAlloc w1 _)
  have HT0 : Hid (OwnQ (w1.alloc (.cells #[] 3)) w1.heap.size (.slice (some ⟨w1.heap.size, 0, none⟩) 0 0) (toL m 0)) := Lib.hid (OwnQ.ofOwn (show OwnI (w1.alloc (.cells #[] 3)) w1.heap.size (.slice (some ⟨w1.heap.size, 0, none⟩) 0 0) [] from ⟨rfl, .inr ⟨w1.heap.size, 0, #[], rfl, Nat.le_refl _, heap_alloc_new w1 _, Nat.le_refl _, by unfold maxLen; omega, rfl, rfl⟩⟩))
  gi_wp2_with fail
  all_goals first
    | (exfalso; omega)
    | skip
  gi_loopw [7, 8] (fun v i X => ∃ k : Nat, k ≤ 8 ∧ i = .int .i64 k ∧ Hid (OwnQ X w1.heap.size v (toL m k)) ∧ Hid (Below w1.heap.size w1 X)) (fun _ i _ => 8 - (intOf i).toNat)
  case atStart => exact ⟨0, Nat.zero_le _, rfl, HT0, HB1a⟩
  case round =>
    clear HT0 HB1a
    obtain ⟨k, hk, rfl, HT, HB⟩ := hrel
    by_cases hk8 : k < 8
    · have hk0 : (0 : Int) ≤ k := by omega
      have hk1 : (k : Int) < 8 := by omega
      have hrem : Int.tmod ((k : Int) + (m : Int)) 8 = (((k + m) % 8 : Nat) : Int) := by
        rw [Int.tmod_eq_emod_of_nonneg (by omega)]
        omega
      obtain ⟨x, hx⟩ : ∃ x : Int, (((k + m) % 8 : Nat) : Int) = x := ⟨_, rfl⟩
      have HX := Lib.hid hx
      rw [hx] at hrem
      obtain ⟨v', w', hrun, hto⟩ := runQ (wr.alloc (.cells #[.int .i64 x] 3)) 34 w1.heap.size u7 (toL m k) (HT.out.below (belowAlloc wr _)) (some ⟨wr.heap.size, 0, none⟩) 1 1 [x] rfl (Rd.lit wr [x] 3 (by simp)) (by rw [toLLen]; omega) (by have := HB.out.size; simp; omega)
      have HTO := Lib.hid hto
      clear hto hx
      gi_wp2_with (gi_at_builtin; refine wpListIn_app9 _ rfl (.tmp 47) (.tmp 53) 34 rfl rfl rfl hrun ?_)
      obtain ⟨ho, hc, _⟩ := HTO.out
      have hlt := fun g => (HT.out.below (belowAlloc wr (.cells #[.int .i64 x] 3))).lt (g := g)
      have HF : Hid (OwnQ w' w1.heap.size v' (toL m (k + 1))) := Lib.hid (by rw [toLNext, HX.out]; exact ho)
      have HG : Hid (Below w1.heap.size w1 w') := Lib.hid (by
        have h1 : Below w1.heap.size w1 (wr.alloc (.cells #[.int .i64 x] 3)) := HB.out.alloc HB.out.size _
        exact ⟨hc.os.trans h1.os, hc.tape.trans h1.tape, hc.output.trans h1.output, Nat.le_trans h1.size hc.size, fun q hq => (hc.block q (Nat.lt_of_lt_of_le hq h1.size) fun e => by have := (hlt _ e).1; omega).trans (h1.block q hq)⟩)
      clear ho hc hlt
      go_roundw
      case rel => exact ⟨k + 1, by omega, by go_num, HF, HG⟩
      case measure => simp [intOf]; omega
    · obtain rfl : k = 8 := by omega
      obtain ⟨A7, c7, rfl, r7, _⟩ := HT.out.rd
      rw [toLLen]
      obtain ⟨wo, hwo⟩ : ∃ wo, wr = wo := ⟨_, rfl⟩
      rw [hwo] at HB r7 ⊢
      have HBo := Lib.hid (belowThen HB1.out HB.out)
      have HR7 := Lib.hid (fun X (hX : Below wo.heap.size wo X) => Rd.below r7 hX)
      have h7c := r7.le
      have h7m := r7.max
      rw [toLLen] at h7c
      unfold maxLen at h7m
      clear hwo r7 HT
      obtain ⟨m0, m1⟩ := HK.out wo HBo.out
      have HV0 : Hid (Blk (wo.alloc (.cells #[.string nm, .slice none 0 0] 24)) wo.heap.size 24 #[.string nm, .slice none 0 0]) := Lib.hid (Blk.new wo _ _)
      have HC0 : Hid (OwnC8 (wo.alloc (.cells #[.string nm, .slice none 0 0] 24)) (wo.heap.size + 1) (.slice none 0 0) ((renC C (mpL (toL m 8))).take 0)) := Lib.hid (OwnC8.nil _ _)
      have HA0 := Lib.hid (belowAlloc wo (.cells #[.string nm, .slice none 0 0] 24))
      gi_wp2_with fail
      clear m0 m1
      gi_loopw [10] (fun i X => ∃ (k : Nat) (v : Value), k ≤ n ∧ i = .int .i64 k ∧ Hid (Blk X wo.heap.size 24 #[.string nm, v]) ∧ Hid (OwnC8 X (wo.heap.size + 1) v ((renC C (mpL (toL m 8))).take k)) ∧ Hid (Below wo.heap.size wo X)) (fun i _ => n - (intOf i).toNat)
      case atStart => exact ⟨0, _, Nat.zero_le _, rfl, HV0, HC0, HA0⟩
      case round =>
        clear HV0 HC0 HA0
        obtain ⟨k, v, hk, rfl, HV, HC, HA⟩ := hrel
        have hbw := belowThen HBo.out HA.out
        obtain ⟨m0, m1⟩ := HK.out wr hbw
        by_cases hkn : k < n
        · have hkC : k < C.length := by rw [HN.out]; exact hkn
          obtain ⟨q, off, hA, _, hEI⟩ := ((HCD.out wr hbw).rd).one hkC
          obtain ⟨ii, hii⟩ : ∃ ii, C[k] = ii := ⟨_, rfl⟩
          have hch : ii.chk = 0 := hii ▸ (cfOk HHC.out).chk C[k] (List.getElem_mem hkC)
          obtain ⟨hE, hI⟩ := renOk hch (toLLen (m := m) (k := 8)) toLRg
          obtain ⟨jj, hjj⟩ : ∃ jj, ii.ren (mpL (toL m 8)) = jj := ⟨_, rfl⟩
          have htk : (renC C (mpL (toL m 8))).take (k + 1) = (renC C (mpL (toL m 8))).take k ++ [jj] := by
            have h : k < (renC C (mpL (toL m 8))).length := by rw [renCLen]; exact hkC
            rw [List.take_succ_eq_append_getElem h, renCAt hkC, hii, hjj]
          have HTK := Lib.hid htk
          have htl : ((renC C (mpL (toL m 8))).take k).length = k := by rw [List.length_take, renCLen]; omega
          rw [hii] at hEI
          rw [hjj] at hI
          clear hii hch hjj htk
          obtain ⟨op, ra, rb, rc, obj, mm, fn, ord⟩ := ii
          obtain ⟨jop, ja, jb, jc, jobj, jn, jfn, jord⟩ := jj
          obtain ⟨i0, i1, i2, i3, i4, i5, i6, i7⟩ := hEI
          simp only at i0 i1 i2 i3 i4 i5 i6 i7
          have HRC := Lib.hid (rRenA op ra rb rc obj mm fn ord (toL m 8) 8 toLLen jop ja jb jc jobj jn jfn jord 0 hI hE A7 c7 wr (HR7.out wr HA.out))
          obtain ⟨Av, cv, hv, _⟩ := HC.out.rd
          rw [htl] at hv
          have hk0 : (0 : Int) ≤ k := by omega
          have hk1 : (k : Int) < n := by omega
          subst hA
          subst hv
          clear hE hI
          gi_wp2_with fail
          refine ⟨trivial, (callsIn_wide.2 HRC.out).mono ?_⟩
          rintro e w4 ⟨rfl, b4⟩
          have HB4 := Lib.hid (belowThen HA.out b4)
          have hv4 := HV.out.below' b4
          have hc4 := HC.out.below b4
          obtain ⟨X5, hX5⟩ : ∃ X5, w4.alloc (.cells #[.int .i64 jop, .int .i64 ja, .int .i64 jb, .int .i64 jc, .int .i64 jobj, .int .i64 jn, .int .i64 jfn, .int .i64 jord] 44) = X5 := ⟨_, rfl⟩
          have hz5 : X5.heap.size = w4.heap.size + 1 := by rw [← hX5]; simp
          have hb5 : Below w4.heap.size w4 X5 := by rw [← hX5]; exact belowAlloc w4 _
          have hn5 : Blk X5 w4.heap.size 44 #[.int .i64 jop, .int .i64 ja, .int .i64 jb, .int .i64 jc, .int .i64 jobj, .int .i64 jn, .int .i64 jfn, .int .i64 jord] := by rw [← hX5]; exact Blk.new w4 _ _
          have f1 : X5.cell? ⟨wo.heap.size, 1, none⟩ = some (.slice Av k cv) := (hv4.below' hb5).cell 1
          obtain ⟨j0, j1, j2, j3, j4, j5, j6, j7⟩ := boxFactsW hn5
          obtain ⟨X6, hX6⟩ : ∃ X6, X5.alloc (.cells #[.int .i64 jop, .int .i64 ja, .int .i64 jb, .int .i64 jc, .int .i64 jobj, .int .i64 jn, .int .i64 jfn, .int .i64 jord] 44) = X6 := ⟨_, rfl⟩
          have hb6 : Below X5.heap.size X5 X6 := by rw [← hX6]; exact belowAlloc X5 _
          have hn6 : Blk X6 X5.heap.size 44 (icC ⟨jop, ja, jb, jc, jobj, jn, jfn, jord⟩).toArray := by rw [← hX6]; exact Blk.new X5 _ _
          have hv6 := (hv4.below' hb5).below' hb6
          have hA6 := belowThen (belowThen HB4.out hb5) hb6
          obtain ⟨v', w', hrun, ho', hgr, hblk⟩ := ((hc4.below hb5).below hb6).push (by rw [htl]; omega) (by have := hA6.size; have := hv6.lt; omega) hn6 22
          rw [← HTK.out] at ho'
          obtain ⟨Aw, cw, hvw, _⟩ := ho'.rd
          obtain ⟨lw, hlw⟩ : ∃ lw, ((renC C (mpL (toL m 8))).take (k + 1)).length = lw := ⟨_, rfl⟩
          rw [hlw] at hvw
          clear hlw
          subst hvw
          have hlt6 := fun g (e : (Value.slice Av k cv).ownBlock = some g) => (World.ownsRow.lt ((hc4.below hb5).below hb6) g e).1
          have hcg : Chg X6 w' (fun q => (Value.slice Av k cv).ownBlock ≠ some q) := Chg.ofGrown hgr fun _ h => h
          have hv7 : Blk w' wo.heap.size 24 #[.string nm, .slice Av k cv] := (hcg.block _ hv6.lt fun e => by have := hlt6 _ e; omega).trans hv6
          have HA7 : Below wo.heap.size wo w' := ⟨hcg.os.trans hA6.os, hcg.tape.trans hA6.tape, hcg.output.trans hA6.output, Nat.le_trans hA6.size hcg.size, fun q hq => (hcg.block q (Nat.lt_of_lt_of_le hq hA6.size) fun e => by have := hlt6 _ e; omega).trans (hA6.block q hq)⟩
          have g1 : w'.cell? ⟨wo.heap.size, 1, none⟩ = some (.slice Av k cv) := hv7.cell 1
          have g2 := hv7.frozen 1
          have hvb : ∀ g, (Value.slice Aw lw cw).ownBlock = some g → g ≠ wo.heap.size := fun g e => by
            have := (World.ownsRow.lt ho' g e).1
            omega
          have hcs := chgSet w' ⟨wo.heap.size, 1, none⟩ (.slice Aw lw cw)
          have HVN : Hid (Blk (w'.setCell ⟨wo.heap.size, 1, none⟩ (.slice Aw lw cw)) wo.heap.size 24 #[.string nm, .slice Aw lw cw]) := Lib.hid (hv7.set 1 _)
          have HCN := Lib.hid (OwnC8.chg ho' hcs fun g e => hvb g e)
          have HAN : Hid (Below wo.heap.size wo (w'.setCell ⟨wo.heap.size, 1, none⟩ (.slice Aw lw cw))) := Lib.hid ⟨hcs.os.trans HA7.os, hcs.tape.trans HA7.tape, hcs.output.trans HA7.output, Nat.le_trans HA7.size hcs.size, fun q hq => (hcs.block q (Nat.lt_of_lt_of_le hq HA7.size) (show q ≠ wo.heap.size by omega)).trans (HA7.block q hq)⟩
          rw [hz5] at hrun
          rw [← hX6, ← hX5] at hrun
          rw [← hX5] at f1 j0 j1 j2 j3 j4 j5 j6 j7
          clear hX5 hX6 hz5 hb5 hn5 hb6 hn6 hv6 hA6 ho' hgr hblk hlt6 hcg hv7 HA7 hvb hcs hv4 hc4 b4
          gi_wp2_with (gi_at_builtin; refine wpListIn_app9 _ rfl (.tmp 76) (.tmp 78) 22 rfl rfl rfl hrun ?_)
          all_goals go_roundw
          case rel => first | exact ⟨k + 1, _, by omega, by go_num, HVN, HCN, HAN⟩ | exact ⟨_, _, _, _, _, _, _, _, _, _, _, _, _, _, _, _, _, _, _, _, _, _, _, _, _, _, ⟨k + 1, _, by omega, by go_num, HVN, HCN, HAN⟩, rfl⟩
          case measure => simp [intOf]; omega
        · obtain rfl : k = n := by omega
          have hC' : (renC C (mpL (toL m 8))).length = k := by rw [renCLen, HN.out]
          have htk : (renC C (mpL (toL m 8))).take k = renC C (mpL (toL m 8)) := List.take_of_length_le (by omega)
          rw [htk] at HC
          obtain ⟨Ag, cg, hv, hrg⟩ := HC.out.rd
          rw [hC'] at hv
          subst hv
          have hcg : CdW wr Ag cg (renC C (mpL (toL m 8))) := ⟨hrg, renWf HHC.out (toLPer m).map (HCD.out wr hbw).wf, (HCD.out wr hbw).ld⟩
          have hE' := renCE (toLPer m).map HHC.out
          have HCG := Lib.hid (fun X (hX : Below wr.heap.size wr X) => hcg.below hX)
          have HKG := Lib.hid (fun X (hX : Below wr.heap.size wr X) => (⟨(HV.out.below' hX).cell 0, (HV.out.below' hX).cell 1⟩ : X.cell? ⟨wo.heap.size, 0, none⟩ = some (.string nm) ∧ X.cell? ⟨wo.heap.size, 1, none⟩ = some (.slice Ag k cg)))
          have HKF := Lib.hid (fun X (hX : Below wr.heap.size wr X) => HK.out X (belowThen hbw hX))
          have HB1 := Lib.hid (HBE.out wr hbw)
          have HB2 := Lib.hid (fun X hX => iBeforeL nm (renC C (mpL (toL m 8))) k hC' Ag cg X (HCG.out X hX))
          have HD1 := Lib.hid (fun X (hX : Below wr.heap.size wr X) => HDD.out X (belowThen hbw hX))
          have HD2 := Lib.hid (fun X hX => iDead nm (renC C (mpL (toL m 8))) k hC' Ag cg X (HCG.out X hX))
          have HP1 := Lib.hid (fun X (hX : Below wr.heap.size wr X) => HPP.out X (belowThen hbw hX))
          have HP2 := Lib.hid (fun X hX => iPressure nm (renC C (mpL (toL m 8))) k hC' Ag cg X (HCG.out X hX))
          rw [renDeR (toLPer m) HHC.out, hE'] at HD2
          rw [renPr (toLPer m) HHC.out, hE'] at HP2
          rw [hE'] at HB2
          rw [HHC.out] at HB1 HD1 HP1
          unfold fnV at HB2 HD2 HP2
          obtain ⟨n0, n1⟩ := HKG.out wr (Below.refl _ _)
          have hl1 : (beR C).length = k := by unfold beR beL; rw [if_pos HHC.out, List.length_map, List.length_range]; exact HN.out
          have hl2 : (beR (renC C (mpL (toL m 8)))).length = k := by unfold beR beL; rw [if_pos hE', List.length_map, List.length_range]; exact hC'
          have HL1 := Lib.hid hl1
          have HL2 := Lib.hid hl2
          clear hl1 hl2 hcg hrg htk
          gi_wp2_with fail
          refine ⟨trivial, (callsIn_wide.2 HB1.out).mono ?_⟩
          rintro e x1 ⟨Aa, ca, rfl, ra, b1⟩
          rw [HL1.out]
          have HX1 := Lib.hid b1
          have HRa := Lib.hid ra
          clear b1 ra m0 m1 n0 n1
          obtain ⟨n0, n1⟩ := HKG.out x1 HX1.out
          gi_wp2_with fail
          refine ⟨trivial, (callsIn_wide.2 (HB2.out x1 HX1.out)).mono ?_⟩
          rintro e x2 ⟨Ab, cb, rfl, rb, b2⟩
          rw [HL2.out]
          have HX2 := Lib.hid (belowThen HX1.out b2)
          have HRa := Lib.hid (HRa.out.below b2)
          have HRb := Lib.hid rb
          clear b2 rb n0 n1
          obtain ⟨m0, m1⟩ := HKF.out x2 HX2.out
          gi_wp2_with fail
          refine ⟨trivial, (callsIn_wide.2 (HD1.out x2 HX2.out)).mono ?_⟩
          rintro e x3 ⟨Ac, cc, rfl, rc, b3⟩
          obtain ⟨qd, hqd⟩ : ∃ qd, (deR C).length = qd := ⟨_, rfl⟩
          have HQD := Lib.hid hqd
          rw [hqd]
          have HX3 := Lib.hid (belowThen HX2.out b3)
          have HRa := Lib.hid (HRa.out.below b3)
          have HRb := Lib.hid (HRb.out.below b3)
          have HRc := Lib.hid rc
          clear b3 rc m0 m1
          obtain ⟨n0, n1⟩ := HKG.out x3 HX3.out
          gi_wp2_with fail
          refine ⟨trivial, (callsIn_wide.2 (HD2.out x3 HX3.out)).mono ?_⟩
          rintro e x4 ⟨Ad, cd, rfl, rd, b4⟩
          rw [hqd]
          have HX4 := Lib.hid (belowThen HX3.out b4)
          have HRa := Lib.hid (HRa.out.below b4)
          have HRb := Lib.hid (HRb.out.below b4)
          have HRc := Lib.hid (Rd.below HRc.out b4)
          have HRd := Lib.hid rd
          clear b4 rd n0 n1 hqd
          obtain ⟨m0, m1⟩ := HKF.out x4 HX4.out
          gi_wp2_with fail
          refine ⟨trivial, (callsIn_wide.2 (HP1.out x4 HX4.out)).mono ?_⟩
          rintro e x5 ⟨rfl, b5⟩
          have HX5 := Lib.hid (belowThen HX4.out b5)
          have HRa := Lib.hid (HRa.out.below b5)
          have HRb := Lib.hid (HRb.out.below b5)
          have HRc := Lib.hid (Rd.below HRc.out b5)
          have HRd := Lib.hid (Rd.below HRd.out b5)
          clear b5 m0 m1
          obtain ⟨n0, n1⟩ := HKG.out x5 HX5.out
          gi_wp2_with fail
          refine ⟨trivial, (callsIn_wide.2 (HP2.out x5 HX5.out)).mono ?_⟩
          rintro e x6 ⟨rfl, b6⟩
          have HX6 := Lib.hid (belowThen HX5.out b6)
          have HRa := Lib.hid (HRa.out.below b6)
          have HRb := Lib.hid (HRb.out.below b6)
          have HIN := Lib.hid (intsEq (deR C) qd qd HQD.out HQD.out Ac Ad cc cd x6 (Rd.below HRc.out b6) (Rd.below HRd.out b6))
          clear b6 n0 n1
          gi_wp2_with fail
          refine ⟨trivial, (callsIn_wide.2 HIN.out).mono ?_⟩
          rintro e x7 ⟨rfl, b7⟩
          have HX7 := Lib.hid (belowThen HX6.out b7)
          have HRa := Lib.hid (HRa.out.below b7)
          have HRb := Lib.hid (HRb.out.below b7)
          clear b7
          gi_wp2_with fail
          gi_loopw [25] (fun i X => ∃ j : Nat, j ≤ k ∧ i = .int .i64 j ∧ Hid (Below x7.heap.size x7 X)) (fun i _ => k - (intOf i).toNat)
          case atStart => exact ⟨0, Nat.zero_le _, rfl, Lib.hid (Below.refl _ _)⟩
          case round =>
            obtain ⟨j, hj, rfl, HBj⟩ := hrel
            by_cases hjk : j < k
            · have hjC : j < C.length := by rw [HN.out]; exact hjk
              have hok := cfOk HHC.out
              have hja : j < (beR C).length := by rw [HL1.out]; exact hjk
              have hjb : j < (beR (renC C (mpL (toL m 8)))).length := by rw [HL2.out]; exact hjk
              obtain ⟨la, hla⟩ : ∃ la, rgL (lvB C false j) = la := ⟨_, rfl⟩
              have ea : (beR C)[j] = la := by
                have h : (beR C)[j]? = some la := by
                  unfold beR beL
                  rw [if_pos HHC.out, List.getElem?_map, List.getElem?_range hjC]
                  show some (rgL (lvB C false j)) = _
                  rw [hla]
                rw [List.getElem?_eq_getElem hja] at h
                exact Option.some.inj h
              have eb : (beR (renC C (mpL (toL m 8))))[j] = mk (la.map (mpL (toL m 8))) := by
                have h : (beR (renC C (mpL (toL m 8))))[j]? = some (mk (la.map (mpL (toL m 8)))) := by
                  unfold beR beL
                  rw [if_pos (renCE (toLPer m).map HHC.out), List.getElem?_map, List.getElem?_range (by rw [renCLen]; exact hjC)]
                  show some (rgL (lvB (renC C (mpL (toL m 8))) false j)) = _
                  rw [renRow (toLPer m) HHC.out, hla]
                rw [List.getElem?_eq_getElem hjb] at h
                exact Option.some.inj h
              obtain ⟨ada, Ala, cla, hAa, hca, hra⟩ := (HRa.out.below HBj.out).one hja
              obtain ⟨adb, Alb, clb, hAb, hcb, hrb⟩ := (HRb.out.below HBj.out).one hjb
              rw [ea] at hca hra
              rw [eb] at hcb hrb
              have hrg : ∀ x ∈ la, rgB x = true := fun x hx => by
                have hS : Regs (lvB C false j) := fun r hr => lvRg hok hr
                rw [← hla] at hx
                exact hS x ((rgLMem hS).1 hx)
              obtain ⟨qa, hqa⟩ : ∃ qa, la.length = qa := ⟨_, rfl⟩
              obtain ⟨qb, hqb⟩ : ∃ qb, (mk (la.map (mpL (toL m 8)))).length = qb := ⟨_, rfl⟩
              rw [hqa] at hca
              rw [hqb] at hcb
              have hqa8 : qa ≤ 8 := by rw [← hqa, ← hla]; exact rgLLen
              have hal := World.block_lt_of_cell? _ _ hca
              have hbl := World.block_lt_of_cell? _ _ hcb
              have HCA := Lib.hid (fun X (hX : Below wr.heap.size wr X) => (hX.cell hal).trans hca)
              have HCB := Lib.hid (fun X (hX : Below wr.heap.size wr X) => (hX.cell hbl).trans hcb)
              have HRA := Lib.hid (fun X (hX : Below wr.heap.size wr X) => Rd.below hra hX)
              have HRB := Lib.hid (fun X (hX : Below wr.heap.size wr X) => Rd.below hrb hX)
              have hro := belowThen HX7.out HBj.out
              have hrr := belowThen HA.out hro
              have HR7j := Lib.hid (fun X (hX : Below wr.heap.size wr X) => HR7.out X (belowThen hrr hX))
              have HRG := Lib.hid hrg
              have HQA := Lib.hid hqa
              have HQB := Lib.hid hqb
              have h9c := hra.le
              have h9m := hra.max
              rw [hqa] at h9c
              unfold maxLen at h9m
              have hj0 : (0 : Int) ≤ j := by omega
              have hj1 : (j : Int) < k := by omega
              have HT0 : Hid (OwnQ (wr.alloc (.cells #[] 3)) wr.heap.size (.slice (some ⟨wr.heap.size, 0, none⟩) 0 0) ((la.take 0).map (mpL (toL m 8)))) := Lib.hid (OwnQ.ofOwn (show OwnI (wr.alloc (.cells #[] 3)) wr.heap.size (.slice (some ⟨wr.heap.size, 0, none⟩) 0 0) [] from ⟨rfl, .inr ⟨wr.heap.size, 0, #[], rfl, Nat.le_refl _, heap_alloc_new wr _, Nat.le_refl _, by unfold maxLen; omega, rfl, rfl⟩⟩))
              have HA0 := Lib.hid (belowAlloc wr (.cells #[] 3))
              subst hAa
              subst hAb
              obtain ⟨wj, hwj⟩ : ∃ wj, wr = wj := ⟨_, rfl⟩
              rw [hwj] at HCA HCB HRA HRB HR7j HT0 HA0 HBj ⊢
              clear hwj hca hcb hra hrb hal hbl hla ea eb hqa hqb hja hjb hro hrr hrg
              gi_wp2_with fail
              gi_loopw [26, 27] (fun v i X => ∃ t : Nat, t ≤ qa ∧ i = .int .i64 t ∧ Hid (OwnQ X wj.heap.size v ((la.take t).map (mpL (toL m 8)))) ∧ Hid (Below wj.heap.size wj X)) (fun _ i _ => qa - (intOf i).toNat)
              case atStart => exact ⟨0, Nat.zero_le _, rfl, HT0, HA0⟩
              case round =>
                clear HT0 HA0
                obtain ⟨t, ht, rfl, HT, HB⟩ := hrel
                have ca0 := HCA.out wr HB.out
                by_cases htq : t < qa
                · have htl : t < la.length := by rw [HQA.out]; exact htq
                  obtain ⟨a8, hA8, _, hc8⟩ := (HRA.out wr HB.out).one htl
                  have hrg := HRG.out la[t] (List.getElem_mem htl)
                  obtain ⟨x, hx⟩ : ∃ x, la[t] = x := ⟨_, rfl⟩
                  have htk : (la.take (t + 1)).map (mpL (toL m 8)) = (la.take t).map (mpL (toL m 8)) ++ [mpL (toL m 8) x] := by
                    rw [List.take_succ_eq_append_getElem htl, hx, List.map_append]; rfl
                  have HTK := Lib.hid htk
                  rw [hx] at hc8 hrg
                  have hx8 := of_decide_eq_true hrg
                  obtain ⟨xn, rfl⟩ : ∃ xn : Nat, x = xn := ⟨x.toNat, by omega⟩
                  obtain ⟨a7, hA7, _, hc7⟩ := (HR7j.out wr HB.out).one (k := xn) (by rw [toLLen]; omega)
                  have ey : (toL m 8)[xn]'(by rw [toLLen]; omega) = mpL (toL m 8) (xn : Int) := by
                    unfold mpL
                    rw [List.getD, List.getElem?_eq_getElem (by rw [toLLen]; omega)]
                    rfl
                  rw [ey] at hc7
                  obtain ⟨y, hy⟩ : ∃ y, mpL (toL m 8) (xn : Int) = y := ⟨_, rfl⟩
                  have HY := Lib.hid hy
                  rw [hy] at hc7
                  obtain ⟨v', w', hrun, hto⟩ := runQ (wr.alloc (.cells #[.int .i64 y] 3)) 34 wj.heap.size u26 ((la.take t).map (mpL (toL m 8))) (HT.out.below (belowAlloc wr _)) (some ⟨wr.heap.size, 0, none⟩) 1 1 [y] rfl (Rd.lit wr [y] 3 (by simp)) (by rw [List.length_map, List.length_take]; omega) (by have := HB.out.size; simp; omega)
                  have HTO := Lib.hid hto
                  have hlt := fun g => (HT.out.below (belowAlloc wr (.cells #[.int .i64 y] 3))).lt (g := g)
                  obtain ⟨ho, hc, _⟩ := hto
                  have HF : Hid (OwnQ w' wj.heap.size v' ((la.take (t + 1)).map (mpL (toL m 8)))) := Lib.hid (by rw [HTK.out, HY.out]; exact ho)
                  have HG : Hid (Below wj.heap.size wj w') := Lib.hid (by
                    have h1 : Below wj.heap.size wj (wr.alloc (.cells #[.int .i64 y] 3)) := HB.out.alloc HB.out.size _
                    exact ⟨hc.os.trans h1.os, hc.tape.trans h1.tape, hc.output.trans h1.output, Nat.le_trans h1.size hc.size, fun q hq => (hc.block q (Nat.lt_of_lt_of_le hq h1.size) fun e => by have := (hlt _ e).1; omega).trans (h1.block q hq)⟩)
                  subst hA8
                  subst hA7
                  have ht0 : (0 : Int) ≤ t := by omega
                  have ht1 : (t : Int) < qa := by omega
                  have hx0 : (0 : Int) ≤ xn := by omega
                  have hx1 : (xn : Int) < 8 := by omega
                  clear ho hc hlt hx hrg htk ey hy
                  gi_wp2_with (gi_at_builtin; refine wpListIn_app9 _ rfl (.tmp 185) (.tmp 196) 34 rfl rfl rfl hrun ?_)
                  all_goals go_roundw
                  case rel => exact ⟨t + 1, by omega, by go_num, HF, HG⟩
                  case measure => simp [intOf]; omega
                · obtain rfl : t = qa := by omega
                  have htk : la.take t = la := List.take_of_length_le (by rw [HQA.out]; exact Nat.le_refl _)
                  rw [htk] at HT
                  obtain ⟨Am, cm, hvm, hrm, _⟩ := HT.out.rd
                  rw [List.length_map, HQA.out] at hvm
                  subst hvm
                  obtain ⟨Z1, hZ1⟩ : ∃ Z1, wr.drew = Z1 := ⟨_, rfl⟩
                  have hbZ0 : Below wr.heap.size wr Z1 := by rw [← hZ1]; exact (Below.refl _ wr).drew
                  have hbZ := belowThen HB.out hbZ0
                  have HBZ := Lib.hid hbZ
                  have HBJ := Lib.hid HBj.out
                  obtain ⟨mb, hmb⟩ : ∃ mb, mk (la.map (mpL (toL m 8))) = mb := ⟨_, rfl⟩
                  rw [hmb] at HQB HRB
                  have HQM := Lib.hid (show mb.length = qb from HQB.out)
                  have HMK := Lib.hid (rMakeN (la.map (mpL (toL m 8))) t (by rw [List.length_map]; exact HQA.out.symm) mb hmb (by rw [List.length_map, HQA.out]; omega) Am cm Z1 (Rd.below hrm hbZ0))
                  have HIN := Lib.hid (fun X A9 c9 (hr : Rd X A9 c9 mb) (hX : Below Z1.heap.size Z1 X) => intsEq mb qb qb HQM.out HQM.out A9 Alb c9 clb X hr (HRB.out X (belowThen hbZ hX)))
                  have HCZ := Lib.hid (fun X (hX : Below Z1.heap.size Z1 X) => HCB.out X (belowThen hbZ hX))
                  have tz := HCB.out Z1 hbZ
                  clear htk hrm hbZ hbZ0 hmb
                  gi_wp2_with fail
                  refine wpIn_region_any (by kernel_rfl) ?_
                  change wpAnyIn _ _ _ _ _ _ _ _ _ (World.drew _)
                  rw [hZ1]
                  clear hZ1
                  refine mergeAnyL fun G hG => ?_
                  have hs11111111 : ∀ (X9 : World) (A9 : Option Addr) (c9 : Nat) (_ : Below Z1.heap.size Z1 X9), G 0 #[true, true, true, true, true, true, true, true] { tmps := #[Value.agg #[Value.string nm, Value.slice A k c], Value.int IntKind.u8 (m : Int), Value.pointer (some ⟨w.heap.size, 0, none⟩), undef, u4, Value.slice A1 q1 c1, Value.int IntKind.i64 0, Value.slice A7 8 c7, Value.int IntKind.i64 8, Value.pointer (some ⟨wo.heap.size, 0, none⟩), Value.int IntKind.i64 (k : Int), u11, u12, Value.slice (some ada) k ca, Value.int IntKind.i64 0, Value.slice (some adb) k cb, Value.int IntKind.i64 0, Value.slice Ac qd cc, Value.int IntKind.i64 0, Value.slice Ad qd cd, Value.int IntKind.i64 0, Value.int IntKind.i64 (prR C), Value.int IntKind.i64 0, Value.int IntKind.i64 (prR C), Value.int IntKind.i64 0, Value.int IntKind.i64 (j : Int), Value.slice Am t cm, Value.int IntKind.i64 (t : Int), Value.tuple #[Value.slice A1 q1 c1, Value.int IntKind.i64 0], Value.agg #[Value.string nm, Value.slice A k c], Value.tuple #[Value.slice A1 q1 c1, Value.int IntKind.i64 0], Value.slice A1 q1 c1, Value.int IntKind.i64 0, Value.pointer (some ⟨w.heap.size, 1, none⟩), Value.slice A k c, Value.int IntKind.i64 (k : Int), Value.bool false, Value.bool false, Value.int IntKind.i64 0, Value.bool false, Value.bool false, undef, Value.slice (some ⟨w1.heap.size, 0, none⟩) 0 0, Value.int IntKind.i64 8, Value.bool false, u45, u46, u47, u48, u49, u50, u51, u52, u53, u54, Value.pointer (some ⟨w.heap.size, 0, none⟩), Value.string nm, Value.agg #[Value.string nm, Value.slice none 0 0], Value.int IntKind.i64 (k : Int), Value.pointer (some ⟨w.heap.size, 1, none⟩), Value.slice A k c, Value.int IntKind.i64 (k : Int), Value.bool false, u63, u64, u65, u66, u67, u68, u69, u70, u71, u72, u73, u74, u75, u76, u77, u78, u79, u80, Value.tuple #[Value.slice (some ada) k ca, Value.int IntKind.i64 0], Value.agg #[Value.string nm, Value.slice A k c], Value.tuple #[Value.slice (some ada) k ca, Value.int IntKind.i64 0], Value.slice (some ada) k ca, Value.int IntKind.i64 0, Value.tuple #[Value.slice (some adb) k cb, Value.int IntKind.i64 0], Value.agg #[Value.string nm, Value.slice Ag k cg], Value.tuple #[Value.slice (some adb) k cb, Value.int IntKind.i64 0], Value.slice (some adb) k cb, Value.int IntKind.i64 0, Value.tuple #[Value.slice Ac qd cc, Value.int IntKind.i64 0], Value.agg #[Value.string nm, Value.slice A k c], Value.tuple #[Value.slice Ac qd cc, Value.int IntKind.i64 0], Value.slice Ac qd cc, Value.int IntKind.i64 0, Value.tuple #[Value.slice Ad qd cd, Value.int IntKind.i64 0], Value.agg #[Value.string nm, Value.slice Ag k cg], Value.tuple #[Value.slice Ad qd cd, Value.int IntKind.i64 0], Value.slice Ad qd cd, Value.int IntKind.i64 0, Value.tuple #[Value.int IntKind.i64 (prR C), Value.int IntKind.i64 0], Value.agg #[Value.string nm, Value.slice A k c], Value.tuple #[Value.int IntKind.i64 (prR C), Value.int IntKind.i64 0], Value.int IntKind.i64 (prR C), Value.int IntKind.i64 0, Value.tuple #[Value.int IntKind.i64 (prR C), Value.int IntKind.i64 0], Value.agg #[Value.string nm, Value.slice Ag k cg], Value.tuple #[Value.int IntKind.i64 (prR C), Value.int IntKind.i64 0], Value.int IntKind.i64 (prR C), Value.int IntKind.i64 0, Value.int IntKind.i64 0, Value.bool false, Value.bool false, Value.int IntKind.i64 0, Value.bool false, Value.bool false, Value.bool false, Value.int IntKind.i64 0, Value.bool false, Value.bool false, Value.bool false, Value.int IntKind.i64 0, Value.bool false, Value.bool false, Value.bool false, Value.int IntKind.i64 0, Value.bool false, Value.bool false, Value.bool false, Value.int IntKind.i64 0, Value.bool false, Value.bool false, Value.bool false, Value.slice (some ada) k ca, Value.int IntKind.i64 (k : Int), Value.slice (some adb) k cb, Value.int IntKind.i64 (k : Int), Value.bool false, Value.bool false, Value.bool false, Value.int IntKind.i64 (prR C), Value.int IntKind.i64 (prR C), Value.bool false, Value.bool false, Value.bool false, Value.slice Ac qd cc, Value.slice Ad qd cd, Value.bool true, Value.bool false, Value.bool false, Value.int IntKind.i64 (j : Int), Value.slice (some ada) k ca, Value.int IntKind.i64 (k : Int), Value.bool true, u155, u156, Value.slice (some ⟨wj.heap.size, 0, none⟩) 0 0, Value.int IntKind.i64 (t : Int), Value.slice (some ada) k ca, Value.int IntKind.i64 (j : Int), Value.pointer (some (ada.add j)), Value.slice Ala t cla, Value.int IntKind.i64 (t : Int), Value.bool false, u165, u166, u167, u168, u169, u170, u171, u172, u173, u174, u175, u176, u177, u178, u179, u180, u181, u182, u183, u184, u185, u186, u187, u188, u189, u190, u191, u192, u193, u194, u195, u196, u197, .slice Am t cm, .slice A9 qb c9, .slice (some adb) k cb, .int .i64 (j : Int), .pointer (some (adb.add j)), .slice Alb qb clb, .bool true, .bool false, undef], defers := [] } X9 := by
                    intro X9 A9 c9 HP
                    have HP := Lib.hid HP
                    refine (hG _ _ _ _).2 ?_
                    refine wpAnyIn_done (by kernel_rfl) ?_ _
                    have HF := Lib.hid (belowThen HBJ.out (belowThen HBZ.out HP.out))
                    gi_wp2
                    go_roundw
                    case rel => exact ⟨j + 1, by omega, by go_num, HF⟩
                    case measure => simp [intOf]; omega
                  have hs11111110 : ∀ (X9 : World) (A9 : Option Addr) (c9 : Nat) (_ : Below Z1.heap.size Z1 X9), G 1 #[true, true, true, true, true, true, true, false] { tmps := #[Value.agg #[Value.string nm, Value.slice A k c], Value.int IntKind.u8 (m : Int), Value.pointer (some ⟨w.heap.size, 0, none⟩), undef, u4, Value.slice A1 q1 c1, Value.int IntKind.i64 0, Value.slice A7 8 c7, Value.int IntKind.i64 8, Value.pointer (some ⟨wo.heap.size, 0, none⟩), Value.int IntKind.i64 (k : Int), u11, u12, Value.slice (some ada) k ca, Value.int IntKind.i64 0, Value.slice (some adb) k cb, Value.int IntKind.i64 0, Value.slice Ac qd cc, Value.int IntKind.i64 0, Value.slice Ad qd cd, Value.int IntKind.i64 0, Value.int IntKind.i64 (prR C), Value.int IntKind.i64 0, Value.int IntKind.i64 (prR C), Value.int IntKind.i64 0, Value.int IntKind.i64 (j : Int), Value.slice Am t cm, Value.int IntKind.i64 (t : Int), Value.tuple #[Value.slice A1 q1 c1, Value.int IntKind.i64 0], Value.agg #[Value.string nm, Value.slice A k c], Value.tuple #[Value.slice A1 q1 c1, Value.int IntKind.i64 0], Value.slice A1 q1 c1, Value.int IntKind.i64 0, Value.pointer (some ⟨w.heap.size, 1, none⟩), Value.slice A k c, Value.int IntKind.i64 (k : Int), Value.bool false, Value.bool false, Value.int IntKind.i64 0, Value.bool false, Value.bool false, undef, Value.slice (some ⟨w1.heap.size, 0, none⟩) 0 0, Value.int IntKind.i64 8, Value.bool false, u45, u46, u47, u48, u49, u50, u51, u52, u53, u54, Value.pointer (some ⟨w.heap.size, 0, none⟩), Value.string nm, Value.agg #[Value.string nm, Value.slice none 0 0], Value.int IntKind.i64 (k : Int), Value.pointer (some ⟨w.heap.size, 1, none⟩), Value.slice A k c, Value.int IntKind.i64 (k : Int), Value.bool false, u63, u64, u65, u66, u67, u68, u69, u70, u71, u72, u73, u74, u75, u76, u77, u78, u79, u80, Value.tuple #[Value.slice (some ada) k ca, Value.int IntKind.i64 0], Value.agg #[Value.string nm, Value.slice A k c], Value.tuple #[Value.slice (some ada) k ca, Value.int IntKind.i64 0], Value.slice (some ada) k ca, Value.int IntKind.i64 0, Value.tuple #[Value.slice (some adb) k cb, Value.int IntKind.i64 0], Value.agg #[Value.string nm, Value.slice Ag k cg], Value.tuple #[Value.slice (some adb) k cb, Value.int IntKind.i64 0], Value.slice (some adb) k cb, Value.int IntKind.i64 0, Value.tuple #[Value.slice Ac qd cc, Value.int IntKind.i64 0], Value.agg #[Value.string nm, Value.slice A k c], Value.tuple #[Value.slice Ac qd cc, Value.int IntKind.i64 0], Value.slice Ac qd cc, Value.int IntKind.i64 0, Value.tuple #[Value.slice Ad qd cd, Value.int IntKind.i64 0], Value.agg #[Value.string nm, Value.slice Ag k cg], Value.tuple #[Value.slice Ad qd cd, Value.int IntKind.i64 0], Value.slice Ad qd cd, Value.int IntKind.i64 0, Value.tuple #[Value.int IntKind.i64 (prR C), Value.int IntKind.i64 0], Value.agg #[Value.string nm, Value.slice A k c], Value.tuple #[Value.int IntKind.i64 (prR C), Value.int IntKind.i64 0], Value.int IntKind.i64 (prR C), Value.int IntKind.i64 0, Value.tuple #[Value.int IntKind.i64 (prR C), Value.int IntKind.i64 0], Value.agg #[Value.string nm, Value.slice Ag k cg], Value.tuple #[Value.int IntKind.i64 (prR C), Value.int IntKind.i64 0], Value.int IntKind.i64 (prR C), Value.int IntKind.i64 0, Value.int IntKind.i64 0, Value.bool false, Value.bool false, Value.int IntKind.i64 0, Value.bool false, Value.bool false, Value.bool false, Value.int IntKind.i64 0, Value.bool false, Value.bool false, Value.bool false, Value.int IntKind.i64 0, Value.bool false, Value.bool false, Value.bool false, Value.int IntKind.i64 0, Value.bool false, Value.bool false, Value.bool false, Value.int IntKind.i64 0, Value.bool false, Value.bool false, Value.bool false, Value.slice (some ada) k ca, Value.int IntKind.i64 (k : Int), Value.slice (some adb) k cb, Value.int IntKind.i64 (k : Int), Value.bool false, Value.bool false, Value.bool false, Value.int IntKind.i64 (prR C), Value.int IntKind.i64 (prR C), Value.bool false, Value.bool false, Value.bool false, Value.slice Ac qd cc, Value.slice Ad qd cd, Value.bool true, Value.bool false, Value.bool false, Value.int IntKind.i64 (j : Int), Value.slice (some ada) k ca, Value.int IntKind.i64 (k : Int), Value.bool true, u155, u156, Value.slice (some ⟨wj.heap.size, 0, none⟩) 0 0, Value.int IntKind.i64 (t : Int), Value.slice (some ada) k ca, Value.int IntKind.i64 (j : Int), Value.pointer (some (ada.add j)), Value.slice Ala t cla, Value.int IntKind.i64 (t : Int), Value.bool false, u165, u166, u167, u168, u169, u170, u171, u172, u173, u174, u175, u176, u177, u178, u179, u180, u181, u182, u183, u184, u185, u186, u187, u188, u189, u190, u191, u192, u193, u194, u195, u196, u197, .slice Am t cm, .slice A9 qb c9, .slice (some adb) k cb, .int .i64 (j : Int), .pointer (some (adb.add j)), .slice Alb qb clb, .bool true, u205, undef], defers := [] } X9 := by
                    intro X9 A9 c9 HP
                    have HP := Lib.hid HP
                    refine (hG _ _ _ _).2 ?_
                    refine wpAnyIn_ready (rs := [7]) (by kernel_rfl) (by simp) ?_
                    refine AllReadyIn.cons rfl (fun K hK => ?_) (AllReadyIn.nil)
                    · go_simp
                      refine hK _ _ ?_
                      clear hK K
                      (try simp only [Act.put, List.setIfInBounds_toArray, List.set_cons_zero, List.set_cons_succ])
                      exact (hG _ _ _ _).1 (hs11111111 _ _ _ HP.out)
                  have hs11111100 : ∀ (X9 : World) (A9 : Option Addr) (c9 : Nat) (_ : Below Z1.heap.size Z1 X9 ∧ Rd X9 A9 c9 mb), G 2 #[true, true, true, true, true, true, false, false] { tmps := #[Value.agg #[Value.string nm, Value.slice A k c], Value.int IntKind.u8 (m : Int), Value.pointer (some ⟨w.heap.size, 0, none⟩), undef, u4, Value.slice A1 q1 c1, Value.int IntKind.i64 0, Value.slice A7 8 c7, Value.int IntKind.i64 8, Value.pointer (some ⟨wo.heap.size, 0, none⟩), Value.int IntKind.i64 (k : Int), u11, u12, Value.slice (some ada) k ca, Value.int IntKind.i64 0, Value.slice (some adb) k cb, Value.int IntKind.i64 0, Value.slice Ac qd cc, Value.int IntKind.i64 0, Value.slice Ad qd cd, Value.int IntKind.i64 0, Value.int IntKind.i64 (prR C), Value.int IntKind.i64 0, Value.int IntKind.i64 (prR C), Value.int IntKind.i64 0, Value.int IntKind.i64 (j : Int), Value.slice Am t cm, Value.int IntKind.i64 (t : Int), Value.tuple #[Value.slice A1 q1 c1, Value.int IntKind.i64 0], Value.agg #[Value.string nm, Value.slice A k c], Value.tuple #[Value.slice A1 q1 c1, Value.int IntKind.i64 0], Value.slice A1 q1 c1, Value.int IntKind.i64 0, Value.pointer (some ⟨w.heap.size, 1, none⟩), Value.slice A k c, Value.int IntKind.i64 (k : Int), Value.bool false, Value.bool false, Value.int IntKind.i64 0, Value.bool false, Value.bool false, undef, Value.slice (some ⟨w1.heap.size, 0, none⟩) 0 0, Value.int IntKind.i64 8, Value.bool false, u45, u46, u47, u48, u49, u50, u51, u52, u53, u54, Value.pointer (some ⟨w.heap.size, 0, none⟩), Value.string nm, Value.agg #[Value.string nm, Value.slice none 0 0], Value.int IntKind.i64 (k : Int), Value.pointer (some ⟨w.heap.size, 1, none⟩), Value.slice A k c, Value.int IntKind.i64 (k : Int), Value.bool false, u63, u64, u65, u66, u67, u68, u69, u70, u71, u72, u73, u74, u75, u76, u77, u78, u79, u80, Value.tuple #[Value.slice (some ada) k ca, Value.int IntKind.i64 0], Value.agg #[Value.string nm, Value.slice A k c], Value.tuple #[Value.slice (some ada) k ca, Value.int IntKind.i64 0], Value.slice (some ada) k ca, Value.int IntKind.i64 0, Value.tuple #[Value.slice (some adb) k cb, Value.int IntKind.i64 0], Value.agg #[Value.string nm, Value.slice Ag k cg], Value.tuple #[Value.slice (some adb) k cb, Value.int IntKind.i64 0], Value.slice (some adb) k cb, Value.int IntKind.i64 0, Value.tuple #[Value.slice Ac qd cc, Value.int IntKind.i64 0], Value.agg #[Value.string nm, Value.slice A k c], Value.tuple #[Value.slice Ac qd cc, Value.int IntKind.i64 0], Value.slice Ac qd cc, Value.int IntKind.i64 0, Value.tuple #[Value.slice Ad qd cd, Value.int IntKind.i64 0], Value.agg #[Value.string nm, Value.slice Ag k cg], Value.tuple #[Value.slice Ad qd cd, Value.int IntKind.i64 0], Value.slice Ad qd cd, Value.int IntKind.i64 0, Value.tuple #[Value.int IntKind.i64 (prR C), Value.int IntKind.i64 0], Value.agg #[Value.string nm, Value.slice A k c], Value.tuple #[Value.int IntKind.i64 (prR C), Value.int IntKind.i64 0], Value.int IntKind.i64 (prR C), Value.int IntKind.i64 0, Value.tuple #[Value.int IntKind.i64 (prR C), Value.int IntKind.i64 0], Value.agg #[Value.string nm, Value.slice Ag k cg], Value.tuple #[Value.int IntKind.i64 (prR C), Value.int IntKind.i64 0], Value.int IntKind.i64 (prR C), Value.int IntKind.i64 0, Value.int IntKind.i64 0, Value.bool false, Value.bool false, Value.int IntKind.i64 0, Value.bool false, Value.bool false, Value.bool false, Value.int IntKind.i64 0, Value.bool false, Value.bool false, Value.bool false, Value.int IntKind.i64 0, Value.bool false, Value.bool false, Value.bool false, Value.int IntKind.i64 0, Value.bool false, Value.bool false, Value.bool false, Value.int IntKind.i64 0, Value.bool false, Value.bool false, Value.bool false, Value.slice (some ada) k ca, Value.int IntKind.i64 (k : Int), Value.slice (some adb) k cb, Value.int IntKind.i64 (k : Int), Value.bool false, Value.bool false, Value.bool false, Value.int IntKind.i64 (prR C), Value.int IntKind.i64 (prR C), Value.bool false, Value.bool false, Value.bool false, Value.slice Ac qd cc, Value.slice Ad qd cd, Value.bool true, Value.bool false, Value.bool false, Value.int IntKind.i64 (j : Int), Value.slice (some ada) k ca, Value.int IntKind.i64 (k : Int), Value.bool true, u155, u156, Value.slice (some ⟨wj.heap.size, 0, none⟩) 0 0, Value.int IntKind.i64 (t : Int), Value.slice (some ada) k ca, Value.int IntKind.i64 (j : Int), Value.pointer (some (ada.add j)), Value.slice Ala t cla, Value.int IntKind.i64 (t : Int), Value.bool false, u165, u166, u167, u168, u169, u170, u171, u172, u173, u174, u175, u176, u177, u178, u179, u180, u181, u182, u183, u184, u185, u186, u187, u188, u189, u190, u191, u192, u193, u194, u195, u196, u197, .slice Am t cm, .slice A9 qb c9, .slice (some adb) k cb, .int .i64 (j : Int), .pointer (some (adb.add j)), .slice Alb qb clb, u204, u205, undef], defers := [] } X9 := by
                    intro X9 A9 c9 HP
                    have HP := Lib.hid HP
                    refine (hG _ _ _ _).2 ?_
                    refine wpAnyIn_ready (rs := [6]) (by kernel_rfl) (by simp) ?_
                    refine AllReadyIn.cons rfl (fun K hK => ?_) (AllReadyIn.nil)
                    · go_simp
                      gi_wp2_with fail
                      refine ⟨trivial, (callsIn_wide.2 (HIN.out X9 A9 c9 HP.out.2 HP.out.1)).mono ?_⟩
                      rintro e X10 ⟨rfl, hb9⟩
                      refine hK _ _ ?_
                      clear hK K
                      (try simp only [Act.put, List.setIfInBounds_toArray, List.set_cons_zero, List.set_cons_succ])
                      exact (hG _ _ _ _).1 (hs11111110 _ _ _ (belowThen HP.out.1 hb9))
                  have hs11111000 : ∀ (X9 : World) (A9 : Option Addr) (c9 : Nat) (_ : Below Z1.heap.size Z1 X9 ∧ Rd X9 A9 c9 mb), G 3 #[true, true, true, true, true, false, false, false] { tmps := #[Value.agg #[Value.string nm, Value.slice A k c], Value.int IntKind.u8 (m : Int), Value.pointer (some ⟨w.heap.size, 0, none⟩), undef, u4, Value.slice A1 q1 c1, Value.int IntKind.i64 0, Value.slice A7 8 c7, Value.int IntKind.i64 8, Value.pointer (some ⟨wo.heap.size, 0, none⟩), Value.int IntKind.i64 (k : Int), u11, u12, Value.slice (some ada) k ca, Value.int IntKind.i64 0, Value.slice (some adb) k cb, Value.int IntKind.i64 0, Value.slice Ac qd cc, Value.int IntKind.i64 0, Value.slice Ad qd cd, Value.int IntKind.i64 0, Value.int IntKind.i64 (prR C), Value.int IntKind.i64 0, Value.int IntKind.i64 (prR C), Value.int IntKind.i64 0, Value.int IntKind.i64 (j : Int), Value.slice Am t cm, Value.int IntKind.i64 (t : Int), Value.tuple #[Value.slice A1 q1 c1, Value.int IntKind.i64 0], Value.agg #[Value.string nm, Value.slice A k c], Value.tuple #[Value.slice A1 q1 c1, Value.int IntKind.i64 0], Value.slice A1 q1 c1, Value.int IntKind.i64 0, Value.pointer (some ⟨w.heap.size, 1, none⟩), Value.slice A k c, Value.int IntKind.i64 (k : Int), Value.bool false, Value.bool false, Value.int IntKind.i64 0, Value.bool false, Value.bool false, undef, Value.slice (some ⟨w1.heap.size, 0, none⟩) 0 0, Value.int IntKind.i64 8, Value.bool false, u45, u46, u47, u48, u49, u50, u51, u52, u53, u54, Value.pointer (some ⟨w.heap.size, 0, none⟩), Value.string nm, Value.agg #[Value.string nm, Value.slice none 0 0], Value.int IntKind.i64 (k : Int), Value.pointer (some ⟨w.heap.size, 1, none⟩), Value.slice A k c, Value.int IntKind.i64 (k : Int), Value.bool false, u63, u64, u65, u66, u67, u68, u69, u70, u71, u72, u73, u74, u75, u76, u77, u78, u79, u80, Value.tuple #[Value.slice (some ada) k ca, Value.int IntKind.i64 0], Value.agg #[Value.string nm, Value.slice A k c], Value.tuple #[Value.slice (some ada) k ca, Value.int IntKind.i64 0], Value.slice (some ada) k ca, Value.int IntKind.i64 0, Value.tuple #[Value.slice (some adb) k cb, Value.int IntKind.i64 0], Value.agg #[Value.string nm, Value.slice Ag k cg], Value.tuple #[Value.slice (some adb) k cb, Value.int IntKind.i64 0], Value.slice (some adb) k cb, Value.int IntKind.i64 0, Value.tuple #[Value.slice Ac qd cc, Value.int IntKind.i64 0], Value.agg #[Value.string nm, Value.slice A k c], Value.tuple #[Value.slice Ac qd cc, Value.int IntKind.i64 0], Value.slice Ac qd cc, Value.int IntKind.i64 0, Value.tuple #[Value.slice Ad qd cd, Value.int IntKind.i64 0], Value.agg #[Value.string nm, Value.slice Ag k cg], Value.tuple #[Value.slice Ad qd cd, Value.int IntKind.i64 0], Value.slice Ad qd cd, Value.int IntKind.i64 0, Value.tuple #[Value.int IntKind.i64 (prR C), Value.int IntKind.i64 0], Value.agg #[Value.string nm, Value.slice A k c], Value.tuple #[Value.int IntKind.i64 (prR C), Value.int IntKind.i64 0], Value.int IntKind.i64 (prR C), Value.int IntKind.i64 0, Value.tuple #[Value.int IntKind.i64 (prR C), Value.int IntKind.i64 0], Value.agg #[Value.string nm, Value.slice Ag k cg], Value.tuple #[Value.int IntKind.i64 (prR C), Value.int IntKind.i64 0], Value.int IntKind.i64 (prR C), Value.int IntKind.i64 0, Value.int IntKind.i64 0, Value.bool false, Value.bool false, Value.int IntKind.i64 0, Value.bool false, Value.bool false, Value.bool false, Value.int IntKind.i64 0, Value.bool false, Value.bool false, Value.bool false, Value.int IntKind.i64 0, Value.bool false, Value.bool false, Value.bool false, Value.int IntKind.i64 0, Value.bool false, Value.bool false, Value.bool false, Value.int IntKind.i64 0, Value.bool false, Value.bool false, Value.bool false, Value.slice (some ada) k ca, Value.int IntKind.i64 (k : Int), Value.slice (some adb) k cb, Value.int IntKind.i64 (k : Int), Value.bool false, Value.bool false, Value.bool false, Value.int IntKind.i64 (prR C), Value.int IntKind.i64 (prR C), Value.bool false, Value.bool false, Value.bool false, Value.slice Ac qd cc, Value.slice Ad qd cd, Value.bool true, Value.bool false, Value.bool false, Value.int IntKind.i64 (j : Int), Value.slice (some ada) k ca, Value.int IntKind.i64 (k : Int), Value.bool true, u155, u156, Value.slice (some ⟨wj.heap.size, 0, none⟩) 0 0, Value.int IntKind.i64 (t : Int), Value.slice (some ada) k ca, Value.int IntKind.i64 (j : Int), Value.pointer (some (ada.add j)), Value.slice Ala t cla, Value.int IntKind.i64 (t : Int), Value.bool false, u165, u166, u167, u168, u169, u170, u171, u172, u173, u174, u175, u176, u177, u178, u179, u180, u181, u182, u183, u184, u185, u186, u187, u188, u189, u190, u191, u192, u193, u194, u195, u196, u197, .slice Am t cm, .slice A9 qb c9, .slice (some adb) k cb, .int .i64 (j : Int), .pointer (some (adb.add j)), u203, u204, u205, undef], defers := [] } X9 := by
                    intro X9 A9 c9 HP
                    have HP := Lib.hid HP
                    refine (hG _ _ _ _).2 ?_
                    refine wpAnyIn_ready (rs := [5]) (by kernel_rfl) (by simp) ?_
                    refine AllReadyIn.cons rfl (fun K hK => ?_) (AllReadyIn.nil)
                    · have tl := HCZ.out X9 HP.out.1
                      go_simp
                      refine hK _ _ ?_
                      clear hK K
                      (try simp only [Act.put, List.setIfInBounds_toArray, List.set_cons_zero, List.set_cons_succ])
                      exact (hG _ _ _ _).1 (hs11111100 _ _ _ HP.out)
                  have hs10111100 : G 3 #[true, false, true, true, true, true, false, false] { tmps := #[Value.agg #[Value.string nm, Value.slice A k c], Value.int IntKind.u8 (m : Int), Value.pointer (some ⟨w.heap.size, 0, none⟩), undef, u4, Value.slice A1 q1 c1, Value.int IntKind.i64 0, Value.slice A7 8 c7, Value.int IntKind.i64 8, Value.pointer (some ⟨wo.heap.size, 0, none⟩), Value.int IntKind.i64 (k : Int), u11, u12, Value.slice (some ada) k ca, Value.int IntKind.i64 0, Value.slice (some adb) k cb, Value.int IntKind.i64 0, Value.slice Ac qd cc, Value.int IntKind.i64 0, Value.slice Ad qd cd, Value.int IntKind.i64 0, Value.int IntKind.i64 (prR C), Value.int IntKind.i64 0, Value.int IntKind.i64 (prR C), Value.int IntKind.i64 0, Value.int IntKind.i64 (j : Int), Value.slice Am t cm, Value.int IntKind.i64 (t : Int), Value.tuple #[Value.slice A1 q1 c1, Value.int IntKind.i64 0], Value.agg #[Value.string nm, Value.slice A k c], Value.tuple #[Value.slice A1 q1 c1, Value.int IntKind.i64 0], Value.slice A1 q1 c1, Value.int IntKind.i64 0, Value.pointer (some ⟨w.heap.size, 1, none⟩), Value.slice A k c, Value.int IntKind.i64 (k : Int), Value.bool false, Value.bool false, Value.int IntKind.i64 0, Value.bool false, Value.bool false, undef, Value.slice (some ⟨w1.heap.size, 0, none⟩) 0 0, Value.int IntKind.i64 8, Value.bool false, u45, u46, u47, u48, u49, u50, u51, u52, u53, u54, Value.pointer (some ⟨w.heap.size, 0, none⟩), Value.string nm, Value.agg #[Value.string nm, Value.slice none 0 0], Value.int IntKind.i64 (k : Int), Value.pointer (some ⟨w.heap.size, 1, none⟩), Value.slice A k c, Value.int IntKind.i64 (k : Int), Value.bool false, u63, u64, u65, u66, u67, u68, u69, u70, u71, u72, u73, u74, u75, u76, u77, u78, u79, u80, Value.tuple #[Value.slice (some ada) k ca, Value.int IntKind.i64 0], Value.agg #[Value.string nm, Value.slice A k c], Value.tuple #[Value.slice (some ada) k ca, Value.int IntKind.i64 0], Value.slice (some ada) k ca, Value.int IntKind.i64 0, Value.tuple #[Value.slice (some adb) k cb, Value.int IntKind.i64 0], Value.agg #[Value.string nm, Value.slice Ag k cg], Value.tuple #[Value.slice (some adb) k cb, Value.int IntKind.i64 0], Value.slice (some adb) k cb, Value.int IntKind.i64 0, Value.tuple #[Value.slice Ac qd cc, Value.int IntKind.i64 0], Value.agg #[Value.string nm, Value.slice A k c], Value.tuple #[Value.slice Ac qd cc, Value.int IntKind.i64 0], Value.slice Ac qd cc, Value.int IntKind.i64 0, Value.tuple #[Value.slice Ad qd cd, Value.int IntKind.i64 0], Value.agg #[Value.string nm, Value.slice Ag k cg], Value.tuple #[Value.slice Ad qd cd, Value.int IntKind.i64 0], Value.slice Ad qd cd, Value.int IntKind.i64 0, Value.tuple #[Value.int IntKind.i64 (prR C), Value.int IntKind.i64 0], Value.agg #[Value.string nm, Value.slice A k c], Value.tuple #[Value.int IntKind.i64 (prR C), Value.int IntKind.i64 0], Value.int IntKind.i64 (prR C), Value.int IntKind.i64 0, Value.tuple #[Value.int IntKind.i64 (prR C), Value.int IntKind.i64 0], Value.agg #[Value.string nm, Value.slice Ag k cg], Value.tuple #[Value.int IntKind.i64 (prR C), Value.int IntKind.i64 0], Value.int IntKind.i64 (prR C), Value.int IntKind.i64 0, Value.int IntKind.i64 0, Value.bool false, Value.bool false, Value.int IntKind.i64 0, Value.bool false, Value.bool false, Value.bool false, Value.int IntKind.i64 0, Value.bool false, Value.bool false, Value.bool false, Value.int IntKind.i64 0, Value.bool false, Value.bool false, Value.bool false, Value.int IntKind.i64 0, Value.bool false, Value.bool false, Value.bool false, Value.int IntKind.i64 0, Value.bool false, Value.bool false, Value.bool false, Value.slice (some ada) k ca, Value.int IntKind.i64 (k : Int), Value.slice (some adb) k cb, Value.int IntKind.i64 (k : Int), Value.bool false, Value.bool false, Value.bool false, Value.int IntKind.i64 (prR C), Value.int IntKind.i64 (prR C), Value.bool false, Value.bool false, Value.bool false, Value.slice Ac qd cc, Value.slice Ad qd cd, Value.bool true, Value.bool false, Value.bool false, Value.int IntKind.i64 (j : Int), Value.slice (some ada) k ca, Value.int IntKind.i64 (k : Int), Value.bool true, u155, u156, Value.slice (some ⟨wj.heap.size, 0, none⟩) 0 0, Value.int IntKind.i64 (t : Int), Value.slice (some ada) k ca, Value.int IntKind.i64 (j : Int), Value.pointer (some (ada.add j)), Value.slice Ala t cla, Value.int IntKind.i64 (t : Int), Value.bool false, u165, u166, u167, u168, u169, u170, u171, u172, u173, u174, u175, u176, u177, u178, u179, u180, u181, u182, u183, u184, u185, u186, u187, u188, u189, u190, u191, u192, u193, u194, u195, u196, u197, .slice Am t cm, u199, .slice (some adb) k cb, .int .i64 (j : Int), .pointer (some (adb.add j)), .slice Alb qb clb, u204, u205, undef], defers := [] } Z1 := by
                    refine (hG _ _ _ _).2 ?_
                    refine wpAnyIn_ready (rs := [1]) (by kernel_rfl) (by simp) ?_
                    refine AllReadyIn.cons rfl (fun K hK => ?_) (AllReadyIn.nil)
                    · go_simp
                      gi_wp2_with fail
                      refine ⟨trivial, (callsIn_wide.2 HMK.out).mono ?_⟩
                      rintro e X9 ⟨A9, c9, rfl, hr9, hb9⟩
                      rw [HQM.out]
                      refine hK _ _ ?_
                      clear hK K
                      (try simp only [Act.put, List.setIfInBounds_toArray, List.set_cons_zero, List.set_cons_succ])
                      exact (hG _ _ _ _).1 (hs11111100 _ _ _ ⟨hb9, hr9⟩)
                  have hs11110000 : ∀ (X9 : World) (A9 : Option Addr) (c9 : Nat) (_ : Below Z1.heap.size Z1 X9 ∧ Rd X9 A9 c9 mb), G 4 #[true, true, true, true, false, false, false, false] { tmps := #[Value.agg #[Value.string nm, Value.slice A k c], Value.int IntKind.u8 (m : Int), Value.pointer (some ⟨w.heap.size, 0, none⟩), undef, u4, Value.slice A1 q1 c1, Value.int IntKind.i64 0, Value.slice A7 8 c7, Value.int IntKind.i64 8, Value.pointer (some ⟨wo.heap.size, 0, none⟩), Value.int IntKind.i64 (k : Int), u11, u12, Value.slice (some ada) k ca, Value.int IntKind.i64 0, Value.slice (some adb) k cb, Value.int IntKind.i64 0, Value.slice Ac qd cc, Value.int IntKind.i64 0, Value.slice Ad qd cd, Value.int IntKind.i64 0, Value.int IntKind.i64 (prR C), Value.int IntKind.i64 0, Value.int IntKind.i64 (prR C), Value.int IntKind.i64 0, Value.int IntKind.i64 (j : Int), Value.slice Am t cm, Value.int IntKind.i64 (t : Int), Value.tuple #[Value.slice A1 q1 c1, Value.int IntKind.i64 0], Value.agg #[Value.string nm, Value.slice A k c], Value.tuple #[Value.slice A1 q1 c1, Value.int IntKind.i64 0], Value.slice A1 q1 c1, Value.int IntKind.i64 0, Value.pointer (some ⟨w.heap.size, 1, none⟩), Value.slice A k c, Value.int IntKind.i64 (k : Int), Value.bool false, Value.bool false, Value.int IntKind.i64 0, Value.bool false, Value.bool false, undef, Value.slice (some ⟨w1.heap.size, 0, none⟩) 0 0, Value.int IntKind.i64 8, Value.bool false, u45, u46, u47, u48, u49, u50, u51, u52, u53, u54, Value.pointer (some ⟨w.heap.size, 0, none⟩), Value.string nm, Value.agg #[Value.string nm, Value.slice none 0 0], Value.int IntKind.i64 (k : Int), Value.pointer (some ⟨w.heap.size, 1, none⟩), Value.slice A k c, Value.int IntKind.i64 (k : Int), Value.bool false, u63, u64, u65, u66, u67, u68, u69, u70, u71, u72, u73, u74, u75, u76, u77, u78, u79, u80, Value.tuple #[Value.slice (some ada) k ca, Value.int IntKind.i64 0], Value.agg #[Value.string nm, Value.slice A k c], Value.tuple #[Value.slice (some ada) k ca, Value.int IntKind.i64 0], Value.slice (some ada) k ca, Value.int IntKind.i64 0, Value.tuple #[Value.slice (some adb) k cb, Value.int IntKind.i64 0], Value.agg #[Value.string nm, Value.slice Ag k cg], Value.tuple #[Value.slice (some adb) k cb, Value.int IntKind.i64 0], Value.slice (some adb) k cb, Value.int IntKind.i64 0, Value.tuple #[Value.slice Ac qd cc, Value.int IntKind.i64 0], Value.agg #[Value.string nm, Value.slice A k c], Value.tuple #[Value.slice Ac qd cc, Value.int IntKind.i64 0], Value.slice Ac qd cc, Value.int IntKind.i64 0, Value.tuple #[Value.slice Ad qd cd, Value.int IntKind.i64 0], Value.agg #[Value.string nm, Value.slice Ag k cg], Value.tuple #[Value.slice Ad qd cd, Value.int IntKind.i64 0], Value.slice Ad qd cd, Value.int IntKind.i64 0, Value.tuple #[Value.int IntKind.i64 (prR C), Value.int IntKind.i64 0], Value.agg #[Value.string nm, Value.slice A k c], Value.tuple #[Value.int IntKind.i64 (prR C), Value.int IntKind.i64 0], Value.int IntKind.i64 (prR C), Value.int IntKind.i64 0, Value.tuple #[Value.int IntKind.i64 (prR C), Value.int IntKind.i64 0], Value.agg #[Value.string nm, Value.slice Ag k cg], Value.tuple #[Value.int IntKind.i64 (prR C), Value.int IntKind.i64 0], Value.int IntKind.i64 (prR C), Value.int IntKind.i64 0, Value.int IntKind.i64 0, Value.bool false, Value.bool false, Value.int IntKind.i64 0, Value.bool false, Value.bool false, Value.bool false, Value.int IntKind.i64 0, Value.bool false, Value.bool false, Value.bool false, Value.int IntKind.i64 0, Value.bool false, Value.bool false, Value.bool false, Value.int IntKind.i64 0, Value.bool false, Value.bool false, Value.bool false, Value.int IntKind.i64 0, Value.bool false, Value.bool false, Value.bool false, Value.slice (some ada) k ca, Value.int IntKind.i64 (k : Int), Value.slice (some adb) k cb, Value.int IntKind.i64 (k : Int), Value.bool false, Value.bool false, Value.bool false, Value.int IntKind.i64 (prR C), Value.int IntKind.i64 (prR C), Value.bool false, Value.bool false, Value.bool false, Value.slice Ac qd cc, Value.slice Ad qd cd, Value.bool true, Value.bool false, Value.bool false, Value.int IntKind.i64 (j : Int), Value.slice (some ada) k ca, Value.int IntKind.i64 (k : Int), Value.bool true, u155, u156, Value.slice (some ⟨wj.heap.size, 0, none⟩) 0 0, Value.int IntKind.i64 (t : Int), Value.slice (some ada) k ca, Value.int IntKind.i64 (j : Int), Value.pointer (some (ada.add j)), Value.slice Ala t cla, Value.int IntKind.i64 (t : Int), Value.bool false, u165, u166, u167, u168, u169, u170, u171, u172, u173, u174, u175, u176, u177, u178, u179, u180, u181, u182, u183, u184, u185, u186, u187, u188, u189, u190, u191, u192, u193, u194, u195, u196, u197, .slice Am t cm, .slice A9 qb c9, .slice (some adb) k cb, .int .i64 (j : Int), u202, u203, u204, u205, undef], defers := [] } X9 := by
                    intro X9 A9 c9 HP
                    have HP := Lib.hid HP
                    refine (hG _ _ _ _).2 ?_
                    refine wpAnyIn_ready (rs := [4]) (by kernel_rfl) (by simp) ?_
                    refine AllReadyIn.cons rfl (fun K hK => ?_) (AllReadyIn.nil)
                    · go_simp
                      refine hK _ _ ?_
                      clear hK K
                      (try simp only [Act.put, List.setIfInBounds_toArray, List.set_cons_zero, List.set_cons_succ])
                      exact (hG _ _ _ _).1 (hs11111000 _ _ _ HP.out)
                  have hs10111000 : G 4 #[true, false, true, true, true, false, false, false] { tmps := #[Value.agg #[Value.string nm, Value.slice A k c], Value.int IntKind.u8 (m : Int), Value.pointer (some ⟨w.heap.size, 0, none⟩), undef, u4, Value.slice A1 q1 c1, Value.int IntKind.i64 0, Value.slice A7 8 c7, Value.int IntKind.i64 8, Value.pointer (some ⟨wo.heap.size, 0, none⟩), Value.int IntKind.i64 (k : Int), u11, u12, Value.slice (some ada) k ca, Value.int IntKind.i64 0, Value.slice (some adb) k cb, Value.int IntKind.i64 0, Value.slice Ac qd cc, Value.int IntKind.i64 0, Value.slice Ad qd cd, Value.int IntKind.i64 0, Value.int IntKind.i64 (prR C), Value.int IntKind.i64 0, Value.int IntKind.i64 (prR C), Value.int IntKind.i64 0, Value.int IntKind.i64 (j : Int), Value.slice Am t cm, Value.int IntKind.i64 (t : Int), Value.tuple #[Value.slice A1 q1 c1, Value.int IntKind.i64 0], Value.agg #[Value.string nm, Value.slice A k c], Value.tuple #[Value.slice A1 q1 c1, Value.int IntKind.i64 0], Value.slice A1 q1 c1, Value.int IntKind.i64 0, Value.pointer (some ⟨w.heap.size, 1, none⟩), Value.slice A k c, Value.int IntKind.i64 (k : Int), Value.bool false, Value.bool false, Value.int IntKind.i64 0, Value.bool false, Value.bool false, undef, Value.slice (some ⟨w1.heap.size, 0, none⟩) 0 0, Value.int IntKind.i64 8, Value.bool false, u45, u46, u47, u48, u49, u50, u51, u52, u53, u54, Value.pointer (some ⟨w.heap.size, 0, none⟩), Value.string nm, Value.agg #[Value.string nm, Value.slice none 0 0], Value.int IntKind.i64 (k : Int), Value.pointer (some ⟨w.heap.size, 1, none⟩), Value.slice A k c, Value.int IntKind.i64 (k : Int), Value.bool false, u63, u64, u65, u66, u67, u68, u69, u70, u71, u72, u73, u74, u75, u76, u77, u78, u79, u80, Value.tuple #[Value.slice (some ada) k ca, Value.int IntKind.i64 0], Value.agg #[Value.string nm, Value.slice A k c], Value.tuple #[Value.slice (some ada) k ca, Value.int IntKind.i64 0], Value.slice (some ada) k ca, Value.int IntKind.i64 0, Value.tuple #[Value.slice (some adb) k cb, Value.int IntKind.i64 0], Value.agg #[Value.string nm, Value.slice Ag k cg], Value.tuple #[Value.slice (some adb) k cb, Value.int IntKind.i64 0], Value.slice (some adb) k cb, Value.int IntKind.i64 0, Value.tuple #[Value.slice Ac qd cc, Value.int IntKind.i64 0], Value.agg #[Value.string nm, Value.slice A k c], Value.tuple #[Value.slice Ac qd cc, Value.int IntKind.i64 0], Value.slice Ac qd cc, Value.int IntKind.i64 0, Value.tuple #[Value.slice Ad qd cd, Value.int IntKind.i64 0], Value.agg #[Value.string nm, Value.slice Ag k cg], Value.tuple #[Value.slice Ad qd cd, Value.int IntKind.i64 0], Value.slice Ad qd cd, Value.int IntKind.i64 0, Value.tuple #[Value.int IntKind.i64 (prR C), Value.int IntKind.i64 0], Value.agg #[Value.string nm, Value.slice A k c], Value.tuple #[Value.int IntKind.i64 (prR C), Value.int IntKind.i64 0], Value.int IntKind.i64 (prR C), Value.int IntKind.i64 0, Value.tuple #[Value.int IntKind.i64 (prR C), Value.int IntKind.i64 0], Value.agg #[Value.string nm, Value.slice Ag k cg], Value.tuple #[Value.int IntKind.i64 (prR C), Value.int IntKind.i64 0], Value.int IntKind.i64 (prR C), Value.int IntKind.i64 0, Value.int IntKind.i64 0, Value.bool false, Value.bool false, Value.int IntKind.i64 0, Value.bool false, Value.bool false, Value.bool false, Value.int IntKind.i64 0, Value.bool false, Value.bool false, Value.bool false, Value.int IntKind.i64 0, Value.bool false, Value.bool false, Value.bool false, Value.int IntKind.i64 0, Value.bool false, Value.bool false, Value.bool false, Value.int IntKind.i64 0, Value.bool false, Value.bool false, Value.bool false, Value.slice (some ada) k ca, Value.int IntKind.i64 (k : Int), Value.slice (some adb) k cb, Value.int IntKind.i64 (k : Int), Value.bool false, Value.bool false, Value.bool false, Value.int IntKind.i64 (prR C), Value.int IntKind.i64 (prR C), Value.bool false, Value.bool false, Value.bool false, Value.slice Ac qd cc, Value.slice Ad qd cd, Value.bool true, Value.bool false, Value.bool false, Value.int IntKind.i64 (j : Int), Value.slice (some ada) k ca, Value.int IntKind.i64 (k : Int), Value.bool true, u155, u156, Value.slice (some ⟨wj.heap.size, 0, none⟩) 0 0, Value.int IntKind.i64 (t : Int), Value.slice (some ada) k ca, Value.int IntKind.i64 (j : Int), Value.pointer (some (ada.add j)), Value.slice Ala t cla, Value.int IntKind.i64 (t : Int), Value.bool false, u165, u166, u167, u168, u169, u170, u171, u172, u173, u174, u175, u176, u177, u178, u179, u180, u181, u182, u183, u184, u185, u186, u187, u188, u189, u190, u191, u192, u193, u194, u195, u196, u197, .slice Am t cm, u199, .slice (some adb) k cb, .int .i64 (j : Int), .pointer (some (adb.add j)), u203, u204, u205, undef], defers := [] } Z1 := by
                    refine (hG _ _ _ _).2 ?_
                    refine wpAnyIn_ready (rs := [1, 5]) (by kernel_rfl) (by simp) ?_
                    refine AllReadyIn.cons rfl (fun K hK => ?_) (AllReadyIn.cons rfl (fun K hK => ?_) (AllReadyIn.nil))
                    · go_simp
                      gi_wp2_with fail
                      refine ⟨trivial, (callsIn_wide.2 HMK.out).mono ?_⟩
                      rintro e X9 ⟨A9, c9, rfl, hr9, hb9⟩
                      rw [HQM.out]
                      refine hK _ _ ?_
                      clear hK K
                      (try simp only [Act.put, List.setIfInBounds_toArray, List.set_cons_zero, List.set_cons_succ])
                      exact (hG _ _ _ _).1 (hs11111000 _ _ _ ⟨hb9, hr9⟩)
                    · have tl := tz
                      go_simp
                      refine hK _ _ ?_
                      clear hK K
                      (try simp only [Act.put, List.setIfInBounds_toArray, List.set_cons_zero, List.set_cons_succ])
                      exact (hG _ _ _ _).1 hs10111100
                  have hs10110000 : G 5 #[true, false, true, true, false, false, false, false] { tmps := #[Value.agg #[Value.string nm, Value.slice A k c], Value.int IntKind.u8 (m : Int), Value.pointer (some ⟨w.heap.size, 0, none⟩), undef, u4, Value.slice A1 q1 c1, Value.int IntKind.i64 0, Value.slice A7 8 c7, Value.int IntKind.i64 8, Value.pointer (some ⟨wo.heap.size, 0, none⟩), Value.int IntKind.i64 (k : Int), u11, u12, Value.slice (some ada) k ca, Value.int IntKind.i64 0, Value.slice (some adb) k cb, Value.int IntKind.i64 0, Value.slice Ac qd cc, Value.int IntKind.i64 0, Value.slice Ad qd cd, Value.int IntKind.i64 0, Value.int IntKind.i64 (prR C), Value.int IntKind.i64 0, Value.int IntKind.i64 (prR C), Value.int IntKind.i64 0, Value.int IntKind.i64 (j : Int), Value.slice Am t cm, Value.int IntKind.i64 (t : Int), Value.tuple #[Value.slice A1 q1 c1, Value.int IntKind.i64 0], Value.agg #[Value.string nm, Value.slice A k c], Value.tuple #[Value.slice A1 q1 c1, Value.int IntKind.i64 0], Value.slice A1 q1 c1, Value.int IntKind.i64 0, Value.pointer (some ⟨w.heap.size, 1, none⟩), Value.slice A k c, Value.int IntKind.i64 (k : Int), Value.bool false, Value.bool false, Value.int IntKind.i64 0, Value.bool false, Value.bool false, undef, Value.slice (some ⟨w1.heap.size, 0, none⟩) 0 0, Value.int IntKind.i64 8, Value.bool false, u45, u46, u47, u48, u49, u50, u51, u52, u53, u54, Value.pointer (some ⟨w.heap.size, 0, none⟩), Value.string nm, Value.agg #[Value.string nm, Value.slice none 0 0], Value.int IntKind.i64 (k : Int), Value.pointer (some ⟨w.heap.size, 1, none⟩), Value.slice A k c, Value.int IntKind.i64 (k : Int), Value.bool false, u63, u64, u65, u66, u67, u68, u69, u70, u71, u72, u73, u74, u75, u76, u77, u78, u79, u80, Value.tuple #[Value.slice (some ada) k ca, Value.int IntKind.i64 0], Value.agg #[Value.string nm, Value.slice A k c], Value.tuple #[Value.slice (some ada) k ca, Value.int IntKind.i64 0], Value.slice (some ada) k ca, Value.int IntKind.i64 0, Value.tuple #[Value.slice (some adb) k cb, Value.int IntKind.i64 0], Value.agg #[Value.string nm, Value.slice Ag k cg], Value.tuple #[Value.slice (some adb) k cb, Value.int IntKind.i64 0], Value.slice (some adb) k cb, Value.int IntKind.i64 0, Value.tuple #[Value.slice Ac qd cc, Value.int IntKind.i64 0], Value.agg #[Value.string nm, Value.slice A k c], Value.tuple #[Value.slice Ac qd cc, Value.int IntKind.i64 0], Value.slice Ac qd cc, Value.int IntKind.i64 0, Value.tuple #[Value.slice Ad qd cd, Value.int IntKind.i64 0], Value.agg #[Value.string nm, Value.slice Ag k cg], Value.tuple #[Value.slice Ad qd cd, Value.int IntKind.i64 0], Value.slice Ad qd cd, Value.int IntKind.i64 0, Value.tuple #[Value.int IntKind.i64 (prR C), Value.int IntKind.i64 0], Value.agg #[Value.string nm, Value.slice A k c], Value.tuple #[Value.int IntKind.i64 (prR C), Value.int IntKind.i64 0], Value.int IntKind.i64 (prR C), Value.int IntKind.i64 0, Value.tuple #[Value.int IntKind.i64 (prR C), Value.int IntKind.i64 0], Value.agg #[Value.string nm, Value.slice Ag k cg], Value.tuple #[Value.int IntKind.i64 (prR C), Value.int IntKind.i64 0], Value.int IntKind.i64 (prR C), Value.int IntKind.i64 0, Value.int IntKind.i64 0, Value.bool false, Value.bool false, Value.int IntKind.i64 0, Value.bool false, Value.bool false, Value.bool false, Value.int IntKind.i64 0, Value.bool false, Value.bool false, Value.bool false, Value.int IntKind.i64 0, Value.bool false, Value.bool false, Value.bool false, Value.int IntKind.i64 0, Value.bool false, Value.bool false, Value.bool false, Value.int IntKind.i64 0, Value.bool false, Value.bool false, Value.bool false, Value.slice (some ada) k ca, Value.int IntKind.i64 (k : Int), Value.slice (some adb) k cb, Value.int IntKind.i64 (k : Int), Value.bool false, Value.bool false, Value.bool false, Value.int IntKind.i64 (prR C), Value.int IntKind.i64 (prR C), Value.bool false, Value.bool false, Value.bool false, Value.slice Ac qd cc, Value.slice Ad qd cd, Value.bool true, Value.bool false, Value.bool false, Value.int IntKind.i64 (j : Int), Value.slice (some ada) k ca, Value.int IntKind.i64 (k : Int), Value.bool true, u155, u156, Value.slice (some ⟨wj.heap.size, 0, none⟩) 0 0, Value.int IntKind.i64 (t : Int), Value.slice (some ada) k ca, Value.int IntKind.i64 (j : Int), Value.pointer (some (ada.add j)), Value.slice Ala t cla, Value.int IntKind.i64 (t : Int), Value.bool false, u165, u166, u167, u168, u169, u170, u171, u172, u173, u174, u175, u176, u177, u178, u179, u180, u181, u182, u183, u184, u185, u186, u187, u188, u189, u190, u191, u192, u193, u194, u195, u196, u197, .slice Am t cm, u199, .slice (some adb) k cb, .int .i64 (j : Int), u202, u203, u204, u205, undef], defers := [] } Z1 := by
                    refine (hG _ _ _ _).2 ?_
                    refine wpAnyIn_ready (rs := [1, 4]) (by kernel_rfl) (by simp) ?_
                    refine AllReadyIn.cons rfl (fun K hK => ?_) (AllReadyIn.cons rfl (fun K hK => ?_) (AllReadyIn.nil))
                    · go_simp
                      gi_wp2_with fail
                      refine ⟨trivial, (callsIn_wide.2 HMK.out).mono ?_⟩
                      rintro e X9 ⟨A9, c9, rfl, hr9, hb9⟩
                      rw [HQM.out]
                      refine hK _ _ ?_
                      clear hK K
                      (try simp only [Act.put, List.setIfInBounds_toArray, List.set_cons_zero, List.set_cons_succ])
                      exact (hG _ _ _ _).1 (hs11110000 _ _ _ ⟨hb9, hr9⟩)
                    · go_simp
                      refine hK _ _ ?_
                      clear hK K
                      (try simp only [Act.put, List.setIfInBounds_toArray, List.set_cons_zero, List.set_cons_succ])
                      exact (hG _ _ _ _).1 hs10111000
                  have hs10100000 : G 6 #[true, false, true, false, false, false, false, false] { tmps := #[Value.agg #[Value.string nm, Value.slice A k c], Value.int IntKind.u8 (m : Int), Value.pointer (some ⟨w.heap.size, 0, none⟩), undef, u4, Value.slice A1 q1 c1, Value.int IntKind.i64 0, Value.slice A7 8 c7, Value.int IntKind.i64 8, Value.pointer (some ⟨wo.heap.size, 0, none⟩), Value.int IntKind.i64 (k : Int), u11, u12, Value.slice (some ada) k ca, Value.int IntKind.i64 0, Value.slice (some adb) k cb, Value.int IntKind.i64 0, Value.slice Ac qd cc, Value.int IntKind.i64 0, Value.slice Ad qd cd, Value.int IntKind.i64 0, Value.int IntKind.i64 (prR C), Value.int IntKind.i64 0, Value.int IntKind.i64 (prR C), Value.int IntKind.i64 0, Value.int IntKind.i64 (j : Int), Value.slice Am t cm, Value.int IntKind.i64 (t : Int), Value.tuple #[Value.slice A1 q1 c1, Value.int IntKind.i64 0], Value.agg #[Value.string nm, Value.slice A k c], Value.tuple #[Value.slice A1 q1 c1, Value.int IntKind.i64 0], Value.slice A1 q1 c1, Value.int IntKind.i64 0, Value.pointer (some ⟨w.heap.size, 1, none⟩), Value.slice A k c, Value.int IntKind.i64 (k : Int), Value.bool false, Value.bool false, Value.int IntKind.i64 0, Value.bool false, Value.bool false, undef, Value.slice (some ⟨w1.heap.size, 0, none⟩) 0 0, Value.int IntKind.i64 8, Value.bool false, u45, u46, u47, u48, u49, u50, u51, u52, u53, u54, Value.pointer (some ⟨w.heap.size, 0, none⟩), Value.string nm, Value.agg #[Value.string nm, Value.slice none 0 0], Value.int IntKind.i64 (k : Int), Value.pointer (some ⟨w.heap.size, 1, none⟩), Value.slice A k c, Value.int IntKind.i64 (k : Int), Value.bool false, u63, u64, u65, u66, u67, u68, u69, u70, u71, u72, u73, u74, u75, u76, u77, u78, u79, u80, Value.tuple #[Value.slice (some ada) k ca, Value.int IntKind.i64 0], Value.agg #[Value.string nm, Value.slice A k c], Value.tuple #[Value.slice (some ada) k ca, Value.int IntKind.i64 0], Value.slice (some ada) k ca, Value.int IntKind.i64 0, Value.tuple #[Value.slice (some adb) k cb, Value.int IntKind.i64 0], Value.agg #[Value.string nm, Value.slice Ag k cg], Value.tuple #[Value.slice (some adb) k cb, Value.int IntKind.i64 0], Value.slice (some adb) k cb, Value.int IntKind.i64 0, Value.tuple #[Value.slice Ac qd cc, Value.int IntKind.i64 0], Value.agg #[Value.string nm, Value.slice A k c], Value.tuple #[Value.slice Ac qd cc, Value.int IntKind.i64 0], Value.slice Ac qd cc, Value.int IntKind.i64 0, Value.tuple #[Value.slice Ad qd cd, Value.int IntKind.i64 0], Value.agg #[Value.string nm, Value.slice Ag k cg], Value.tuple #[Value.slice Ad qd cd, Value.int IntKind.i64 0], Value.slice Ad qd cd, Value.int IntKind.i64 0, Value.tuple #[Value.int IntKind.i64 (prR C), Value.int IntKind.i64 0], Value.agg #[Value.string nm, Value.slice A k c], Value.tuple #[Value.int IntKind.i64 (prR C), Value.int IntKind.i64 0], Value.int IntKind.i64 (prR C), Value.int IntKind.i64 0, Value.tuple #[Value.int IntKind.i64 (prR C), Value.int IntKind.i64 0], Value.agg #[Value.string nm, Value.slice Ag k cg], Value.tuple #[Value.int IntKind.i64 (prR C), Value.int IntKind.i64 0], Value.int IntKind.i64 (prR C), Value.int IntKind.i64 0, Value.int IntKind.i64 0, Value.bool false, Value.bool false, Value.int IntKind.i64 0, Value.bool false, Value.bool false, Value.bool false, Value.int IntKind.i64 0, Value.bool false, Value.bool false, Value.bool false, Value.int IntKind.i64 0, Value.bool false, Value.bool false, Value.bool false, Value.int IntKind.i64 0, Value.bool false, Value.bool false, Value.bool false, Value.int IntKind.i64 0, Value.bool false, Value.bool false, Value.bool false, Value.slice (some ada) k ca, Value.int IntKind.i64 (k : Int), Value.slice (some adb) k cb, Value.int IntKind.i64 (k : Int), Value.bool false, Value.bool false, Value.bool false, Value.int IntKind.i64 (prR C), Value.int IntKind.i64 (prR C), Value.bool false, Value.bool false, Value.bool false, Value.slice Ac qd cc, Value.slice Ad qd cd, Value.bool true, Value.bool false, Value.bool false, Value.int IntKind.i64 (j : Int), Value.slice (some ada) k ca, Value.int IntKind.i64 (k : Int), Value.bool true, u155, u156, Value.slice (some ⟨wj.heap.size, 0, none⟩) 0 0, Value.int IntKind.i64 (t : Int), Value.slice (some ada) k ca, Value.int IntKind.i64 (j : Int), Value.pointer (some (ada.add j)), Value.slice Ala t cla, Value.int IntKind.i64 (t : Int), Value.bool false, u165, u166, u167, u168, u169, u170, u171, u172, u173, u174, u175, u176, u177, u178, u179, u180, u181, u182, u183, u184, u185, u186, u187, u188, u189, u190, u191, u192, u193, u194, u195, u196, u197, .slice Am t cm, u199, .slice (some adb) k cb, u201, u202, u203, u204, u205, undef], defers := [] } Z1 := by
                    refine (hG _ _ _ _).2 ?_
                    refine wpAnyIn_take (i := 3) (v := .int .i64 (j : Int)) rfl rfl (by kernel_rfl) (by kernel_rfl) (by kernel_rfl) (fun _ _ _ h => h) (And.intro (Or.inl (And.intro (by kernel_rfl) (fun _ => by kernel_rfl))) (fun _ => by kernel_rfl)) ?_
                    (try simp only [Act.put, List.setIfInBounds_toArray, List.set_cons_zero, List.set_cons_succ])
                    exact (hG _ _ _ _).1 hs10110000
                  have hs10000000 : G 7 #[true, false, false, false, false, false, false, false] { tmps := #[Value.agg #[Value.string nm, Value.slice A k c], Value.int IntKind.u8 (m : Int), Value.pointer (some ⟨w.heap.size, 0, none⟩), undef, u4, Value.slice A1 q1 c1, Value.int IntKind.i64 0, Value.slice A7 8 c7, Value.int IntKind.i64 8, Value.pointer (some ⟨wo.heap.size, 0, none⟩), Value.int IntKind.i64 (k : Int), u11, u12, Value.slice (some ada) k ca, Value.int IntKind.i64 0, Value.slice (some adb) k cb, Value.int IntKind.i64 0, Value.slice Ac qd cc, Value.int IntKind.i64 0, Value.slice Ad qd cd, Value.int IntKind.i64 0, Value.int IntKind.i64 (prR C), Value.int IntKind.i64 0, Value.int IntKind.i64 (prR C), Value.int IntKind.i64 0, Value.int IntKind.i64 (j : Int), Value.slice Am t cm, Value.int IntKind.i64 (t : Int), Value.tuple #[Value.slice A1 q1 c1, Value.int IntKind.i64 0], Value.agg #[Value.string nm, Value.slice A k c], Value.tuple #[Value.slice A1 q1 c1, Value.int IntKind.i64 0], Value.slice A1 q1 c1, Value.int IntKind.i64 0, Value.pointer (some ⟨w.heap.size, 1, none⟩), Value.slice A k c, Value.int IntKind.i64 (k : Int), Value.bool false, Value.bool false, Value.int IntKind.i64 0, Value.bool false, Value.bool false, undef, Value.slice (some ⟨w1.heap.size, 0, none⟩) 0 0, Value.int IntKind.i64 8, Value.bool false, u45, u46, u47, u48, u49, u50, u51, u52, u53, u54, Value.pointer (some ⟨w.heap.size, 0, none⟩), Value.string nm, Value.agg #[Value.string nm, Value.slice none 0 0], Value.int IntKind.i64 (k : Int), Value.pointer (some ⟨w.heap.size, 1, none⟩), Value.slice A k c, Value.int IntKind.i64 (k : Int), Value.bool false, u63, u64, u65, u66, u67, u68, u69, u70, u71, u72, u73, u74, u75, u76, u77, u78, u79, u80, Value.tuple #[Value.slice (some ada) k ca, Value.int IntKind.i64 0], Value.agg #[Value.string nm, Value.slice A k c], Value.tuple #[Value.slice (some ada) k ca, Value.int IntKind.i64 0], Value.slice (some ada) k ca, Value.int IntKind.i64 0, Value.tuple #[Value.slice (some adb) k cb, Value.int IntKind.i64 0], Value.agg #[Value.string nm, Value.slice Ag k cg], Value.tuple #[Value.slice (some adb) k cb, Value.int IntKind.i64 0], Value.slice (some adb) k cb, Value.int IntKind.i64 0, Value.tuple #[Value.slice Ac qd cc, Value.int IntKind.i64 0], Value.agg #[Value.string nm, Value.slice A k c], Value.tuple #[Value.slice Ac qd cc, Value.int IntKind.i64 0], Value.slice Ac qd cc, Value.int IntKind.i64 0, Value.tuple #[Value.slice Ad qd cd, Value.int IntKind.i64 0], Value.agg #[Value.string nm, Value.slice Ag k cg], Value.tuple #[Value.slice Ad qd cd, Value.int IntKind.i64 0], Value.slice Ad qd cd, Value.int IntKind.i64 0, Value.tuple #[Value.int IntKind.i64 (prR C), Value.int IntKind.i64 0], Value.agg #[Value.string nm, Value.slice A k c], Value.tuple #[Value.int IntKind.i64 (prR C), Value.int IntKind.i64 0], Value.int IntKind.i64 (prR C), Value.int IntKind.i64 0, Value.tuple #[Value.int IntKind.i64 (prR C), Value.int IntKind.i64 0], Value.agg #[Value.string nm, Value.slice Ag k cg], Value.tuple #[Value.int IntKind.i64 (prR C), Value.int IntKind.i64 0], Value.int IntKind.i64 (prR C), Value.int IntKind.i64 0, Value.int IntKind.i64 0, Value.bool false, Value.bool false, Value.int IntKind.i64 0, Value.bool false, Value.bool false, Value.bool false, Value.int IntKind.i64 0, Value.bool false, Value.bool false, Value.bool false, Value.int IntKind.i64 0, Value.bool false, Value.bool false, Value.bool false, Value.int IntKind.i64 0, Value.bool false, Value.bool false, Value.bool false, Value.int IntKind.i64 0, Value.bool false, Value.bool false, Value.bool false, Value.slice (some ada) k ca, Value.int IntKind.i64 (k : Int), Value.slice (some adb) k cb, Value.int IntKind.i64 (k : Int), Value.bool false, Value.bool false, Value.bool false, Value.int IntKind.i64 (prR C), Value.int IntKind.i64 (prR C), Value.bool false, Value.bool false, Value.bool false, Value.slice Ac qd cc, Value.slice Ad qd cd, Value.bool true, Value.bool false, Value.bool false, Value.int IntKind.i64 (j : Int), Value.slice (some ada) k ca, Value.int IntKind.i64 (k : Int), Value.bool true, u155, u156, Value.slice (some ⟨wj.heap.size, 0, none⟩) 0 0, Value.int IntKind.i64 (t : Int), Value.slice (some ada) k ca, Value.int IntKind.i64 (j : Int), Value.pointer (some (ada.add j)), Value.slice Ala t cla, Value.int IntKind.i64 (t : Int), Value.bool false, u165, u166, u167, u168, u169, u170, u171, u172, u173, u174, u175, u176, u177, u178, u179, u180, u181, u182, u183, u184, u185, u186, u187, u188, u189, u190, u191, u192, u193, u194, u195, u196, u197, .slice Am t cm, u199, u200, u201, u202, u203, u204, u205, undef], defers := [] } Z1 := by
                    refine (hG _ _ _ _).2 ?_
                    refine wpAnyIn_take (i := 2) (v := .slice (some adb) k cb) rfl rfl (by kernel_rfl) (by kernel_rfl) (by kernel_rfl) (fun _ _ _ h => h) (And.intro (Or.inl (And.intro (by kernel_rfl) (fun _ => by kernel_rfl))) (fun _ => by kernel_rfl)) ?_
                    (try simp only [Act.put, List.setIfInBounds_toArray, List.set_cons_zero, List.set_cons_succ])
                    exact (hG _ _ _ _).1 hs10100000
                  have hs00000000 : G 8 #[false, false, false, false, false, false, false, false] { tmps := #[Value.agg #[Value.string nm, Value.slice A k c], Value.int IntKind.u8 (m : Int), Value.pointer (some ⟨w.heap.size, 0, none⟩), undef, u4, Value.slice A1 q1 c1, Value.int IntKind.i64 0, Value.slice A7 8 c7, Value.int IntKind.i64 8, Value.pointer (some ⟨wo.heap.size, 0, none⟩), Value.int IntKind.i64 (k : Int), u11, u12, Value.slice (some ada) k ca, Value.int IntKind.i64 0, Value.slice (some adb) k cb, Value.int IntKind.i64 0, Value.slice Ac qd cc, Value.int IntKind.i64 0, Value.slice Ad qd cd, Value.int IntKind.i64 0, Value.int IntKind.i64 (prR C), Value.int IntKind.i64 0, Value.int IntKind.i64 (prR C), Value.int IntKind.i64 0, Value.int IntKind.i64 (j : Int), Value.slice Am t cm, Value.int IntKind.i64 (t : Int), Value.tuple #[Value.slice A1 q1 c1, Value.int IntKind.i64 0], Value.agg #[Value.string nm, Value.slice A k c], Value.tuple #[Value.slice A1 q1 c1, Value.int IntKind.i64 0], Value.slice A1 q1 c1, Value.int IntKind.i64 0, Value.pointer (some ⟨w.heap.size, 1, none⟩), Value.slice A k c, Value.int IntKind.i64 (k : Int), Value.bool false, Value.bool false, Value.int IntKind.i64 0, Value.bool false, Value.bool false, undef, Value.slice (some ⟨w1.heap.size, 0, none⟩) 0 0, Value.int IntKind.i64 8, Value.bool false, u45, u46, u47, u48, u49, u50, u51, u52, u53, u54, Value.pointer (some ⟨w.heap.size, 0, none⟩), Value.string nm, Value.agg #[Value.string nm, Value.slice none 0 0], Value.int IntKind.i64 (k : Int), Value.pointer (some ⟨w.heap.size, 1, none⟩), Value.slice A k c, Value.int IntKind.i64 (k : Int), Value.bool false, u63, u64, u65, u66, u67, u68, u69, u70, u71, u72, u73, u74, u75, u76, u77, u78, u79, u80, Value.tuple #[Value.slice (some ada) k ca, Value.int IntKind.i64 0], Value.agg #[Value.string nm, Value.slice A k c], Value.tuple #[Value.slice (some ada) k ca, Value.int IntKind.i64 0], Value.slice (some ada) k ca, Value.int IntKind.i64 0, Value.tuple #[Value.slice (some adb) k cb, Value.int IntKind.i64 0], Value.agg #[Value.string nm, Value.slice Ag k cg], Value.tuple #[Value.slice (some adb) k cb, Value.int IntKind.i64 0], Value.slice (some adb) k cb, Value.int IntKind.i64 0, Value.tuple #[Value.slice Ac qd cc, Value.int IntKind.i64 0], Value.agg #[Value.string nm, Value.slice A k c], Value.tuple #[Value.slice Ac qd cc, Value.int IntKind.i64 0], Value.slice Ac qd cc, Value.int IntKind.i64 0, Value.tuple #[Value.slice Ad qd cd, Value.int IntKind.i64 0], Value.agg #[Value.string nm, Value.slice Ag k cg], Value.tuple #[Value.slice Ad qd cd, Value.int IntKind.i64 0], Value.slice Ad qd cd, Value.int IntKind.i64 0, Value.tuple #[Value.int IntKind.i64 (prR C), Value.int IntKind.i64 0], Value.agg #[Value.string nm, Value.slice A k c], Value.tuple #[Value.int IntKind.i64 (prR C), Value.int IntKind.i64 0], Value.int IntKind.i64 (prR C), Value.int IntKind.i64 0, Value.tuple #[Value.int IntKind.i64 (prR C), Value.int IntKind.i64 0], Value.agg #[Value.string nm, Value.slice Ag k cg], Value.tuple #[Value.int IntKind.i64 (prR C), Value.int IntKind.i64 0], Value.int IntKind.i64 (prR C), Value.int IntKind.i64 0, Value.int IntKind.i64 0, Value.bool false, Value.bool false, Value.int IntKind.i64 0, Value.bool false, Value.bool false, Value.bool false, Value.int IntKind.i64 0, Value.bool false, Value.bool false, Value.bool false, Value.int IntKind.i64 0, Value.bool false, Value.bool false, Value.bool false, Value.int IntKind.i64 0, Value.bool false, Value.bool false, Value.bool false, Value.int IntKind.i64 0, Value.bool false, Value.bool false, Value.bool false, Value.slice (some ada) k ca, Value.int IntKind.i64 (k : Int), Value.slice (some adb) k cb, Value.int IntKind.i64 (k : Int), Value.bool false, Value.bool false, Value.bool false, Value.int IntKind.i64 (prR C), Value.int IntKind.i64 (prR C), Value.bool false, Value.bool false, Value.bool false, Value.slice Ac qd cc, Value.slice Ad qd cd, Value.bool true, Value.bool false, Value.bool false, Value.int IntKind.i64 (j : Int), Value.slice (some ada) k ca, Value.int IntKind.i64 (k : Int), Value.bool true, u155, u156, Value.slice (some ⟨wj.heap.size, 0, none⟩) 0 0, Value.int IntKind.i64 (t : Int), Value.slice (some ada) k ca, Value.int IntKind.i64 (j : Int), Value.pointer (some (ada.add j)), Value.slice Ala t cla, Value.int IntKind.i64 (t : Int), Value.bool false, u165, u166, u167, u168, u169, u170, u171, u172, u173, u174, u175, u176, u177, u178, u179, u180, u181, u182, u183, u184, u185, u186, u187, u188, u189, u190, u191, u192, u193, u194, u195, u196, u197, u198, u199, u200, u201, u202, u203, u204, u205, undef], defers := [] } Z1 := by
                    refine (hG _ _ _ _).2 ?_
                    refine wpAnyIn_take (i := 0) (v := .slice Am t cm) rfl rfl (by kernel_rfl) (by kernel_rfl) (by kernel_rfl) (fun _ _ _ h => h) (And.intro (Or.inl (And.intro (by kernel_rfl) (fun _ => by kernel_rfl))) (fun _ => by kernel_rfl)) ?_
                    (try simp only [Act.put, List.setIfInBounds_toArray, List.set_cons_zero, List.set_cons_succ])
                    exact (hG _ _ _ _).1 hs10000000
                  exact hs00000000
            · obtain rfl : j = k := by omega
              have HXE := Lib.hid (HEX.out wr (belowThen hbw (belowThen HX7.out HBj.out)))
              gi_wp2_with fail
              refine ⟨trivial, (callsIn_wide.2 HXE.out).mono ?_⟩
              rintro e w9 ⟨rfl, b9⟩
              gi_wp2
              go_ret
              exact ⟨rfl, belowThen HBW.out (belowThen (belowThen hbw (belowThen HX7.out HBj.out)) b9)⟩
end Go.Proofs.YtkanamdfjegcbaaDoor
