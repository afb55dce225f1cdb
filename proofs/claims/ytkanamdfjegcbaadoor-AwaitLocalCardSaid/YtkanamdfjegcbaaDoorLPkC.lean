/-
  Arguments opened: a program by value, a configuration, a string.
-/
import Derived.Test.YtkanamdfjegcbaaDoorLPkA
import Derived.Test.YtkanamdfjegcbaaDoorLPgZ
import Derived.Test.YtkanamdfjegcbaaDoorLPkB
import Derived.Test.YtkanamdfjegcbaaDoorLPgX
import Derived.Test.YtkanamdfjegcbaaDoorLPgY
import Derived.Test.YtkanamdfjegcbaaDoorLMk
import Derived.Test.YtkanamdfjegcbaaDoorLIU
import Derived.ProofKit
import Derived.OpenShut
import Derived.ChangeMaps5
import Derived.Deep.SlicePairs
import Derived.Lib.SmallJoins
namespace Go.Proofs.YtkanamdfjegcbaaDoor
open Go Go.RowKit

theorem fnHit {p : Prg} {l : List (ByteArray × List I8)} {k : Nat} (hk : k < l.length) (h : (p.cd1 l[k].2).1 ≠ 0) : p.fnF (l.drop k) k = ((p.cd1 l[k].2).1, (k : Int), (p.cd1 l[k].2).2) := by
  rw [List.drop_eq_getElem_cons hk, Prg.fnF, if_pos h]
theorem fnMiss {p : Prg} {l : List (ByteArray × List I8)} {k : Nat} (hk : k < l.length) (h : (p.cd1 l[k].2).1 = 0) : p.fnF (l.drop k) k = p.fnF (l.drop (k + 1)) (k + 1) := by
  rw [List.drop_eq_getElem_cons hk, Prg.fnF, if_neg (by rw [h]; simp)]
theorem fnEnd {p : Prg} {l : List (ByteArray × List I8)} {k : Nat} (hk : l.length ≤ k) : p.fnF (l.drop k) k = (0, -1, -1) := by
  rw [List.drop_eq_nil_of_le hk, Prg.fnF]
theorem rdsOf {w : World} {A : Option Addr} {c : Nat} {l : List ByteArray} (h : RdE 1 ES w A c l) : Rds w A c (sv l) := by
  refine ⟨by rw [svLen]; exact h.le, h.max, fun hn => ?_⟩
  rw [svLen] at hn
  obtain ⟨b, off, hA, hb, _⟩ := h.one hn
  refine ⟨_, hA, hb, fun j u hu => ?_⟩
  have hj : j < l.length := by
    have := (List.getElem?_eq_some_iff.1 hu).1
    rwa [svLen] at this
  obtain ⟨b', off', hA', _, hc⟩ := h.one hj
  rw [hA] at hA'
  injection hA' with hA'
  injection hA' with e1 e2
  subst e1 e2
  have hu2 : u = .string l[j] := by
    have : (sv l)[j]? = some (.string l[j]) := by simp [sv, hj]
    rw [this] at hu
    exact (Option.some.inj hu).symm
  rw [hu2, Addr.add_lit]
  have hc : w.cell? ⟨b, off + j * 1, none⟩ = some (.string l[j]) := hc
  rwa [Nat.mul_one] at hc
theorem rNamesV (l : List ByteArray) (n : Nat) (hn : l.length = n) (hl : ∀ s ∈ l, s.size ≤ maxLen) (A : Option Addr) (c : Nat) (i x : Int) (h : nmR (nmF [] l 0) = (i, x)) (w : World) (hr : Rds w A c (sv l)) :
    Calls Tryd.prog 89 #[.slice A n c] w fun e w' => e = .returned (.tuple #[.int .i64 i, .int .i64 x]) ∧ Below w.heap.size w w' := by
  have := rNamesP l n hn hl A c w hr
  rwa [h] at this
theorem ret3I {x y : Int × Int × Int} (h : x = y) : Ending.returned (.tuple #[.int .i64 x.1, .int .i64 x.2.1, .int .i64 x.2.2]) = err3 y := by rw [h]; rfl
theorem fewOf {p : Prg} (h : p.small = true) : p.vars.length ≤ 20 ∧ p.muts.length ≤ 20 ∧ p.conds.length ≤ 20 ∧ p.funcs.length ≤ 20 ∧ p.thr.length ≤ 20 := by
  unfold Prg.small Prg.few at h
  simp only [Bool.and_eq_true, decide_eq_true_eq] at h
  omega
set_option maxRecDepth 100000 in
set_option maxHeartbeats 8000000 in
theorem rCheckP {a : PgA} {p : Prg} (w : World) (hP : PgW w a p) (hW : p.Wf) (hsm : p.small = true) : Calls Tryd.prog 59 #[a.val] w fun e w' => e = err3 p.chk ∧ Below w.heap.size w w' := by
  have hfw := fewOf hsm
  rw [hP.l1, hP.l2, hP.l3, hP.l4, hP.l5] at hfw
  obtain ⟨q1, q2, q3, q4, q5⟩ := hfw
  obtain ⟨W, hWE⟩ : ∃ W, w.alloc (.cells a.fs 54) = W := ⟨_, rfl⟩
  have hbW : Below w.heap.size w W := by rw [← hWE]; exact belowAlloc w _
  have hB : PBox W w.heap.size a := by rw [← hWE]; exact Blk.new w _ _
  have HK := Lib.hid (fun Y (hY : Below W.heap.size W Y) => (hB.below hY).facts)
  have HP := Lib.hid (fun Y (hY : Below W.heap.size W Y) => (hP.below hbW).below hY)
  have HV := Lib.hid (fun Y (hY : Below W.heap.size W Y) k (hk : k < p.vars.length) => (HP.out Y hY).vars.one hk)
  have HF := Lib.hid (fun Y (hY : Below W.heap.size W Y) k (hk : k < p.funcs.length) => (HP.out Y hY).funcs.one hk)
  have HLS := Lib.hid (rLists W (HP.out W (Below.refl _ _)) q1 q4)
  have HTH := Lib.hid (fun Y (hY : Below W.heap.size W Y) => rThreads Y (HP.out Y hY))
  have HCD := Lib.hid (fun Y (hY : Below W.heap.size W Y) nm l Ac nc cc hn hr => rCode Y (HP.out Y hY) nm l Ac nc cc hn hr)
  have HL1 := Lib.hid hP.l1
  have HL4 := Lib.hid hP.l4
  obtain ⟨i1, x1, h1⟩ : ∃ i x, nmR (nmF [] (p.vars.map (·.1)) 0) = (i, x) := ⟨_, _, rfl⟩
  obtain ⟨i2, x2, h2⟩ : ∃ i x, nmR (nmF [] p.muts 0) = (i, x) := ⟨_, _, rfl⟩
  obtain ⟨i3, x3, h3⟩ : ∃ i x, nmR (nmF [] p.conds 0) = (i, x) := ⟨_, _, rfl⟩
  obtain ⟨i4, x4, h4⟩ : ∃ i x, nmR (nmF [] (p.funcs.map (·.1)) 0) = (i, x) := ⟨_, _, rfl⟩
  have H1 := Lib.hid (fun A c X hr => rNamesV (p.vars.map (·.1)) _ rfl (fun s hs => by obtain ⟨v, hv, rfl⟩ := List.mem_map.1 hs; exact hW.vn v hv) A c i1 x1 h1 X hr)
  have H4 := Lib.hid (fun A c X hr => rNamesV (p.funcs.map (·.1)) _ rfl (fun s hs => by obtain ⟨v, hv, rfl⟩ := List.mem_map.1 hs; exact hW.fn v hv) A c i4 x4 h4 X hr)
  have H2 := Lib.hid (fun X (hX : Below W.heap.size W X) => rNamesV p.muts a.n2 hP.l2 hW.mn a.A2 a.c2 i2 x2 h2 X (rdsOf (HP.out X hX).muts))
  have H3 := Lib.hid (fun X (hX : Below W.heap.size W X) => rNamesV p.conds a.n3 hP.l3 hW.cn a.A3 a.c3 i3 x3 h3 X (rdsOf (HP.out X hX).conds))
  obtain ⟨r, hr⟩ : ∃ r, p.chk = r := ⟨_, rfl⟩
  rw [hr]
  have e1 : (nmF [] (p.vars.map (·.1)) 0).1 = x1 := congrArg Prod.snd h1
  have e2 : (nmF [] p.muts 0).1 = x2 := congrArg Prod.snd h2
  have e3 : (nmF [] p.conds 0).1 = x3 := congrArg Prod.snd h3
  have e4 : (nmF [] (p.funcs.map (·.1)) 0).1 = x4 := congrArg Prod.snd h4
  have e5 : x4 ≠ 0 → (nmF [] (p.funcs.map (·.1)) 0).2 = i4 := fun h => by
    have : (nmR (nmF [] (p.funcs.map (·.1)) 0)).1 = i4 := congrArg Prod.fst h4
    unfold nmR at this
    rw [e4, if_neg h] at this
    exact this
  have R1 : x1 ≠ 0 → (x1, -1, -1) = r := fun h => by rw [← hr]; unfold Prg.chk Prg.nmE; simp [e1, h]
  have R2 : x1 = 0 → x2 ≠ 0 → (x2, -1, -1) = r := fun a h => by rw [← hr]; unfold Prg.chk Prg.nmE; simp [e1, a, e2, h]
  have R3 : x1 = 0 → x2 = 0 → x3 ≠ 0 → (x3, -1, -1) = r := fun a b h => by rw [← hr]; unfold Prg.chk Prg.nmE; simp [e1, a, e2, b, e3, h]
  have R4 : x1 = 0 → x2 = 0 → x3 = 0 → x4 ≠ 0 → (x4, i4, -1) = r := fun a b c h => by rw [← hr, ← e5 h]; unfold Prg.chk Prg.nmE; simp [e1, a, e2, b, e3, c, e4, h]
  have R5 : x1 = 0 → x2 = 0 → x3 = 0 → x4 = 0 → (if p.many = true then (4, -1, -1) else if (p.vars.all fun v => isVal v.2) = false then (2, -1, -1) else if (p.fnF p.funcs 0).1 ≠ 0 then p.fnF p.funcs 0 else (p.thE, -1, -1)) = r := fun a b c d => by rw [← hr]; unfold Prg.chk Prg.nmE; simp [e1, a, e2, b, e3, c, e4, d]
  have HM : Hid (p.many = (decide (8 < a.n1) || decide (4 < a.n2) || decide (4 < a.n3) || decide (8 < a.n4))) := by unfold Prg.many; rw [hP.l1, hP.l2, hP.l3, hP.l4]; exact Lib.hid rfl
  have HR1 := Lib.hid R1
  have HR2 := Lib.hid R2
  have HR3 := Lib.hid R3
  have HR4 := Lib.hid R4
  have HR5 := Lib.hid R5
  have HW := Lib.hid hWE
  have HBW := Lib.hid hbW
  have k1 := hP.vars.le
  have k2 := hP.vars.max
  rw [hP.l1] at k1
  have k3 := hP.funcs.le
  have k4 := hP.funcs.max
  rw [hP.l4] at k3
  unfold maxLen at k2 k4
  obtain ⟨lv, hlv⟩ : ∃ l, p.vars.map (·.1) = l := ⟨_, rfl⟩
  obtain ⟨lf, hlf⟩ : ∃ l, p.funcs.map (·.1) = l := ⟨_, rfl⟩
  rw [hlv, hlf] at HLS
  rw [hlv] at H1
  rw [hlf] at H4
  have hb0 := Below.refl W.heap.size W
  clear e1 e2 e3 e4 e5 h1 h2 h3 h4 R1 R2 R3 R4 R5 hr hP hW hB hbW hWE hlv hlf hsm
  obtain ⟨A1, n1, c1, A2, n2, c2, A3, n3, c3, A4, n4, c4, A5, n5, c5⟩ := a
  simp only [PgA.val, PgA.fs] at *
  go_enter Tryd.func59, Tryd.ntmps59
  go_wp2_with fail
  rw [HW.out]
  refine HLS.out.mono ?_
  rintro e w1 ⟨B, d, C, g, rfl, rv, rf, b1⟩
  have RV := Lib.hid rv
  have RF := Lib.hid rf
  clear rv rf
  go_wp2_with fail
  refine (H1.out B d w1 RV.out).mono ?_
  rintro e w2 ⟨rfl, b2⟩
  have B2 := belowThen b1 b2
  by_cases h1 : x1 = 0
  rotate_left
  · have hx : (x1 != 0) = true := by simpa using h1
    have HX := Lib.hid (HR1.out h1)
    clear h1
    go_wp2
    go_ret3
    exact ⟨ret3I HX.out, belowThen HBW.out B2⟩
  have z1 : (x1 != 0) = false := by simpa using h1
  have Z1 := Lib.hid h1
  clear h1
  obtain ⟨f0, f1, f2, f3, f4⟩ := HK.out w2 B2
  go_wp2_with fail
  refine (H2.out w2 B2).mono ?_
  rintro e w3 ⟨rfl, b3⟩
  have B3 := belowThen B2 b3
  clear f0 f1 f2 f3 f4
  by_cases h1 : x2 = 0
  rotate_left
  · have hx : (x2 != 0) = true := by simpa using h1
    have HX := Lib.hid (HR2.out Z1.out h1)
    clear h1
    go_wp2
    go_ret3
    exact ⟨ret3I HX.out, belowThen HBW.out B3⟩
  have z2 : (x2 != 0) = false := by simpa using h1
  have Z2 := Lib.hid h1
  clear h1
  obtain ⟨f0, f1, f2, f3, f4⟩ := HK.out w3 B3
  go_wp2_with fail
  refine (H3.out w3 B3).mono ?_
  rintro e w4 ⟨rfl, b4⟩
  have B4 := belowThen B3 b4
  clear f0 f1 f2 f3 f4
  by_cases h1 : x3 = 0
  rotate_left
  · have hx : (x3 != 0) = true := by simpa using h1
    have HX := Lib.hid (HR3.out Z1.out Z2.out h1)
    clear h1
    go_wp2
    go_ret3
    exact ⟨ret3I HX.out, belowThen HBW.out B4⟩
  have z3 : (x3 != 0) = false := by simpa using h1
  have Z3 := Lib.hid h1
  clear h1
  go_wp2_with fail
  refine (H4.out C g w4 (RF.out.below (belowThen b2 (belowThen b3 b4)))).mono ?_
  rintro e w5 ⟨rfl, b5⟩
  have B5 := belowThen B4 b5
  by_cases h1 : x4 = 0
  rotate_left
  · have hx : (x4 != 0) = true := by simpa using h1
    have HX := Lib.hid (HR4.out Z1.out Z2.out Z3.out h1)
    clear h1
    go_wp2
    go_ret3
    exact ⟨ret3I HX.out, belowThen HBW.out B5⟩
  have z4 : (x4 != 0) = false := by simpa using h1
  have h5 := HR5.out Z1.out Z2.out Z3.out h1
  clear h1 HR1 HR2 HR3 HR4 HR5 H1 H2 H3 H4 HLS RV RF b2 b3 b4 b5
  obtain ⟨f0, f1, f2, f3, f4⟩ := HK.out w5 B5
  by_cases m1 : 8 < n1
  · have HX := Lib.hid (show (4, -1, -1) = r by rw [← h5, if_pos (by rw [HM.out, decide_eq_true m1]; rfl)])
    clear h5
    go_wp2
    all_goals first
      | (exfalso; omega)
      | (go_ret3; exact ⟨ret3I HX.out, belowThen HBW.out B5⟩)
  by_cases m2 : 4 < n2
  · have HX := Lib.hid (show (4, -1, -1) = r by rw [← h5, if_pos (by rw [HM.out, decide_eq_true m2]; simp)])
    clear h5
    go_wp2
    all_goals first
      | (exfalso; omega)
      | (go_ret3; exact ⟨ret3I HX.out, belowThen HBW.out B5⟩)
  by_cases m3 : 4 < n3
  · have HX := Lib.hid (show (4, -1, -1) = r by rw [← h5, if_pos (by rw [HM.out, decide_eq_true m3]; simp)])
    clear h5
    go_wp2
    all_goals first
      | (exfalso; omega)
      | (go_ret3; exact ⟨ret3I HX.out, belowThen HBW.out B5⟩)
  by_cases m4 : 8 < n4
  · have HX := Lib.hid (show (4, -1, -1) = r by rw [← h5, if_pos (by rw [HM.out, decide_eq_true m4]; simp)])
    clear h5
    go_wp2
    all_goals first
      | (exfalso; omega)
      | (go_ret3; exact ⟨ret3I HX.out, belowThen HBW.out B5⟩)
  rw [if_neg (by rw [HM.out]; simp; omega)] at h5
  have H5 := Lib.hid h5
  clear h5
  go_wp2
  all_goals (try (exfalso; omega))
  go_loopw [15] (fun i wr => ∃ k : Nat, k ≤ n1 ∧ i = .int .i64 k ∧ Below W.heap.size W wr ∧ Hid (∀ j (hj : j < p.vars.length), j < k → isVal p.vars[j].2 = true)) (fun i _ => n1 - (intOf i).toNat)
  case atStart => exact ⟨0, Nat.zero_le _, rfl, B5, Lib.hid fun j _ h => by omega⟩
  case round =>
    clear f0 f1 f2 f3 f4
    obtain ⟨k, hk, rfl, hb, HA⟩ := hrel
    obtain ⟨f0, f1, f2, f3, f4⟩ := HK.out wr hb
    by_cases hlt : k < n1
    · have hkl : k < p.vars.length := by rw [HL1.out]; exact hlt
      obtain ⟨q, off, hA, _, _, h2⟩ := HV.out wr hb k hkl
      have hA : A1 = _ := hA
      subst hA
      obtain ⟨z, hz⟩ : ∃ s, p.vars[k].2 = s := ⟨_, rfl⟩
      rw [hz] at h2
      have HZ := Lib.hid hz
      have hk0 : (0 : Int) ≤ k := by omega
      have hk1 : (k : Int) < n1 := by omega
      have HVV := Lib.hid (fun X => rValue z X)
      cases hv : isVal z
      · have HX := Lib.hid (show (2, -1, -1) = r by rw [← H5.out, if_pos (initNo hkl (by rw [HZ.out]; exact hv))])
        rw [hv] at HVV
        clear hv hz
        go_wp2_with (go_at_call 90; refine (HVV.out _).mono ?_; rintro e w' ⟨rfl, rfl⟩)
        go_ret3
        exact ⟨ret3I HX.out, belowThen HBW.out hb⟩
      · have HX := Lib.hid (initNext HA.out hkl (by rw [HZ.out]; exact hv))
        rw [hv] at HVV
        clear hv hz
        go_wp2_with (go_at_call 90; refine (HVV.out _).mono ?_; rintro e w' ⟨rfl, rfl⟩)
        go_roundw
        case rel => exact ⟨k + 1, by omega, by go_num, hb, HX⟩
        case measure => simp [intOf]; omega
    · have h6 := H5.out
      rw [if_neg (by rw [initYes fun j hj => HA.out j hj (by have : p.vars.length = n1 := HL1.out; omega)]; decide)] at h6
      obtain ⟨r2, hr2⟩ : ∃ r2, p.fnF (p.funcs.drop 0) 0 = r2 := ⟨_, rfl⟩
      have hr3 : p.fnF p.funcs 0 = r2 := hr2
      rw [hr3] at h6
      have H6 := Lib.hid h6
      have HR2 := Lib.hid hr2
      clear h6 hr2 hr3
      go_wp2
      go_loopw [16] (fun i wr => ∃ k : Nat, k ≤ n4 ∧ i = .int .i64 k ∧ Below W.heap.size W wr ∧ Hid (p.fnF (p.funcs.drop k) k = r2)) (fun i _ => n4 - (intOf i).toNat)
      case atStart => exact ⟨0, Nat.zero_le _, rfl, hb, HR2⟩
      case round =>
        clear f0 f1 f2 f3 f4
        obtain ⟨j, hj, rfl, hbj, HE⟩ := hrel
        obtain ⟨f0, f1, f2, f3, f4⟩ := HK.out wr hbj
        by_cases hlt : j < n4
        · have hjl : j < p.funcs.length := by rw [HL4.out]; exact hlt
          obtain ⟨q, off, hA, _, h1, v, h2, Ac, nc, cc, rfl, hnc, hrd⟩ := HF.out wr hbj j hjl
          have hA : A4 = _ := hA
          subst hA
          have hj0 : (0 : Int) ≤ j := by omega
          have hj1 : (j : Int) < n4 := by omega
          have HKP : Hid (∀ Y, Below wr.heap.size wr Y → Below wr.heap.size wr Y ∧ Y.cell? ⟨q, off + j * 2, none⟩ = some (.string (p.funcs[j]).1) ∧ Y.cell? ⟨q, off + j * 2 + 1, none⟩ = some (.slice Ac nc cc) ∧ Y.cell? ⟨w.heap.size, 0, none⟩ = some (.slice A1 n1 c1) ∧ Y.cell? ⟨w.heap.size, 1, none⟩ = some (.slice A2 n2 c2) ∧ Y.cell? ⟨w.heap.size, 2, none⟩ = some (.slice A3 n3 c3) ∧ Y.cell? ⟨w.heap.size, 3, none⟩ = some (.slice (some ⟨q, off, none⟩) n4 c4) ∧ Y.cell? ⟨w.heap.size, 4, none⟩ = some (.slice A5 n5 c5)) := Lib.hid fun Y hY => ⟨hY, (hY.cell (World.block_lt_of_cell? _ _ h1)).trans h1, (hY.cell (World.block_lt_of_cell? _ _ h2)).trans h2, HK.out Y (belowThen hbj hY)⟩
          have hbd : Below wr.heap.size wr wr.drew := (Below.refl _ wr).drew
          have HCX := Lib.hid (fun Y (hY : Below wr.heap.size wr Y) => HCD.out Y (belowThen hbj hY) (p.funcs[j]).1 (p.funcs[j]).2 Ac nc cc hnc (hrd.below stabI hY))
          have HBJ := Lib.hid hbj
          obtain ⟨⟨ex, ey⟩, hex⟩ : ∃ e, p.cd1 (p.funcs[j]).2 = e := ⟨_, rfl⟩
          rw [hex] at HCX
          have HEX := Lib.hid hex
          generalize (p.funcs[j]).1 = nm at h1 HKP HCX
          simp only at HCX
          clear hnc hrd hex f0 f1 f2 f4 h1 h2 hbj
          by_cases hx : ex = 0
          · subst hx
            have HX := Lib.hid ((fnMiss hjl (by rw [HEX.out])).symm.trans HE.out)
            go_wp2_with fail
            go_region_held3 (fun w' => Below wr.heap.size wr w' ∧ w'.cell? ⟨q, off + j * 2, none⟩ = some (.string nm) ∧ w'.cell? ⟨q, off + j * 2 + 1, none⟩ = some (.slice Ac nc cc) ∧ w'.cell? ⟨w.heap.size, 0, none⟩ = some (.slice A1 n1 c1) ∧ w'.cell? ⟨w.heap.size, 1, none⟩ = some (.slice A2 n2 c2) ∧ w'.cell? ⟨w.heap.size, 2, none⟩ = some (.slice A3 n3 c3) ∧ w'.cell? ⟨w.heap.size, 3, none⟩ = some (.slice (some ⟨q, off, none⟩) n4 c4) ∧ w'.cell? ⟨w.heap.size, 4, none⟩ = some (.slice A5 n5 c5))
              (first
                | with_reducible assumption
                | with_reducible exact HKP.out _ hbd
                | exact HKP.out _ (belowThen hbd bk))
              (first | (go_at_call 91; refine (HCX.out _ (‹Below wr.heap.size wr _ ∧ _›).1).mono ?_; rintro e wa ⟨rfl, bk⟩))
            have hall := ‹Below wr.heap.size wr _ ∧ _›
            have HB5 := Lib.hid hall.1
            clear hall f3
            go_wp2
            go_roundw
            case rel => exact ⟨j + 1, by omega, by go_num, belowThen HBJ.out HB5.out, HX⟩
            case measure => simp [intOf]; omega
          · have hxx : (ex != 0) = true := by simpa using hx
            have HX := Lib.hid (show (ex, (j : Int), ey) = r by
              have h1 := (fnHit hjl (by rw [HEX.out]; exact hx)).symm.trans HE.out
              rw [HEX.out] at h1
              have h2 := H6.out
              rw [← h1, if_pos hx] at h2
              exact h2)
            clear hx
            go_wp2_with fail
            go_region_held3 (fun w' => Below wr.heap.size wr w' ∧ w'.cell? ⟨q, off + j * 2, none⟩ = some (.string nm) ∧ w'.cell? ⟨q, off + j * 2 + 1, none⟩ = some (.slice Ac nc cc) ∧ w'.cell? ⟨w.heap.size, 0, none⟩ = some (.slice A1 n1 c1) ∧ w'.cell? ⟨w.heap.size, 1, none⟩ = some (.slice A2 n2 c2) ∧ w'.cell? ⟨w.heap.size, 2, none⟩ = some (.slice A3 n3 c3) ∧ w'.cell? ⟨w.heap.size, 3, none⟩ = some (.slice (some ⟨q, off, none⟩) n4 c4) ∧ w'.cell? ⟨w.heap.size, 4, none⟩ = some (.slice A5 n5 c5))
              (first
                | with_reducible assumption
                | with_reducible exact HKP.out _ hbd
                | exact HKP.out _ (belowThen hbd bk))
              (first | (go_at_call 91; refine (HCX.out _ (‹Below wr.heap.size wr _ ∧ _›).1).mono ?_; rintro e wa ⟨rfl, bk⟩))
            have hall := ‹Below wr.heap.size wr _ ∧ _›
            have HB5 := Lib.hid hall.1
            clear hall f3
            go_wp2
            go_ret3
            exact ⟨ret3I HX.out, belowThen HBW.out (belowThen HBJ.out HB5.out)⟩
        · have HX : Hid ((p.thE, -1, -1) = r) := Lib.hid (by
            have h1 := (fnEnd (p := p) (l := p.funcs) (k := j) (by have : p.funcs.length = n4 := HL4.out; omega)).symm.trans HE.out
            have h2 := H6.out
            rw [← h1, if_neg (by simp)] at h2
            exact h2)
          go_wp2_with fail
          refine (HTH.out wr hbj).mono ?_
          rintro e w6 ⟨rfl, b6⟩
          go_wp2
          go_ret3
          exact ⟨ret3I HX.out, belowThen HBW.out (belowThen hbj b6)⟩
theorem rValidP {a : PgA} {p : Prg} (w : World) (hP : PgW w a p) (hW : p.Wf) (hsm : p.small = true) : Calls Tryd.prog 34 #[a.val] w fun e w' => e = .returned (.bool p.okB) ∧ Below w.heap.size w w' := by
  have HE : Hid (p.okB = decide (p.chk.1 = 0)) := Lib.hid rfl
  have HC := Lib.hid (fun X (hX : Below w.heap.size w X) => rCheckP X (hP.below hX) hW hsm)
  generalize p.okB = r at HE ⊢
  generalize p.chk = c at HE HC
  obtain ⟨x, y, z⟩ := c
  simp only [err3] at HC HE
  obtain ⟨A1, n1, c1, A2, n2, c2, A3, n3, c3, A4, n4, c4, A5, n5, c5⟩ := a
  simp only [PgA.val, PgA.fs] at *
  have hbW := belowAlloc w (.cells #[.slice A1 n1 c1, .slice A2 n2 c2, .slice A3 n3 c3, .slice A4 n4 c4, .slice A5 n5 c5] 54)
  have HB := Lib.hid hbW
  have HB0 := Lib.hid (Below.refl w.heap.size w)
  clear hP hW
  by_cases hx : x = 0
  · subst hx
    have HR := Lib.hid (show true = r by rw [HE.out]; rfl)
    clear HE
    go_enter Tryd.func34, Tryd.ntmps34
    go_wp2_with (go_at_call 59; refine (HC.out _ (by first | exact HB.out | exact HB0.out)).mono ?_; rintro e w2 ⟨rfl, b2⟩)
    go_ret
    exact ⟨retBl HR.out, by first | exact belowThen HB.out b2 | exact b2⟩
  · have HR := Lib.hid (show false = r by rw [HE.out, decide_eq_false hx])
    have hx0 : (x == 0) = false := by simpa using hx
    clear HE hx
    go_enter Tryd.func34, Tryd.ntmps34
    go_wp2_with (go_at_call 59; refine (HC.out _ (by first | exact HB.out | exact HB0.out)).mono ?_; rintro e w2 ⟨rfl, b2⟩)
    go_ret
    exact ⟨retBl HR.out, by first | exact belowThen HB.out b2 | exact b2⟩
end Go.Proofs.YtkanamdfjegcbaaDoor

namespace Go.Proofs.YtkanamdfjegcbaaDoor
open Go Go.RowKit

end Go.Proofs.YtkanamdfjegcbaaDoor

namespace Go.Proofs.YtkanamdfjegcbaaDoor
open Go Go.RowKit

end Go.Proofs.YtkanamdfjegcbaaDoor

namespace Go.Proofs.YtkanamdfjegcbaaDoor
open Go Go.RowKit

end Go.Proofs.YtkanamdfjegcbaaDoor

namespace Go.Proofs.YtkanamdfjegcbaaDoor
open Go Go.ChangeShapes Go.WideShapes Go.ChangeAt Go.RowKit Go.Deep Go.Joins

theorem listOf {α : Type} {R : Nat → α → Prop} : ∀ (n : Nat), (∀ i, i < n → ∃ x, R i x) → ∃ l : List α, l.length = n ∧ ∀ i (hi : i < l.length), R i l[i]
  | 0, _ => ⟨[], rfl, fun i hi => absurd hi (by simp)⟩
  | n + 1, h => by
    obtain ⟨l, hl, hR⟩ := listOf n fun i hi => h i (by omega)
    obtain ⟨x, hx⟩ := h n (by omega)
    refine ⟨l ++ [x], by simp [hl], fun i hi => ?_⟩
    rw [List.length_append, List.length_singleton] at hi
    by_cases e : i < l.length
    · rw [List.getElem_append_left e]
      exact hR i e
    · have e2 : i = l.length := by omega
      subst e2
      rw [List.getElem_append_right (Nat.le_refl _)]
      simpa [hl] using hx
section
variable {H : Type} {enc : TypeId × Value → H} {W : World} {b0 : Nat}
/-- A slice as an argument, whatever its elements. -/
theorem openE {α : Type} {t e : TypeId} {k fuel : Nat} {v : Value} {y : DataW H × List MemPlace} (E : World → Nat → Nat → α → Prop) (Q : α → Prop) (ht : Tryd.prog.underlying t = some (.slice e)) (hk : Tryd.prog.cellsOf e = k) (hk0 : 0 < k)
    (hel : ∀ (b o : Nat) (cs : List Value) (n : Nat) (x : DataW H × List MemPlace), cs.length = k → (∀ j (h : j < cs.length), W.cell? ⟨b, o + j, none⟩ = some cs[j]) → DataW.trod enc Tryd.prog W b0 (fun _ => true) true n e cs = some x → ∃ z, E W b o z ∧ Q z)
    (h : DataW.trod enc Tryd.prog W b0 (fun _ => true) true fuel t [v] = some y) : ∃ (A : Option Addr) (n c : Nat) (l : List α), v = .slice A n c ∧ l.length = n ∧ RdE k E W A c l ∧ ∀ x ∈ l, Q x := by
  rcases open_slice ht h with ⟨hcs, hx⟩ | ⟨a, len, cap, m, n, D, Pl, hcs, hb, hl, hmx, hmm, hx, hcell⟩
  · injection hcs with hcs
    exact ⟨none, 0, 0, [], hcs, rfl, RdE.nil, fun _ h => by cases h⟩
  · injection hcs with hcs
    simp only [if_true] at hmm
    subst hmm
    rcases Nat.eq_zero_or_pos len with h0 | h0
    · subst h0
      exact ⟨some a, 0, m, [], hcs, rfl, ⟨by simp, hmx, fun h => absurd h (by simp)⟩, fun _ h => by cases h⟩
    obtain ⟨cs0, h1, _⟩ := hcell 0 (by omega)
    rw [hk] at h1
    obtain ⟨_, hlen0, hc0⟩ := World.cells?_some h1
    have e0 := (hc0 0 (by omega)).trans (List.getElem?_eq_getElem (by omega))
    obtain ⟨b, off, spot⟩ := a
    have hspot : spot = none := by simpa [Addr.add] using World.cell?_spot e0
    subst hspot
    have hbl : b < W.heap.size := by
      have := World.block_lt_of_cell? W _ e0
      simpa [Addr.add] using this
    obtain ⟨l, hll, hR⟩ := listOf (R := fun i z => E W b (off + i * k) z ∧ Q z) len fun i hi => by
      obtain ⟨cs', h1, h2⟩ := hcell i (by omega)
      rw [hk] at h1
      obtain ⟨_, hlen, hc⟩ := World.cells?_some h1
      refine hel b (off + i * k) cs' _ _ hlen (fun j hj => ?_) h2
      have := hc j (by omega)
      rw [Addr.add_lit, Addr.add_lit] at this
      exact this.trans (List.getElem?_eq_getElem hj)
    refine ⟨_, len, m, l, hcs, hll, ⟨by omega, hmx, fun _ => ⟨b, off, rfl, hbl, fun j hj => (hR j hj).1⟩⟩, fun x hx => ?_⟩
    obtain ⟨i, hi, rfl⟩ := List.getElem_of_mem hx
    exact (hR i hi).2
/-- The i-th field's part of a struct's cells. -/
theorem fieldAt {fs : Array Field} {cs : List Value} {xs : List (DataW H × List MemPlace)} {n : Nat} (h1 : oneCellFields Tryd.prog fs = true) (hl : cs.length = fs.size) (hxl : xs.length = fs.size)
    (hx : ∀ (i : Nat) (f : Field), fs[i]? = some f → DataW.trod enc Tryd.prog W b0 (fun _ => true) true n f.type ((cs.drop f.offset).take (Tryd.prog.cellsOf f.type)) = xs[i]?) (i : Nat) (hi : i < fs.size) :
    ∃ y, DataW.trod enc Tryd.prog W b0 (fun _ => true) true n fs[i].type [cs[i]] = some y := by
  have hf : fs[i]? = some fs[i] := Array.getElem?_eq_getElem hi
  obtain ⟨o, ce⟩ := hone_of h1 i fs[i] hf
  have h := hx i fs[i] hf
  rw [o, ce, List.getElem?_eq_getElem (by omega)] at h
  have e : List.take 1 (List.drop i cs) = [cs[i]'(by omega)] := by
    rw [List.drop_eq_getElem_cons (by omega)]
    rfl
  rw [e] at h
  exact ⟨_, h⟩
theorem elS {b o n : Nat} {cs : List Value} {x : DataW H × List MemPlace} (hl : cs.length = 1) (hc : ∀ j (h : j < cs.length), W.cell? ⟨b, o + j, none⟩ = some cs[j]) (h : DataW.trod enc Tryd.prog W b0 (fun _ => true) true n 9 cs = some x) : ∃ z, ES W b o z ∧ z.size ≤ maxLen := by
  obtain ⟨s, e, _, hs⟩ := DataW.trod_string Tryd.underlying9 h
  subst e
  exact ⟨s, hc 0 (by simp), hs⟩
theorem varFs : ∃ fs, Tryd.prog.underlying 106 = some (.struct fs) ∧ oneCellFields Tryd.prog fs = true ∧ fs.map (·.type) = #[9, 3] ∧ Tryd.prog.cellsOf 106 = 2 := ⟨_, Tryd.underlying106, by kernel_rfl, by kernel_rfl, by kernel_rfl⟩
theorem startFs : ∃ fs, Tryd.prog.underlying 109 = some (.struct fs) ∧ oneCellFields Tryd.prog fs = true ∧ fs.map (·.type) = #[3, 3] ∧ Tryd.prog.cellsOf 109 = 2 := ⟨_, Tryd.underlying109, by kernel_rfl, by kernel_rfl, by kernel_rfl⟩
theorem funcFs : ∃ fs, Tryd.prog.underlying 24 = some (.struct fs) ∧ oneCellFields Tryd.prog fs = true ∧ fs.map (·.type) = #[9, 22] ∧ Tryd.prog.cellsOf 24 = 2 := ⟨_, Tryd.underlying24, by kernel_rfl, by kernel_rfl, by kernel_rfl⟩
theorem instFs2 : ∃ fs, Tryd.prog.underlying 44 = some (.struct fs) ∧ oneCellFields Tryd.prog fs = true ∧ fs.map (·.type) = #[40, 3, 3, 3, 3, 3, 41, 42] ∧ Tryd.prog.cellsOf 44 = 8 := ⟨_, Tryd.underlying44, by kernel_rfl, by kernel_rfl, by kernel_rfl⟩
theorem progFs : ∃ fs, Tryd.prog.underlying 54 = some (.struct fs) ∧ oneCellFields Tryd.prog fs = true ∧ fs.map (·.type) = #[49, 50, 50, 51, 52] ∧ Tryd.prog.cellsOf 54 = 5 := ⟨_, Tryd.underlying54, by kernel_rfl, by kernel_rfl, by kernel_rfl⟩
theorem typeAt {fs : Array Field} {ts : Array TypeId} (h : fs.map (·.type) = ts) (i : Nat) (hi : i < fs.size) {t : TypeId} (ht : ts[i]? = some t) : fs[i].type = t := by
  rw [← h, Array.getElem?_map, Array.getElem?_eq_getElem hi] at ht
  exact Option.some.inj ht
/-- A struct's cells, field by field. -/
theorem fieldsOf {t : TypeId} {fs : Array Field} {ts : Array TypeId} {k n : Nat} {cs : List Value} {x : DataW H × List MemPlace} (hu : Tryd.prog.underlying t = some (.struct fs)) (h1 : oneCellFields Tryd.prog fs = true) (h2 : fs.map (·.type) = ts) (hk : ts.size = k) (hl : cs.length = k)
    (h : DataW.trod enc Tryd.prog W b0 (fun _ => true) true n t cs = some x) : ∃ m, ∀ (i : Nat) (hi : i < cs.length) (u : TypeId), ts[i]? = some u → ∃ y, DataW.trod enc Tryd.prog W b0 (fun _ => true) true m u [cs[i]] = some y := by
  obtain ⟨xs, m, _, _, _, hxl, hx⟩ := DataW.trod_struct hu h
  have hsz : fs.size = k := by rw [← hk, ← h2, Array.size_map]
  refine ⟨m, fun i hi u hu' => ?_⟩
  have := fieldAt h1 (by omega) hxl hx i (by omega)
  rwa [typeAt h2 i (by omega) hu'] at this
theorem elV {b o n : Nat} {cs : List Value} {x : DataW H × List MemPlace} (hl : cs.length = 2) (hc : ∀ j (h : j < cs.length), W.cell? ⟨b, o + j, none⟩ = some cs[j]) (h : DataW.trod enc Tryd.prog W b0 (fun _ => true) true n 106 cs = some x) : ∃ z, EV W b o z ∧ z.1.size ≤ maxLen := by
  obtain ⟨fs, g1, g2, g3, g4⟩ := varFs
  obtain ⟨m, hf⟩ := fieldsOf g1 g2 g3 rfl hl h
  obtain ⟨_, f0⟩ := hf 0 (by omega) _ rfl
  obtain ⟨_, f1⟩ := hf 1 (by omega) _ rfl
  obtain ⟨s, e0, _, hs⟩ := DataW.trod_string Tryd.underlying9 f0
  obtain ⟨z, e1, _⟩ := DataW.trod_int Tryd.underlying3 f1
  injection e0 with e0
  injection e1 with e1
  exact ⟨(s, z), ⟨(hc 0 (by omega)).trans (by rw [e0]), (hc 1 (by omega)).trans (by rw [e1])⟩, hs⟩
theorem elT {b o n : Nat} {cs : List Value} {x : DataW H × List MemPlace} (hl : cs.length = 2) (hc : ∀ j (h : j < cs.length), W.cell? ⟨b, o + j, none⟩ = some cs[j]) (h : DataW.trod enc Tryd.prog W b0 (fun _ => true) true n 109 cs = some x) : ∃ z, ET W b o z ∧ True := by
  obtain ⟨fs, g1, g2, g3, g4⟩ := startFs
  obtain ⟨m, hf⟩ := fieldsOf g1 g2 g3 rfl hl h
  obtain ⟨_, f0⟩ := hf 0 (by omega) _ rfl
  obtain ⟨_, f1⟩ := hf 1 (by omega) _ rfl
  obtain ⟨s, e0, _⟩ := DataW.trod_int Tryd.underlying3 f0
  obtain ⟨z, e1, _⟩ := DataW.trod_int Tryd.underlying3 f1
  injection e0 with e0
  injection e1 with e1
  exact ⟨(s, z), ⟨(hc 0 (by omega)).trans (by rw [e0]), (hc 1 (by omega)).trans (by rw [e1])⟩, trivial⟩
theorem elI {b o n : Nat} {cs : List Value} {x : DataW H × List MemPlace} (hl : cs.length = 8) (hc : ∀ j (h : j < cs.length), W.cell? ⟨b, o + j, none⟩ = some cs[j]) (h : DataW.trod enc Tryd.prog W b0 (fun _ => true) true n 44 cs = some x) : ∃ z, EI W b o z ∧ z.Wf := by
  obtain ⟨fs, g1, g2, g3, g4⟩ := instFs2
  obtain ⟨m, hf⟩ := fieldsOf g1 g2 g3 rfl hl h
  have key : ∀ (i : Nat) (hi : i < cs.length) (u : TypeId), Tryd.prog.underlying u = some (.int .i64) → (#[40, 3, 3, 3, 3, 3, 41, 42] : Array TypeId)[i]? = some u → ∃ z, W.cell? ⟨b, o + i, none⟩ = some (.int .i64 z) ∧ In64 z := fun i hi u hu ht => by
    obtain ⟨_, f0⟩ := hf i hi u ht
    obtain ⟨z, e, hz⟩ := intOfTrod hu f0
    exact ⟨z, (hc i hi).trans (by rw [e]), hz⟩
  obtain ⟨z0, k0, w0⟩ := key 0 (by omega) _ Tryd.underlying40 rfl
  obtain ⟨z1, k1, w1⟩ := key 1 (by omega) _ Tryd.underlying3 rfl
  obtain ⟨z2, k2, w2⟩ := key 2 (by omega) _ Tryd.underlying3 rfl
  obtain ⟨z3, k3, w3⟩ := key 3 (by omega) _ Tryd.underlying3 rfl
  obtain ⟨z4, k4, w4⟩ := key 4 (by omega) _ Tryd.underlying3 rfl
  obtain ⟨z5, k5, w5⟩ := key 5 (by omega) _ Tryd.underlying3 rfl
  obtain ⟨z6, k6, w6⟩ := key 6 (by omega) _ Tryd.underlying41 rfl
  obtain ⟨z7, k7, w7⟩ := key 7 (by omega) _ Tryd.underlying42 rfl
  exact ⟨⟨z0, z1, z2, z3, z4, z5, z6, z7⟩, ⟨k0, k1, k2, k3, k4, k5, k6, k7⟩, ⟨w0, w1, w2, w3, w4, w5, w6, w7⟩⟩
theorem elF {b o n : Nat} {cs : List Value} {x : DataW H × List MemPlace} (hl : cs.length = 2) (hc : ∀ j (h : j < cs.length), W.cell? ⟨b, o + j, none⟩ = some cs[j]) (h : DataW.trod enc Tryd.prog W b0 (fun _ => true) true n 24 cs = some x) : ∃ z, EF W b o z ∧ (z.1.size ≤ maxLen ∧ ∀ i ∈ z.2, i.Wf) := by
  obtain ⟨fs, g1, g2, g3, g4⟩ := funcFs
  obtain ⟨m, hf⟩ := fieldsOf g1 g2 g3 rfl hl h
  obtain ⟨_, f0⟩ := hf 0 (by omega) _ rfl
  obtain ⟨_, f1⟩ := hf 1 (by omega) _ rfl
  obtain ⟨s, e0, _, hs⟩ := DataW.trod_string Tryd.underlying9 f0
  injection e0 with e0
  obtain ⟨A, q, c, l, e1, hq, hr, hw⟩ := openE EI I8.Wf Tryd.underlying22 (k := 8) (by kernel_rfl) (by decide) (fun b o cs n x h1 h2 h3 => elI h1 h2 h3) f1
  exact ⟨(s, l), ⟨(hc 0 (by omega)).trans (by rw [e0]), _, hc 1 (by omega), A, q, c, e1, hq, hr⟩, hs, hw⟩
set_option maxRecDepth 100000 in
/-- A program as an argument. -/
theorem openPg {base : Nat} {v : Value} {d : DataW H} {p : List MemPlace} (hv : Value.okWide Tryd.prog W .any base 54 v) (h : DataW.Trod enc Tryd.prog W b0 (fun _ => true) true 54 v d p) :
    ∃ (a : PgA) (g : Prg), v = a.val ∧ PgW W a g ∧ g.Wf := by
  obtain ⟨fs, g1, g2, g3, g4⟩ := progFs
  obtain ⟨cs, rfl, hsz⟩ := okWide_struct g1 hv
  rw [g4] at hsz
  obtain ⟨fuel, hf⟩ := h
  have hf' : DataW.trod enc Tryd.prog W b0 (fun _ => true) true fuel 54 cs.toList = some (d, p) := hf
  have hl : cs.toList.length = 5 := by simpa using hsz
  obtain ⟨m, hx⟩ := fieldsOf g1 g2 g3 rfl hl hf'
  obtain ⟨l⟩ := cs
  match l, hl with
  | [v1, v2, v3, v4, v5], _ =>
    obtain ⟨_, f1⟩ := hx 0 (by simp) _ rfl
    obtain ⟨_, f2⟩ := hx 1 (by simp) _ rfl
    obtain ⟨_, f3⟩ := hx 2 (by simp) _ rfl
    obtain ⟨_, f4⟩ := hx 3 (by simp) _ rfl
    obtain ⟨_, f5⟩ := hx 4 (by simp) _ rfl
    obtain ⟨A1, n1, c1, l1, e1, q1, r1, w1⟩ := openE EV (fun z => z.1.size ≤ maxLen) Tryd.underlying49 (k := 2) (by kernel_rfl) (by decide) (fun b o cs n x h1 h2 h3 => elV h1 h2 h3) f1
    obtain ⟨A2, n2, c2, l2, e2, q2, r2, w2⟩ := openE ES (fun z => z.size ≤ maxLen) Tryd.underlying50 (k := 1) (by kernel_rfl) (by decide) (fun b o cs n x h1 h2 h3 => elS h1 h2 h3) f2
    obtain ⟨A3, n3, c3, l3, e3, q3, r3, w3⟩ := openE ES (fun z => z.size ≤ maxLen) Tryd.underlying50 (k := 1) (by kernel_rfl) (by decide) (fun b o cs n x h1 h2 h3 => elS h1 h2 h3) f3
    obtain ⟨A4, n4, c4, l4, e4, q4, r4, w4⟩ := openE EF (fun z => z.1.size ≤ maxLen ∧ ∀ i ∈ z.2, i.Wf) Tryd.underlying51 (k := 2) (by kernel_rfl) (by decide) (fun b o cs n x h1 h2 h3 => elF h1 h2 h3) f4
    obtain ⟨A5, n5, c5, l5, e5, q5, r5, w5⟩ := openE ET (fun _ => True) Tryd.underlying52 (k := 2) (by kernel_rfl) (by decide) (fun b o cs n x h1 h2 h3 => elT h1 h2 h3) f5
    have e1 : v1 = _ := e1
    have e2 : v2 = _ := e2
    have e3 : v3 = _ := e3
    have e4 : v4 = _ := e4
    have e5 : v5 = _ := e5
    subst e1 e2 e3 e4 e5
    exact ⟨⟨A1, n1, c1, A2, n2, c2, A3, n3, c3, A4, n4, c4, A5, n5, c5⟩, ⟨l1, l2, l3, l4, l5⟩, rfl, ⟨q1, q2, q3, q4, q5, r1, r2, r3, r4, r5⟩, ⟨fun f hf => (w4 f hf).2, w1, w2, w3, fun f hf => (w4 f hf).1⟩⟩
end
end Go.Proofs.YtkanamdfjegcbaaDoor
