/-
  Arguments opened: a program by value, a configuration, a string.
-/
import Derived.Test.YtebpnnakcodjdaaDoorZPkA
import Derived.Test.YtebpnnakcodjdaaDoorZPgB
import Derived.Test.YtebpnnakcodjdaaDoorZPgZ
import Derived.Test.YtebpnnakcodjdaaDoorZPkB
import Derived.Test.YtebpnnakcodjdaaDoorZPgX
import Derived.Test.YtebpnnakcodjdaaDoorZPgY
import Derived.Test.YtebpnnakcodjdaaDoorZMk
import Derived.Test.YtebpnnakcodjdaaDoorZIU
import Derived.ProofKit
import Derived.OpenShut
import Derived.ChangeMaps5
import Derived.Deep.SlicePairs
import Derived.Lib.SmallJoins
namespace Go.Proofs.YtebpnnakcodjdaaDoor
open Go Go.RowKit

theorem fnHit {p : Prg} {l : List (ByteArray × List I8)} {k : Nat} (hk : k < l.length) (h : (p.cd1 l[k].2).1 ≠ 0) : p.fnF (l.drop k) k = ((p.cd1 l[k].2).1, (k : Int), (p.cd1 l[k].2).2) := by
  rw [List.drop_eq_getElem_cons hk, Prg.fnF, if_pos h]
theorem fnMiss {p : Prg} {l : List (ByteArray × List I8)} {k : Nat} (hk : k < l.length) (h : (p.cd1 l[k].2).1 = 0) : p.fnF (l.drop k) k = p.fnF (l.drop (k + 1)) (k + 1) := by
  rw [List.drop_eq_getElem_cons hk, Prg.fnF, if_neg (by rw [h]; simp)]
theorem fnEnd {p : Prg} {l : List (ByteArray × List I8)} {k : Nat} (hk : l.length ≤ k) : p.fnF (l.drop k) k = (0, -1, -1) := by
  rw [List.drop_eq_nil_of_le hk, Prg.fnF]
theorem rdsOf {w : World} {A : Option Addr} {c : Nat} {l : List ByteArray} (h : RdE 1 ES w A c l) : Rds w A c (sv l) := by
  refine ⟨by rw [svLen]; exact h.le, h.max, fun hn => ?_⟩
  rw [svLen] at hn
  obtain ⟨b, off, hA, hb, _⟩ := h.one hn
  refine ⟨_, hA, hb, fun j u hu => ?_⟩
  have hj : j < l.length := by
    have := (List.getElem?_eq_some_iff.1 hu).1
    rwa [svLen] at this
  obtain ⟨b', off', hA', _, hc⟩ := h.one hj
  rw [hA] at hA'
  injection hA' with hA'
  injection hA' with e1 e2
  subst e1 e2
  have hu2 : u = .string l[j] := by
    have : (sv l)[j]? = some (.string l[j]) := by simp [sv, hj]
    rw [this] at hu
    exact (Option.some.inj hu).symm
  rw [hu2, Addr.add_lit]
  have hc : w.cell? ⟨b, off + j * 1, none⟩ = some (.string l[j]) := hc
  rwa [Nat.mul_one] at hc
theorem rNamesV (l : List ByteArray) (n : Nat) (hn : l.length = n) (hl : ∀ s ∈ l, s.size ≤ maxLen) (A : Option Addr) (c : Nat) (i x : Int) (h : nmR (nmF [] l 0) = (i, x)) (w : World) (hr : Rds w A c (sv l)) :
    Calls Tryd.prog 20 #[.slice A n c] w fun e w' => e = .returned (.tuple #[.int .i64 i, .int .i64 x]) ∧ Below w.heap.size w w' := by
  have := rNamesP l n hn hl A c w hr
  rwa [h] at this
theorem ret3I {x y : Int × Int × Int} (h : x = y) : Ending.returned (.tuple #[.int .i64 x.1, .int .i64 x.2.1, .int .i64 x.2.2]) = err3 y := by rw [h]; rfl
theorem fewOf {p : Prg} (h : p.small = true) : p.vars.length ≤ 20 ∧ p.muts.length ≤ 20 ∧ p.conds.length ≤ 20 ∧ p.funcs.length ≤ 20 ∧ p.thr.length ≤ 20 := by
  unfold Prg.small Prg.few at h
  simp only [Bool.and_eq_true, decide_eq_true_eq] at h
  omega
set_option maxRecDepth 100000 in
set_option maxHeartbeats 8000000 in
theorem rCheckP {a : PgA} {p : Prg} (w : World) (hP : PgW w a p) (hW : p.Wf) (hsm : p.small = true) : Calls Tryd.prog 11 #[a.val] w fun e w' => e = err3 p.chk ∧ Below w.heap.size w w' := by
  have hfw := fewOf hsm
  rw [hP.l1, hP.l2, hP.l3, hP.l4, hP.l5] at hfw
  obtain ⟨q1, q2, q3, q4, q5⟩ := hfw
  obtain ⟨W, hWE⟩ : ∃ W, w.alloc (.cells a.fs 27) = W := ⟨_, rfl⟩
  have hbW : Below w.heap.size w W := by rw [← hWE]; exact belowAlloc w _
  have hB : PBox W w.heap.size a := by rw [← hWE]; exact Blk.new w _ _
  have HK := Lib.hid (fun Y (hY : Below W.heap.size W Y) => (hB.below hY).facts)
  have HP := Lib.hid (fun Y (hY : Below W.heap.size W Y) => (hP.below hbW).below hY)
  have HV := Lib.hid (fun Y (hY : Below W.heap.size W Y) k (hk : k < p.vars.length) => (HP.out Y hY).vars.one hk)
  have HF := Lib.hid (fun Y (hY : Below W.heap.size W Y) k (hk : k < p.funcs.length) => (HP.out Y hY).funcs.one hk)
  have HLS := Lib.hid (rLists W (HP.out W (Below.refl _ _)) q1 q4)
  have HTH := Lib.hid (fun Y (hY : Below W.heap.size W Y) => rThreads Y (HP.out Y hY))
  have HCD := Lib.hid (fun Y (hY : Below W.heap.size W Y) nm l Ac nc cc hn hr => rCode Y (HP.out Y hY) nm l Ac nc cc hn hr)
  have HL1 := Lib.hid hP.l1
  have HL4 := Lib.hid hP.l4
  obtain ⟨i1, x1, h1⟩ : ∃ i x, nmR (nmF [] (p.vars.map (·.1)) 0) = (i, x) := ⟨_, _, rfl⟩
  obtain ⟨i2, x2, h2⟩ : ∃ i x, nmR (nmF [] p.muts 0) = (i, x) := ⟨_, _, rfl⟩
  obtain ⟨i3, x3, h3⟩ : ∃ i x, nmR (nmF [] p.conds 0) = (i, x) := ⟨_, _, rfl⟩
  obtain ⟨i4, x4, h4⟩ : ∃ i x, nmR (nmF [] (p.funcs.map (·.1)) 0) = (i, x) := ⟨_, _, rfl⟩
  have H1 := Lib.hid (fun A c X hr => rNamesV (p.vars.map (·.1)) _ rfl (fun s hs => by obtain ⟨v, hv, rfl⟩ := List.mem_map.1 hs; exact hW.vn v hv) A c i1 x1 h1 X hr)
  have H4 := Lib.hid (fun A c X hr => rNamesV (p.funcs.map (·.1)) _ rfl (fun s hs => by obtain ⟨v, hv, rfl⟩ := List.mem_map.1 hs; exact hW.fn v hv) A c i4 x4 h4 X hr)
  have H2 := Lib.hid (fun X (hX : Below W.heap.size W X) => rNamesV p.muts a.n2 hP.l2 hW.mn a.A2 a.c2 i2 x2 h2 X (rdsOf (HP.out X hX).muts))
  have H3 := Lib.hid (fun X (hX : Below W.heap.size W X) => rNamesV p.conds a.n3 hP.l3 hW.cn a.A3 a.c3 i3 x3 h3 X (rdsOf (HP.out X hX).conds))
  obtain ⟨r, hr⟩ : ∃ r, p.chk = r := ⟨_, rfl⟩
  rw [hr]
  have e1 : (nmF [] (p.vars.map (·.1)) 0).1 = x1 := congrArg Prod.snd h1
  have e2 : (nmF [] p.muts 0).1 = x2 := congrArg Prod.snd h2
  have e3 : (nmF [] p.conds 0).1 = x3 := congrArg Prod.snd h3
  have e4 : (nmF [] (p.funcs.map (·.1)) 0).1 = x4 := congrArg Prod.snd h4
  have e5 : x4 ≠ 0 → (nmF [] (p.funcs.map (·.1)) 0).2 = i4 := fun h => by
    have : (nmR (nmF [] (p.funcs.map (·.1)) 0)).1 = i4 := congrArg Prod.fst h4
    unfold nmR at this
    rw [e4, if_neg h] at this
    exact this
  have R1 : x1 ≠ 0 → (x1, -1, -1) = r := fun h => by rw [← hr]; unfold Prg.chk Prg.nmE; simp [e1, h]
  have R2 : x1 = 0 → x2 ≠ 0 → (x2, -1, -1) = r := fun a h => by rw [← hr]; unfold Prg.chk Prg.nmE; simp [e1, a, e2, h]
  have R3 : x1 = 0 → x2 = 0 → x3 ≠ 0 → (x3, -1, -1) = r := fun a b h => by rw [← hr]; unfold Prg.chk Prg.nmE; simp [e1, a, e2, b, e3, h]
  have R4 : x1 = 0 → x2 = 0 → x3 = 0 → x4 ≠ 0 → (x4, i4, -1) = r := fun a b c h => by rw [← hr, ← e5 h]; unfold Prg.chk Prg.nmE; simp [e1, a, e2, b, e3, c, e4, h]
  have R5 : x1 = 0 → x2 = 0 → x3 = 0 → x4 = 0 → (if p.many = true then (4, -1, -1) else if (p.vars.all fun v => isVal v.2) = false then (2, -1, -1) else if (p.fnF p.funcs 0).1 ≠ 0 then p.fnF p.funcs 0 else (p.thE, -1, -1)) = r := fun a b c d => by rw [← hr]; unfold Prg.chk Prg.nmE; simp [e1, a, e2, b, e3, c, e4, d]
  have HM : Hid (p.many = (decide (8 < a.n1) || decide (4 < a.n2) || decide (4 < a.n3) || decide (8 < a.n4))) := by unfold Prg.many; rw [hP.l1, hP.l2, hP.l3, hP.l4]; exact Lib.hid rfl
  have HR1 := Lib.hid R1
  have HR2 := Lib.hid R2
  have HR3 := Lib.hid R3
  have HR4 := Lib.hid R4
  have HR5 := Lib.hid R5
  have HW := Lib.hid hWE
  have HBW := Lib.hid hbW
  have k1 := hP.vars.le
  have k2 := hP.vars.max
  rw [hP.l1] at k1
  have k3 := hP.funcs.le
  have k4 := hP.funcs.max
  rw [hP.l4] at k3
  unfold maxLen at k2 k4
  obtain ⟨lv, hlv⟩ : ∃ l, p.vars.map (·.1) = l := ⟨_, rfl⟩
  obtain ⟨lf, hlf⟩ : ∃ l, p.funcs.map (·.1) = l := ⟨_, rfl⟩
  rw [hlv, hlf] at HLS
  rw [hlv] at H1
  rw [hlf] at H4
  have hb0 := Below.refl W.heap.size W
  clear e1 e2 e3 e4 e5 h1 h2 h3 h4 R1 R2 R3 R4 R5 hr hP hW hB hbW hWE hlv hlf hsm
  obtain ⟨A1, n1, c1, A2, n2, c2, A3, n3, c3, A4, n4, c4, A5, n5, c5⟩ := a
  simp only [PgA.val, PgA.fs] at *
  go_enter Tryd.func11, Tryd.ntmps11
  go_wp2_with fail
  rw [HW.out]
  refine HLS.out.mono ?_
  rintro e w1 ⟨B, d, C, g, rfl, rv, rf, b1⟩
  have RV := Lib.hid rv
  have RF := Lib.hid rf
  clear rv rf
  go_wp2_with fail
  refine (H1.out B d w1 RV.out).mono ?_
  rintro e w2 ⟨rfl, b2⟩
  have B2 := belowThen b1 b2
  by_cases h1 : x1 = 0
  rotate_left
  · have hx : (x1 != 0) = true := by simpa using h1
    have HX := Lib.hid (HR1.out h1)
    clear h1
    go_wp2
    go_ret3
    exact ⟨ret3I HX.out, belowThen HBW.out B2⟩
  have z1 : (x1 != 0) = false := by simpa using h1
  have Z1 := Lib.hid h1
  clear h1
  obtain ⟨f0, f1, f2, f3, f4⟩ := HK.out w2 B2
  go_wp2_with fail
  refine (H2.out w2 B2).mono ?_
  rintro e w3 ⟨rfl, b3⟩
  have B3 := belowThen B2 b3
  clear f0 f1 f2 f3 f4
  by_cases h1 : x2 = 0
  rotate_left
  · have hx : (x2 != 0) = true := by simpa using h1
    have HX := Lib.hid (HR2.out Z1.out h1)
    clear h1
    go_wp2
    go_ret3
    exact ⟨ret3I HX.out, belowThen HBW.out B3⟩
  have z2 : (x2 != 0) = false := by simpa using h1
  have Z2 := Lib.hid h1
  clear h1
  obtain ⟨f0, f1, f2, f3, f4⟩ := HK.out w3 B3
  go_wp2_with fail
  refine (H3.out w3 B3).mono ?_
  rintro e w4 ⟨rfl, b4⟩
  have B4 := belowThen B3 b4
  clear f0 f1 f2 f3 f4
  by_cases h1 : x3 = 0
  rotate_left
  · have hx : (x3 != 0) = true := by simpa using h1
    have HX := Lib.hid (HR3.out Z1.out Z2.out h1)
    clear h1
    go_wp2
    go_ret3
    exact ⟨ret3I HX.out, belowThen HBW.out B4⟩
  have z3 : (x3 != 0) = false := by simpa using h1
  have Z3 := Lib.hid h1
  clear h1
  go_wp2_with fail
  refine (H4.out C g w4 (RF.out.below (belowThen b2 (belowThen b3 b4)))).mono ?_
  rintro e w5 ⟨rfl, b5⟩
  have B5 := belowThen B4 b5
  by_cases h1 : x4 = 0
  rotate_left
  · have hx : (x4 != 0) = true := by simpa using h1
    have HX := Lib.hid (HR4.out Z1.out Z2.out Z3.out h1)
    clear h1
    go_wp2
    go_ret3
    exact ⟨ret3I HX.out, belowThen HBW.out B5⟩
  have z4 : (x4 != 0) = false := by simpa using h1
  have h5 := HR5.out Z1.out Z2.out Z3.out h1
  clear h1 HR1 HR2 HR3 HR4 HR5 H1 H2 H3 H4 HLS RV RF b2 b3 b4 b5
  obtain ⟨f0, f1, f2, f3, f4⟩ := HK.out w5 B5
  by_cases m1 : 8 < n1
  · have HX := Lib.hid (show (4, -1, -1) = r by rw [← h5, if_pos (by rw [HM.out, decide_eq_true m1]; rfl)])
    clear h5
    go_wp2
    all_goals first
      | (exfalso; omega)
      | (go_ret3; exact ⟨ret3I HX.out, belowThen HBW.out B5⟩)
  by_cases m2 : 4 < n2
  · have HX := Lib.hid (show (4, -1, -1) = r by rw [← h5, if_pos (by rw [HM.out, decide_eq_true m2]; simp)])
    clear h5
    go_wp2
    all_goals first
      | (exfalso; omega)
      | (go_ret3; exact ⟨ret3I HX.out, belowThen HBW.out B5⟩)
  by_cases m3 : 4 < n3
  · have HX := Lib.hid (show (4, -1, -1) = r by rw [← h5, if_pos (by rw [HM.out, decide_eq_true m3]; simp)])
    clear h5
    go_wp2
    all_goals first
      | (exfalso; omega)
      | (go_ret3; exact ⟨ret3I HX.out, belowThen HBW.out B5⟩)
  by_cases m4 : 8 < n4
  · have HX := Lib.hid (show (4, -1, -1) = r by rw [← h5, if_pos (by rw [HM.out, decide_eq_true m4]; simp)])
    clear h5
    go_wp2
    all_goals first
      | (exfalso; omega)
      | (go_ret3; exact ⟨ret3I HX.out, belowThen HBW.out B5⟩)
  rw [if_neg (by rw [HM.out]; simp; omega)] at h5
  have H5 := Lib.hid h5
  clear h5
  go_wp2
  all_goals (try (exfalso; omega))
  go_loopw [15] (fun i wr => ∃ k : Nat, k ≤ n1 ∧ i = .int .i64 k ∧ Below W.heap.size W wr ∧ Hid (∀ j (hj : j < p.vars.length), j < k → isVal p.vars[j].2 = true)) (fun i _ => n1 - (intOf i).toNat)
  case atStart => exact ⟨0, Nat.zero_le _, rfl, B5, Lib.hid fun j _ h => by omega⟩
  case round =>
    clear f0 f1 f2 f3 f4
    obtain ⟨k, hk, rfl, hb, HA⟩ := hrel
    obtain ⟨f0, f1, f2, f3, f4⟩ := HK.out wr hb
    by_cases hlt : k < n1
    · have hkl : k < p.vars.length := by rw [HL1.out]; exact hlt
      obtain ⟨q, off, hA, _, _, h2⟩ := HV.out wr hb k hkl
      have hA : A1 = _ := hA
      subst hA
      obtain ⟨z, hz⟩ : ∃ s, p.vars[k].2 = s := ⟨_, rfl⟩
      rw [hz] at h2
      have HZ := Lib.hid hz
      have hk0 : (0 : Int) ≤ k := by omega
      have hk1 : (k : Int) < n1 := by omega
      have HVV := Lib.hid (fun X => rValue z X)
      cases hv : isVal z
      · have HX := Lib.hid (show (2, -1, -1) = r by rw [← H5.out, if_pos (initNo hkl (by rw [HZ.out]; exact hv))])
        rw [hv] at HVV
        clear hv hz
        go_wp2_with (go_at_call 21; refine (HVV.out _).mono ?_; rintro e w' ⟨rfl, rfl⟩)
        go_ret3
        exact ⟨ret3I HX.out, belowThen HBW.out hb⟩
      · have HX := Lib.hid (initNext HA.out hkl (by rw [HZ.out]; exact hv))
        rw [hv] at HVV
        clear hv hz
        go_wp2_with (go_at_call 21; refine (HVV.out _).mono ?_; rintro e w' ⟨rfl, rfl⟩)
        go_roundw
        case rel => exact ⟨k + 1, by omega, by go_num, hb, HX⟩
        case measure => simp [intOf]; omega
    · have h6 := H5.out
      rw [if_neg (by rw [initYes fun j hj => HA.out j hj (by have : p.vars.length = n1 := HL1.out; omega)]; decide)] at h6
      obtain ⟨r2, hr2⟩ : ∃ r2, p.fnF (p.funcs.drop 0) 0 = r2 := ⟨_, rfl⟩
      have hr3 : p.fnF p.funcs 0 = r2 := hr2
      rw [hr3] at h6
      have H6 := Lib.hid h6
      have HR2 := Lib.hid hr2
      clear h6 hr2 hr3
      go_wp2
      go_loopw [16] (fun i wr => ∃ k : Nat, k ≤ n4 ∧ i = .int .i64 k ∧ Below W.heap.size W wr ∧ Hid (p.fnF (p.funcs.drop k) k = r2)) (fun i _ => n4 - (intOf i).toNat)
      case atStart => exact ⟨0, Nat.zero_le _, rfl, hb, HR2⟩
      case round =>
        clear f0 f1 f2 f3 f4
        obtain ⟨j, hj, rfl, hbj, HE⟩ := hrel
        obtain ⟨f0, f1, f2, f3, f4⟩ := HK.out wr hbj
        by_cases hlt : j < n4
        · have hjl : j < p.funcs.length := by rw [HL4.out]; exact hlt
          obtain ⟨q, off, hA, _, h1, v, h2, Ac, nc, cc, rfl, hnc, hrd⟩ := HF.out wr hbj j hjl
          have hA : A4 = _ := hA
          subst hA
          have hj0 : (0 : Int) ≤ j := by omega
          have hj1 : (j : Int) < n4 := by omega
          have HKP : Hid (∀ Y, Below wr.heap.size wr Y → Below wr.heap.size wr Y ∧ Y.cell? ⟨q, off + j * 2, none⟩ = some (.string (p.funcs[j]).1) ∧ Y.cell? ⟨q, off + j * 2 + 1, none⟩ = some (.slice Ac nc cc) ∧ Y.cell? ⟨w.heap.size, 0, none⟩ = some (.slice A1 n1 c1) ∧ Y.cell? ⟨w.heap.size, 1, none⟩ = some (.slice A2 n2 c2) ∧ Y.cell? ⟨w.heap.size, 2, none⟩ = some (.slice A3 n3 c3) ∧ Y.cell? ⟨w.heap.size, 3, none⟩ = some (.slice (some ⟨q, off, none⟩) n4 c4) ∧ Y.cell? ⟨w.heap.size, 4, none⟩ = some (.slice A5 n5 c5)) := Lib.hid fun Y hY => ⟨hY, (hY.cell (World.block_lt_of_cell? _ _ h1)).trans h1, (hY.cell (World.block_lt_of_cell? _ _ h2)).trans h2, HK.out Y (belowThen hbj hY)⟩
          have hbd : Below wr.heap.size wr wr.drew := (Below.refl _ wr).drew
          have HCX := Lib.hid (fun Y (hY : Below wr.heap.size wr Y) => HCD.out Y (belowThen hbj hY) (p.funcs[j]).1 (p.funcs[j]).2 Ac nc cc hnc (hrd.below stabI hY))
          have HBJ := Lib.hid hbj
          obtain ⟨⟨ex, ey⟩, hex⟩ : ∃ e, p.cd1 (p.funcs[j]).2 = e := ⟨_, rfl⟩
          rw [hex] at HCX
          have HEX := Lib.hid hex
          generalize (p.funcs[j]).1 = nm at h1 HKP HCX
          simp only at HCX
          clear hnc hrd hex f0 f1 f2 f4 h1 h2 hbj
          by_cases hx : ex = 0
          · subst hx
            have HX := Lib.hid ((fnMiss hjl (by rw [HEX.out])).symm.trans HE.out)
            go_wp2_with fail
            go_region_held3 (fun w' => Below wr.heap.size wr w' ∧ w'.cell? ⟨q, off + j * 2, none⟩ = some (.string nm) ∧ w'.cell? ⟨q, off + j * 2 + 1, none⟩ = some (.slice Ac nc cc) ∧ w'.cell? ⟨w.heap.size, 0, none⟩ = some (.slice A1 n1 c1) ∧ w'.cell? ⟨w.heap.size, 1, none⟩ = some (.slice A2 n2 c2) ∧ w'.cell? ⟨w.heap.size, 2, none⟩ = some (.slice A3 n3 c3) ∧ w'.cell? ⟨w.heap.size, 3, none⟩ = some (.slice (some ⟨q, off, none⟩) n4 c4) ∧ w'.cell? ⟨w.heap.size, 4, none⟩ = some (.slice A5 n5 c5))
              (first
                | with_reducible assumption
                | with_reducible exact HKP.out _ hbd
                | exact HKP.out _ (belowThen hbd bk))
              (first | (go_at_call 22; refine (HCX.out _ (‹Below wr.heap.size wr _ ∧ _›).1).mono ?_; rintro e wa ⟨rfl, bk⟩))
            have hall := ‹Below wr.heap.size wr _ ∧ _›
            have HB5 := Lib.hid hall.1
            clear hall f3
            go_wp2
            go_roundw
            case rel => exact ⟨j + 1, by omega, by go_num, belowThen HBJ.out HB5.out, HX⟩
            case measure => simp [intOf]; omega
          · have hxx : (ex != 0) = true := by simpa using hx
            have HX := Lib.hid (show (ex, (j : Int), ey) = r by
              have h1 := (fnHit hjl (by rw [HEX.out]; exact hx)).symm.trans HE.out
              rw [HEX.out] at h1
              have h2 := H6.out
              rw [← h1, if_pos hx] at h2
              exact h2)
            clear hx
            go_wp2_with fail
            go_region_held3 (fun w' => Below wr.heap.size wr w' ∧ w'.cell? ⟨q, off + j * 2, none⟩ = some (.string nm) ∧ w'.cell? ⟨q, off + j * 2 + 1, none⟩ = some (.slice Ac nc cc) ∧ w'.cell? ⟨w.heap.size, 0, none⟩ = some (.slice A1 n1 c1) ∧ w'.cell? ⟨w.heap.size, 1, none⟩ = some (.slice A2 n2 c2) ∧ w'.cell? ⟨w.heap.size, 2, none⟩ = some (.slice A3 n3 c3) ∧ w'.cell? ⟨w.heap.size, 3, none⟩ = some (.slice (some ⟨q, off, none⟩) n4 c4) ∧ w'.cell? ⟨w.heap.size, 4, none⟩ = some (.slice A5 n5 c5))
              (first
                | with_reducible assumption
                | with_reducible exact HKP.out _ hbd
                | exact HKP.out _ (belowThen hbd bk))
              (first | (go_at_call 22; refine (HCX.out _ (‹Below wr.heap.size wr _ ∧ _›).1).mono ?_; rintro e wa ⟨rfl, bk⟩))
            have hall := ‹Below wr.heap.size wr _ ∧ _›
            have HB5 := Lib.hid hall.1
            clear hall f3
            go_wp2
            go_ret3
            exact ⟨ret3I HX.out, belowThen HBW.out (belowThen HBJ.out HB5.out)⟩
        · have HX : Hid ((p.thE, -1, -1) = r) := Lib.hid (by
            have h1 := (fnEnd (p := p) (l := p.funcs) (k := j) (by have : p.funcs.length = n4 := HL4.out; omega)).symm.trans HE.out
            have h2 := H6.out
            rw [← h1, if_neg (by simp)] at h2
            exact h2)
          go_wp2_with fail
          refine (HTH.out wr hbj).mono ?_
          rintro e w6 ⟨rfl, b6⟩
          go_wp2
          go_ret3
          exact ⟨ret3I HX.out, belowThen HBW.out (belowThen hbj b6)⟩
theorem rValidP {a : PgA} {p : Prg} (w : World) (hP : PgW w a p) (hW : p.Wf) (hsm : p.small = true) : Calls Tryd.prog 5 #[a.val] w fun e w' => e = .returned (.bool p.okB) ∧ Below w.heap.size w w' := by
  have HE : Hid (p.okB = decide (p.chk.1 = 0)) := Lib.hid rfl
  have HC := Lib.hid (fun X (hX : Below w.heap.size w X) => rCheckP X (hP.below hX) hW hsm)
  generalize p.okB = r at HE ⊢
  generalize p.chk = c at HE HC
  obtain ⟨x, y, z⟩ := c
  simp only [err3] at HC HE
  obtain ⟨A1, n1, c1, A2, n2, c2, A3, n3, c3, A4, n4, c4, A5, n5, c5⟩ := a
  simp only [PgA.val, PgA.fs] at *
  have hbW := belowAlloc w (.cells #[.slice A1 n1 c1, .slice A2 n2 c2, .slice A3 n3 c3, .slice A4 n4 c4, .slice A5 n5 c5] 27)
  have HB := Lib.hid hbW
  have HB0 := Lib.hid (Below.refl w.heap.size w)
  clear hP hW
  by_cases hx : x = 0
  · subst hx
    have HR := Lib.hid (show true = r by rw [HE.out]; rfl)
    clear HE
    go_enter Tryd.func5, Tryd.ntmps5
    go_wp2_with (go_at_call 11; refine (HC.out _ (by first | exact HB.out | exact HB0.out)).mono ?_; rintro e w2 ⟨rfl, b2⟩)
    go_ret
    exact ⟨retBl HR.out, by first | exact belowThen HB.out b2 | exact b2⟩
  · have HR := Lib.hid (show false = r by rw [HE.out, decide_eq_false hx])
    have hx0 : (x == 0) = false := by simpa using hx
    clear HE hx
    go_enter Tryd.func5, Tryd.ntmps5
    go_wp2_with (go_at_call 11; refine (HC.out _ (by first | exact HB.out | exact HB0.out)).mono ?_; rintro e w2 ⟨rfl, b2⟩)
    go_ret
    exact ⟨retBl HR.out, by first | exact belowThen HB.out b2 | exact b2⟩
end Go.Proofs.YtebpnnakcodjdaaDoor

namespace Go.Proofs.YtebpnnakcodjdaaDoor
open Go Go.RowKit

end Go.Proofs.YtebpnnakcodjdaaDoor

namespace Go.Proofs.YtebpnnakcodjdaaDoor
open Go Go.RowKit

end Go.Proofs.YtebpnnakcodjdaaDoor

namespace Go.Proofs.YtebpnnakcodjdaaDoor
open Go Go.RowKit

end Go.Proofs.YtebpnnakcodjdaaDoor

namespace Go.Proofs.YtebpnnakcodjdaaDoor
open Go Go.ChangeShapes Go.WideShapes Go.ChangeAt Go.RowKit Go.Deep Go.Joins

section
variable {H : Type} {enc : TypeId × Value → H} {W : World} {b0 : Nat}
end
end Go.Proofs.YtebpnnakcodjdaaDoor
