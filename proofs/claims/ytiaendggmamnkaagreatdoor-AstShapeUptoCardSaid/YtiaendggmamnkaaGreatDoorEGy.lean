/-
  checkSize: the error of a procedure that mentions no statement.
-/
import Derived.Test.YtiaendggmamnkaaGreatDoorEAsF
namespace Go.Proofs.YtiaendggmamnkaaGreatDoor
open Go Go.RowKit Go.Shelf
attribute [local go_sem] Oper.semAt_some

theorem two16s (w : World) (o1 o2 : Obj) {Z : World} (hZ : (w.alloc o1).alloc o2 = Z) : Z.heap[w.heap.size]? = some o1 ∧ Z.heap[w.heap.size + 1]? = some o2 ∧ Below w.heap.size w Z ∧ Z.heap.size = w.heap.size + 2 := by
  obtain ⟨h1, h2, h3⟩ := two16 w o1 o2 hZ
  exact ⟨h1, h2, h3, by subst hZ; simp⟩
theorem numbAt {α : Type} : ∀ {l : List α} {k : Nat} {pre post : List (Nat × α)} {x : Nat × α}, numb k l = pre ++ x :: post → x.1 = k + pre.length
  | [], _, pre, _, _, h => by cases pre <;> cases h
  | a :: l, k, [], post, x, h => by
    rw [numb] at h
    injection h with h1 h2
    subst h1
    rfl
  | a :: l, k, q :: pre, post, x, h => by
    rw [numb] at h
    injection h with h1 h2
    have := numbAt (l := l) (k := k + 1) h2
    rw [this, List.length_cons]
    omega
theorem resSz {tmps : Array Value} {b : Nat} {r : Int} {W : World} (hp : tmps.getD 2 undef = .pointer (some ⟨b, 0, none⟩)) (hB : Boxed W b 30 (.int .i64 r)) : (results Tryz.f105 tmps).run Tryz.prog W = .ok (.int .i64 r) W := by
  have hc := hB.cell
  have hp' : tmps[2]?.getD undef = .pointer (some ⟨b, 0, none⟩) := by simpa using hp
  simp [results, hp', asAddr, loadVar, isAgg, run_underlying Tryz.underlying30, go_sem, hc]
theorem notNil {s : ByteArray} (h : ¬ s.toList = []) : s.toList.isEmpty = false ∧ (!s.toList.isEmpty) = true ∧ (s.toList == []) = false := by
  have h1 : s.toList.isEmpty = false := by
    cases h9 : s.toList with
    | nil => exact absurd h9 h
    | cons => rfl
  exact ⟨h1, by rw [h1]; rfl, by simpa using h⟩
theorem szIff {s : ByteArray} : s.size = 0 ↔ s.toList = [] := by
  have := szDec s
  constructor
  · intro h; rw [h] at this; exact of_decide_eq_true this.symm
  · intro h; rw [decide_eq_true h] at this; simpa using this
set_option maxRecDepth 100000 in
set_option maxHeartbeats 4000000 in
theorem iSize16 (dx D : Nat) (p : Pc) (hp : WfP p) (Ab : Option Addr) (nb cb : Nat) (hn : p.body.length = nb) (w : World) (hT : RwsT w) (hr : RdE 9 (EM dx D) w Ab cb p.body) :
    Calls Tryz.prog 105 #[.agg #[.string p.name, .string p.param, .slice Ab nb cb]] w fun e w' => e = .returned (.int .i64 (szE p)) ∧ Below w.heap.size w w' := by
  obtain ⟨W, hWd⟩ : ∃ W, (w.alloc (.cells #[.string p.name, .string p.param, .slice Ab nb cb] 44)).alloc (.cells #[.int .i64 0] 30) = W := ⟨_, rfl⟩
  obtain ⟨h0, h1, hb, hz⟩ := two16s w _ _ hWd
  have P0 : Blk W w.heap.size 44 #[.string p.name, .string p.param, .slice Ab nb cb] := h0
  have B0 : Boxed W (w.heap.size + 1) 30 (.int .i64 0) := h1
  have c1 : W.cell? ⟨w.heap.size, 1, none⟩ = some (.string p.param) := P0.cell 1
  have c2 : W.cell? ⟨w.heap.size, 2, none⟩ = some (.slice Ab nb cb) := P0.cell 2
  have kr := B0.cell
  have fr := B0.frozen
  have HP := Lib.hid P0
  have HBX := Lib.hid B0
  have HB := Lib.hid hb
  have HZ := Lib.hid hz
  have HR := Lib.hid hr
  have HT := Lib.hid hT
  have HNM := Lib.hid (iName16 p.param hp.pm W)
  have HV := Lib.hid (fun z => visSM dx D 7 (by omega) w z Ab nb cb p.body hn hr hp.body.sz (fun _ => True) (fun _ _ h => absurd trivial h))
  have HST := Lib.hid (iStatements Ab nb cb W)
  have HLC := Lib.hid (fun X (hX : Below w.heap.size w X) => iLocals16 dx D p hp Ab nb cb hn X (hT.below hX) (hr.below (stabM dx D) hX))
  have HWd := Lib.hid hWd
  clear hWd h0 h1 hb hz P0 B0 hr hT
  refine (callsIn_wide (n := 8)).1 ?_
  refine callsIn_of_wp_marks Tryz.func105 rfl trivial ?_ rfl
  simp only [Tryz.ntmps105, List.size_toArray, List.length_cons, List.length_nil, Nat.reduceAdd, Nat.reduceSub, Array.replicate_succ, Array.replicate_zero, List.push_toArray, List.append_toArray, List.nil_append, List.cons_append]
  by_cases hpe : p.param.toList = []
  · have HPM : Hid (¬ (p.param.size ≠ 0 ∧ nmA p.param = false)) := Lib.hid fun h => h.1 (szIff.2 hpe)
    have HPLN : Hid ((pmL p).length = 0) := Lib.hid (by unfold pmL; rw [if_pos (szIff.2 hpe)]; rfl)
    gi_upto_region 1 with fail
    rw [HWd.out]
    gi_wp2_with fail
    refine ⟨trivial, ?_⟩
    gi_wp2_with fail
    refine ⟨trivial, (callsIn_wide.2 HST.out).mono ?_⟩
    rintro e V ⟨rfl, hI, hbv⟩
    obtain ⟨z, hzz⟩ : ∃ z, W.heap.size = z := ⟨_, rfl⟩
    have HZZ := Lib.hid hzz
    rw [hzz] at hI
    have HI := Lib.hid hI
    have HVW := Lib.hid (show Below w.heap.size w V from belowThen HB.out hbv)
    have HVV := Lib.hid hbv
    have HK := Lib.hid (show Boxed V (w.heap.size + 1) 30 (.int .i64 0) from (hbv.block _ HBX.out.lt).trans HBX.out)
    have HPV := Lib.hid (show Blk V (w.heap.size) 44 #[.string p.name, .string p.param, .slice Ab nb cb] from (hbv.block _ HP.out.lt).trans HP.out)
    have HZV := Lib.hid (show z + 1 < V.heap.size ∧ w.heap.size + 1 < z from ⟨hI.f.lt, by have := HZ.out; omega⟩)
    unfold itrM
    rw [hzz]
    clear hI hbv hzz
    gi_wp2_with fail
    refine rangeLow (w := V) (w0 := w) (gf := 170) (lb := #[.pointer (some ⟨z, 0, none⟩), .pointer (some ⟨z + 1, 0, none⟩)]) rfl entVisM (Arg := ArgM dx D w) (G := fun X => Chg w X (fun _ => True) ∧ ItrM X z Ab nb cb) (HV.out z)
      (lowG (by have := HVW.out.size; omega) HZV.out.1) HVW.out (fun x args h => by obtain ⟨_, _, _, _, _, _, rfl, _⟩ := h; rfl)
      (fun pre X => Boxed X (w.heap.size + 1) 30 (.int .i64 0) ∧ (pre.length ≤ 128 ∧ Blk X (w.heap.size) 44 #[.string p.name, .string p.param, .slice Ab nb cb]) ∧ Chg w X (fun _ => True) ∧ ItrM X z Ab nb cb)
      (fun c pre X => Boxed X (w.heap.size + 1) 30 (.int .i64 4) ∧ (c = .ret ∧ 128 < Tr.szL p.body) ∧ Chg w X (fun _ => True) ∧ ItrM X z Ab nb cb)
      ?hI ?hIx (fun _ _ h => h.2.2) (fun _ _ _ h => h.2.2) ?h0
      (fun X args => { tmps := #[.agg #[.string p.name, .string p.param, .slice Ab nb cb], .pointer (some ⟨w.heap.size, 0, none⟩), .pointer (some ⟨w.heap.size + 1, 0, none⟩), .pointer (some ⟨X.heap.size, 0, none⟩), undef, .pointer (some ⟨w.heap.size, 1, none⟩), .string p.param, .bool false, .bool false, undef, undef, undef, undef, .bool false, .pointer (some ⟨w.heap.size, 2, none⟩), .slice Ab nb cb, .func (.func 170) #[] #[.pointer (some ⟨z, 0, none⟩), .pointer (some ⟨z + 1, 0, none⟩)], args.getD 0 undef, args.getD 1 undef, undef, undef, undef, undef, undef, undef, undef, undef, undef, undef, undef, undef, undef, undef], defers := [] }) (fun args X => X.alloc (.cells (agC (args.getD 0 undef)) 92)) (fun _ _ => belowAlloc _ _) ?assign ?body ?done ?stop
    case hI => exact fun p => lowAnd (lowBox (by have := HZV.out; omega)) (lowAnd (lowAnd (lowPure _) (lowBlk (by have := HZV.out; omega))) (lowG (by have := HVW.out.size; omega) HZV.out.1))
    case hIx => exact fun c p => lowAnd (lowBox (by have := HZV.out; omega)) (lowAnd (lowPure _) (lowG (by have := HVW.out.size; omega) HZV.out.1))
    case h0 => exact ⟨HK.out, ⟨by simp, HPV.out⟩, Chg.ofBelow HVW.out _, HI.out⟩
    case assign =>
      intro lr x args X K ha hK
      obtain ⟨_, _, _, _, _, _, rfl, _⟩ := ha
      rw [zip2]
      gi_wp2
      exact hK
    case body =>
      rintro lr pre x post args X U hL ⟨h1, ⟨h2, h5⟩, h3, h4⟩ hA hs ⟨o, hU⟩ hlX hlV
      obtain ⟨_, _, _, _, _, _, rfl, _⟩ := hA
      have hnum := numbAt hL
      have hsz : (pre ++ x :: post).length = Tr.szL p.body := by rw [← hL, numbLen, Tr.ndsLLen]
      rw [List.length_append, List.length_cons] at hsz
      obtain ⟨num, lv, y⟩ := x
      dsimp only at hnum
      have hpl : Blk U X.heap.size 92 #[.int .i64 (num : Int), .int .i64 (lv : Int)] := by
        rw [hU]
        exact (World.putObj_heap_other (show X.heap.size ≠ lr by omega)).trans (Blk.new X _ _)
      have p0 : U.cell? ⟨X.heap.size, 0, none⟩ = some (.int .i64 (num : Int)) := hpl.cell 0
      have HG := Lib.hid (And.intro h3 h4)
      have HB9 := Lib.hid h1
      have HBL := Lib.hid h5
      have HN9 := Lib.hid hnum
      have HS9 := Lib.hid hsz
      by_cases hge : 128 ≤ num
      · have kf := h1.cell
        have ff := h1.frozen
        have HY := Lib.hid (h1.set (.int .i64 4))
        have HC := Lib.hid (chgSet16 U (w.heap.size + 1) 0 (.int .i64 4))
        clear h1 h2 h3 h4 h5 hpl hU hL hnum hsz
        gi_wp2
        exact ⟨HC.out.mono fun q hq => by have := HZV.out; omega, HY.out, ⟨rfl, by have := HN9.out; have := HS9.out; omega⟩, keepG HG.out HC.out (fun q hq _ => by omega) (by have := HZV.out; omega) (by have := HZV.out; omega)⟩
      · have HLE := Lib.hid (show (pre ++ [(num, lv, y)]).length ≤ 128 by rw [List.length_append, List.length_singleton]; omega)
        have hlt : ¬ ((128 : Int) ≤ num) := by omega
        clear h1 h2 h3 h4 h5 hpl hU hL hnum hsz
        gi_wp2
        exact ⟨Chg.refl _ _, HB9.out, ⟨HLE.out, HBL.out⟩, HG.out⟩
    case stop =>
      rintro R c pre X hR ⟨h1, ⟨rfl, h2⟩, h3, h4⟩ hK
      have HX := Lib.hid (show szE p = 4 by unfold szE; rw [if_neg HPM.out, if_pos h2])
      have HBX2 := Lib.hid (fun o' => show Boxed (X.putObj R o') (w.heap.size + 1) 30 (.int .i64 4) from (World.putObj_heap_other (by have := HZV.out; omega)).trans h1)
      have HG := Lib.hid h3
      clear h1 h2 h3 h4
      gi_wp2
      refine ⟨by simp, .inl ⟨_, _, rfl, run_takeDeferred hK, ?_⟩⟩
      refine ⟨_, resSz rfl (HBX2.out _), by rw [HX.out], ?_⟩
      have hg := HG.out
      exact ⟨hg.os, hg.tape, hg.output, by simpa using hg.size, fun q hq => (World.putObj_heap_other (by have := HZV.out; omega)).trans (hg.block q hq trivial)⟩
    case done =>
      rintro R X hR ⟨h1, ⟨h2, h5⟩, h3, h4⟩ hK
      rw [numbLen, Tr.ndsLLen] at h2
      have HX := Lib.hid (show szE p = if (lcP p).length < 5 + (pmL p).length then 0 else 4 by unfold szE; rw [if_neg HPM.out, if_neg (by omega)])
      have d0 : X.cell? ⟨w.heap.size, 0, none⟩ = some (.string p.name) := h5.cell 0
      have d1 : X.cell? ⟨w.heap.size, 1, none⟩ = some (.string p.param) := h5.cell 1
      have d2 : X.cell? ⟨w.heap.size, 2, none⟩ = some (.slice Ab nb cb) := h5.cell 2
      have HLX := Lib.hid (HLC.out X (h3.below fun _ _ => trivial))
      have HBE := Lib.hid (h3.below fun _ _ => trivial)
      have HBO := Lib.hid h1
      have HBL := Lib.hid h5
      have HKR := Lib.hid hK
      have HRV := Lib.hid hR
      clear h1 h2 h3 h4 h5 hK
      gi_wp2_with fail
      refine ⟨trivial, (callsIn_wide.2 HLX.out).mono ?_⟩
      rintro e Y ⟨v, rfl, hov, hby⟩
      obtain ⟨Av, cv, rfl⟩ := hov.sl
      obtain ⟨m, hm⟩ : ∃ m, (lcP p).length = m := ⟨_, rfl⟩
      rw [hm] at hov HX ⊢
      have hml : m ≤ 9000000 := by
        have h9 := lcFlen (pmL p) (numb 0 (Tr.ndsL 1 p.body))
        rw [numbLen, Tr.ndsLLen] at h9
        have h7 : (pmL p).length ≤ 1 := by unfold pmL; split <;> simp
        have := hp.body.sz
        unfold lcP at hm
        omega
      have g1 : Y.cell? ⟨w.heap.size, 1, none⟩ = some (.string p.param) := (Blk.below' HBL.out hby).cell 1
      have HBY := Lib.hid (show Boxed Y (w.heap.size + 1) 30 (.int .i64 0) from (hby.block _ HBO.out.lt).trans HBO.out)
      have kf := HBY.out.cell
      have ff := HBY.out.frozen
      have HDY := Lib.hid (show Y.heap[R]? = some (.deferred (some [])) from (hby.block _ (Array.getElem?_eq_some_iff.1 HKR.out).1).trans HKR.out)
      have HWY := Lib.hid (belowThen HBE.out hby)
      have HPL : Hid ((pmL p).length = 0) := HPLN
      have HUN := Lib.hid (iUnless (decide ((m : Int) < 5)) 4 Y)
      have hval : (if m < 5 + 0 then (0 : Int) else 4) = if decide ((m : Int) < 5) = true then 0 else 4 := by
        by_cases h : m < 5 + 0
        · rw [if_pos h, if_pos (by simp; omega)]
        · rw [if_neg h, if_neg (by simp; omega)]
      obtain ⟨r, hr⟩ : ∃ r : Int, (if decide ((m : Int) < 5) = true then (0 : Int) else 4) = r := ⟨_, rfl⟩
      rw [hr] at hval HUN
      have HVAL := Lib.hid hval
      have HYY := Lib.hid (HBY.out.set (.int .i64 r))
      have HC := Lib.hid (chgSet16 Y (w.heap.size + 1) 0 (.int .i64 r))
      clear hov hby hm hr hval d0 d1 d2
      gi_wp2_with fail
      refine ⟨trivial, (callsIn_wide.2 HUN.out).mono ?_⟩
      rintro e Y2 ⟨rfl, rfl⟩
      have hdR : (Y2.setCell ⟨w.heap.size + 1, 0, none⟩ (.int .i64 r)).heap[R]? = some (.deferred (some [])) := (HC.out.block _ (Array.getElem?_eq_some_iff.1 HDY.out).1 (by have := HRV.out; have := HZV.out; omega)).trans HDY.out
      have HBX2 := Lib.hid (show Boxed ((Y2.setCell ⟨w.heap.size + 1, 0, none⟩ (.int .i64 r)).putObj R (.deferred none)) (w.heap.size + 1) 30 (.int .i64 r) from (World.putObj_heap_other (by have := HRV.out; have := HZV.out; omega)).trans HYY.out)
      have HDR := Lib.hid hdR
      clear hdR
      gi_wp2_with fail
      refine ⟨by simp, .inl ⟨_, _, rfl, run_takeDeferred HDR.out, ?_⟩⟩
      refine ⟨_, resSz rfl HBX2.out, by rw [HX.out, HPL.out, HVAL.out], ?_⟩
      have hg := HWY.out
      have hc := HC.out
      exact ⟨hc.os.trans hg.os, hc.tape.trans hg.tape, hc.output.trans hg.output, by simpa using Nat.le_trans hg.size hc.size, fun q hq => (World.putObj_heap_other (by have := HRV.out; have := HVW.out.size; omega)).trans ((hc.block q (Nat.lt_of_lt_of_le hq hg.size) (by omega)).trans (hg.block q hq))⟩
  · obtain ⟨g1, g2, g3⟩ := notNil hpe
    cases hnm : nmA p.param
    · have HX := Lib.hid (show szE p = 6 by unfold szE; rw [if_pos ⟨fun h => hpe (szIff.1 h), hnm⟩])
      rw [hnm] at HNM
      have HY := Lib.hid (HBX.out.set (.int .i64 6))
      have HC := Lib.hid (chgSet16 W (w.heap.size + 1) 0 (.int .i64 6))
      clear hnm
      gi_upto_region 1 with fail
      rw [HWd.out]
      gi_wp2_with fail
      refine ⟨trivial, (callsIn_wide.2 HNM.out).mono ?_⟩
      rintro e w' ⟨rfl, rfl⟩
      gi_wp2
      refine ⟨_, resSz rfl HY.out, by rw [HX.out], ?_⟩
      have hb := HB.out
      exact ⟨HC.out.os.trans hb.os, HC.out.tape.trans hb.tape, HC.out.output.trans hb.output, Nat.le_trans hb.size HC.out.size, fun q hq => (HC.out.block q (Nat.lt_of_lt_of_le hq hb.size) (by omega)).trans (hb.block q hq)⟩
    have HPM : Hid (¬ (p.param.size ≠ 0 ∧ nmA p.param = false)) := Lib.hid fun h => by rw [hnm] at h; cases h.2
    have HPLN : Hid ((pmL p).length = 1) := Lib.hid (by unfold pmL; rw [if_neg (fun h => hpe (szIff.1 h))]; rfl)
    rw [hnm] at HNM
    clear hnm
    gi_upto_region 1 with fail
    rw [HWd.out]
    gi_wp2_with fail
    refine ⟨trivial, (callsIn_wide.2 HNM.out).mono ?_⟩
    rintro e w' ⟨rfl, rfl⟩
    gi_wp2_with fail
    refine ⟨trivial, (callsIn_wide.2 HST.out).mono ?_⟩
    rintro e V ⟨rfl, hI, hbv⟩
    obtain ⟨z, hzz⟩ : ∃ z, W.heap.size = z := ⟨_, rfl⟩
    have HZZ := Lib.hid hzz
    rw [hzz] at hI
    have HI := Lib.hid hI
    have HVW := Lib.hid (show Below w.heap.size w V from belowThen HB.out hbv)
    have HVV := Lib.hid hbv
    have HK := Lib.hid (show Boxed V (w.heap.size + 1) 30 (.int .i64 0) from (hbv.block _ HBX.out.lt).trans HBX.out)
    have HPV := Lib.hid (show Blk V (w.heap.size) 44 #[.string p.name, .string p.param, .slice Ab nb cb] from (hbv.block _ HP.out.lt).trans HP.out)
    have HZV := Lib.hid (show z + 1 < V.heap.size ∧ w.heap.size + 1 < z from ⟨hI.f.lt, by have := HZ.out; omega⟩)
    unfold itrM
    rw [hzz]
    clear hI hbv hzz
    gi_wp2_with fail
    refine rangeLow (w := V) (w0 := w) (gf := 170) (lb := #[.pointer (some ⟨z, 0, none⟩), .pointer (some ⟨z + 1, 0, none⟩)]) rfl entVisM (Arg := ArgM dx D w) (G := fun X => Chg w X (fun _ => True) ∧ ItrM X z Ab nb cb) (HV.out z)
      (lowG (by have := HVW.out.size; omega) HZV.out.1) HVW.out (fun x args h => by obtain ⟨_, _, _, _, _, _, rfl, _⟩ := h; rfl)
      (fun pre X => Boxed X (w.heap.size + 1) 30 (.int .i64 0) ∧ (pre.length ≤ 128 ∧ Blk X (w.heap.size) 44 #[.string p.name, .string p.param, .slice Ab nb cb]) ∧ Chg w X (fun _ => True) ∧ ItrM X z Ab nb cb)
      (fun c pre X => Boxed X (w.heap.size + 1) 30 (.int .i64 4) ∧ (c = .ret ∧ 128 < Tr.szL p.body) ∧ Chg w X (fun _ => True) ∧ ItrM X z Ab nb cb)
      ?hI ?hIx (fun _ _ h => h.2.2) (fun _ _ _ h => h.2.2) ?h0
      (fun X args => { tmps := #[.agg #[.string p.name, .string p.param, .slice Ab nb cb], .pointer (some ⟨w.heap.size, 0, none⟩), .pointer (some ⟨w.heap.size + 1, 0, none⟩), .pointer (some ⟨X.heap.size, 0, none⟩), undef, .pointer (some ⟨w.heap.size, 1, none⟩), .string p.param, .bool true, .bool true, .pointer (some ⟨w.heap.size, 1, none⟩), .string p.param, .bool true, .bool false, .bool false, .pointer (some ⟨w.heap.size, 2, none⟩), .slice Ab nb cb, .func (.func 170) #[] #[.pointer (some ⟨z, 0, none⟩), .pointer (some ⟨z + 1, 0, none⟩)], args.getD 0 undef, args.getD 1 undef, undef, undef, undef, undef, undef, undef, undef, undef, undef, undef, undef, undef, undef, undef], defers := [] }) (fun args X => X.alloc (.cells (agC (args.getD 0 undef)) 92)) (fun _ _ => belowAlloc _ _) ?assign ?body ?done ?stop
    case hI => exact fun p => lowAnd (lowBox (by have := HZV.out; omega)) (lowAnd (lowAnd (lowPure _) (lowBlk (by have := HZV.out; omega))) (lowG (by have := HVW.out.size; omega) HZV.out.1))
    case hIx => exact fun c p => lowAnd (lowBox (by have := HZV.out; omega)) (lowAnd (lowPure _) (lowG (by have := HVW.out.size; omega) HZV.out.1))
    case h0 => exact ⟨HK.out, ⟨by simp, HPV.out⟩, Chg.ofBelow HVW.out _, HI.out⟩
    case assign =>
      intro lr x args X K ha hK
      obtain ⟨_, _, _, _, _, _, rfl, _⟩ := ha
      rw [zip2]
      gi_wp2
      exact hK
    case body =>
      rintro lr pre x post args X U hL ⟨h1, ⟨h2, h5⟩, h3, h4⟩ hA hs ⟨o, hU⟩ hlX hlV
      obtain ⟨_, _, _, _, _, _, rfl, _⟩ := hA
      have hnum := numbAt hL
      have hsz : (pre ++ x :: post).length = Tr.szL p.body := by rw [← hL, numbLen, Tr.ndsLLen]
      rw [List.length_append, List.length_cons] at hsz
      obtain ⟨num, lv, y⟩ := x
      dsimp only at hnum
      have hpl : Blk U X.heap.size 92 #[.int .i64 (num : Int), .int .i64 (lv : Int)] := by
        rw [hU]
        exact (World.putObj_heap_other (show X.heap.size ≠ lr by omega)).trans (Blk.new X _ _)
      have p0 : U.cell? ⟨X.heap.size, 0, none⟩ = some (.int .i64 (num : Int)) := hpl.cell 0
      have HG := Lib.hid (And.intro h3 h4)
      have HB9 := Lib.hid h1
      have HBL := Lib.hid h5
      have HN9 := Lib.hid hnum
      have HS9 := Lib.hid hsz
      by_cases hge : 128 ≤ num
      · have kf := h1.cell
        have ff := h1.frozen
        have HY := Lib.hid (h1.set (.int .i64 4))
        have HC := Lib.hid (chgSet16 U (w.heap.size + 1) 0 (.int .i64 4))
        clear h1 h2 h3 h4 h5 hpl hU hL hnum hsz
        gi_wp2
        exact ⟨HC.out.mono fun q hq => by have := HZV.out; omega, HY.out, ⟨rfl, by have := HN9.out; have := HS9.out; omega⟩, keepG HG.out HC.out (fun q hq _ => by omega) (by have := HZV.out; omega) (by have := HZV.out; omega)⟩
      · have HLE := Lib.hid (show (pre ++ [(num, lv, y)]).length ≤ 128 by rw [List.length_append, List.length_singleton]; omega)
        have hlt : ¬ ((128 : Int) ≤ num) := by omega
        clear h1 h2 h3 h4 h5 hpl hU hL hnum hsz
        gi_wp2
        exact ⟨Chg.refl _ _, HB9.out, ⟨HLE.out, HBL.out⟩, HG.out⟩
    case stop =>
      rintro R c pre X hR ⟨h1, ⟨rfl, h2⟩, h3, h4⟩ hK
      have HX := Lib.hid (show szE p = 4 by unfold szE; rw [if_neg HPM.out, if_pos h2])
      have HBX2 := Lib.hid (fun o' => show Boxed (X.putObj R o') (w.heap.size + 1) 30 (.int .i64 4) from (World.putObj_heap_other (by have := HZV.out; omega)).trans h1)
      have HG := Lib.hid h3
      clear h1 h2 h3 h4
      gi_wp2
      refine ⟨by simp, .inl ⟨_, _, rfl, run_takeDeferred hK, ?_⟩⟩
      refine ⟨_, resSz rfl (HBX2.out _), by rw [HX.out], ?_⟩
      have hg := HG.out
      exact ⟨hg.os, hg.tape, hg.output, by simpa using hg.size, fun q hq => (World.putObj_heap_other (by have := HZV.out; omega)).trans (hg.block q hq trivial)⟩
    case done =>
      rintro R X hR ⟨h1, ⟨h2, h5⟩, h3, h4⟩ hK
      rw [numbLen, Tr.ndsLLen] at h2
      have HX := Lib.hid (show szE p = if (lcP p).length < 5 + (pmL p).length then 0 else 4 by unfold szE; rw [if_neg HPM.out, if_neg (by omega)])
      have d0 : X.cell? ⟨w.heap.size, 0, none⟩ = some (.string p.name) := h5.cell 0
      have d1 : X.cell? ⟨w.heap.size, 1, none⟩ = some (.string p.param) := h5.cell 1
      have d2 : X.cell? ⟨w.heap.size, 2, none⟩ = some (.slice Ab nb cb) := h5.cell 2
      have HLX := Lib.hid (HLC.out X (h3.below fun _ _ => trivial))
      have HBE := Lib.hid (h3.below fun _ _ => trivial)
      have HBO := Lib.hid h1
      have HBL := Lib.hid h5
      have HKR := Lib.hid hK
      have HRV := Lib.hid hR
      clear h1 h2 h3 h4 h5 hK
      gi_wp2_with fail
      refine ⟨trivial, (callsIn_wide.2 HLX.out).mono ?_⟩
      rintro e Y ⟨v, rfl, hov, hby⟩
      obtain ⟨Av, cv, rfl⟩ := hov.sl
      obtain ⟨m, hm⟩ : ∃ m, (lcP p).length = m := ⟨_, rfl⟩
      rw [hm] at hov HX ⊢
      have hml : m ≤ 9000000 := by
        have h9 := lcFlen (pmL p) (numb 0 (Tr.ndsL 1 p.body))
        rw [numbLen, Tr.ndsLLen] at h9
        have h7 : (pmL p).length ≤ 1 := by unfold pmL; split <;> simp
        have := hp.body.sz
        unfold lcP at hm
        omega
      have g1 : Y.cell? ⟨w.heap.size, 1, none⟩ = some (.string p.param) := (Blk.below' HBL.out hby).cell 1
      have HBY := Lib.hid (show Boxed Y (w.heap.size + 1) 30 (.int .i64 0) from (hby.block _ HBO.out.lt).trans HBO.out)
      have kf := HBY.out.cell
      have ff := HBY.out.frozen
      have HDY := Lib.hid (show Y.heap[R]? = some (.deferred (some [])) from (hby.block _ (Array.getElem?_eq_some_iff.1 HKR.out).1).trans HKR.out)
      have HWY := Lib.hid (belowThen HBE.out hby)
      have HPL : Hid ((pmL p).length = 1) := HPLN
      have HUN := Lib.hid (iUnless (decide ((m : Int) - 1 < 5)) 4 Y)
      have hval : (if m < 5 + 1 then (0 : Int) else 4) = if decide ((m : Int) - 1 < 5) = true then 0 else 4 := by
        by_cases h : m < 5 + 1
        · rw [if_pos h, if_pos (by simp; omega)]
        · rw [if_neg h, if_neg (by simp; omega)]
      obtain ⟨r, hr⟩ : ∃ r : Int, (if decide ((m : Int) - 1 < 5) = true then (0 : Int) else 4) = r := ⟨_, rfl⟩
      rw [hr] at hval HUN
      have HVAL := Lib.hid hval
      have HYY := Lib.hid (HBY.out.set (.int .i64 r))
      have HC := Lib.hid (chgSet16 Y (w.heap.size + 1) 0 (.int .i64 r))
      clear hov hby hm hr hval d0 d1 d2
      gi_wp2_with fail
      refine ⟨trivial, (callsIn_wide.2 HUN.out).mono ?_⟩
      rintro e Y2 ⟨rfl, rfl⟩
      have hdR : (Y2.setCell ⟨w.heap.size + 1, 0, none⟩ (.int .i64 r)).heap[R]? = some (.deferred (some [])) := (HC.out.block _ (Array.getElem?_eq_some_iff.1 HDY.out).1 (by have := HRV.out; have := HZV.out; omega)).trans HDY.out
      have HBX2 := Lib.hid (show Boxed ((Y2.setCell ⟨w.heap.size + 1, 0, none⟩ (.int .i64 r)).putObj R (.deferred none)) (w.heap.size + 1) 30 (.int .i64 r) from (World.putObj_heap_other (by have := HRV.out; have := HZV.out; omega)).trans HYY.out)
      have HDR := Lib.hid hdR
      clear hdR
      gi_wp2_with fail
      refine ⟨by simp, .inl ⟨_, _, rfl, run_takeDeferred HDR.out, ?_⟩⟩
      refine ⟨_, resSz rfl HBX2.out, by rw [HX.out, HPL.out, HVAL.out], ?_⟩
      have hg := HWY.out
      have hc := HC.out
      exact ⟨hc.os.trans hg.os, hc.tape.trans hg.tape, hc.output.trans hg.output, by simpa using Nat.le_trans hg.size hc.size, fun q hq => (World.putObj_heap_other (by have := HRV.out; have := HVW.out.size; omega)).trans ((hc.block q (Nat.lt_of_lt_of_le hq hg.size) (by omega)).trans (hg.block q hq))⟩
end Go.Proofs.YtiaendggmamnkaaGreatDoor

namespace Go.Proofs.YtiaendggmamnkaaGreatDoor
open Go Go.RowKit

theorem beqC (a b : List UInt8) : (a == b) = (b == a) := by
  rw [Bool.eq_iff_iff]
  exact ⟨fun h => beq_iff_eq.2 (eq_of_beq h).symm, fun h => beq_iff_eq.2 (eq_of_beq h).symm⟩
def GivesIdb (b : Bool) (w : World) (e : Ending) (w' : World) : Prop := ∃ r : Int, e = .returned (.int .i64 r) ∧ decide (0 ≤ r) = b ∧ Below w.heap.size w w'
theorem iExV (s : ByteArray) (z : Int) (t : ByteArray) (b : Nat) (w : World) (h : Boxed w b 9 (.string t)) : Calls Tryz.prog 158 #[.agg #[.string s, .int .i64 z], .pointer (some ⟨b, 0, none⟩)] w fun e w' => e = .returned (.bool (s.toList == t.toList)) ∧ Below w.heap.size w w' := by
  obtain ⟨W, hW⟩ : ∃ W, w.alloc (.cells #[.string s, .int .i64 z] 56) = W := ⟨_, rfl⟩
  have hb : Below w.heap.size w W := by rw [← hW]; exact belowAlloc _ _
  have B : Blk W w.heap.size 56 #[.string s, .int .i64 z] := by rw [← hW]; exact Blk.new _ _ _
  have k0 : W.cell? ⟨w.heap.size, 0, none⟩ = some (.string s) := B.cell 0
  have k1 : W.cell? ⟨b, 0, none⟩ = some (.string t) := Boxed.cell (show Boxed W b 9 (.string t) from (hb.block _ h.lt).trans h)
  have HW := Lib.hid hW
  have HB := Lib.hid hb
  clear B hW hb h
  go_enter Tryz.func158, Tryz.ntmps158
  go_upto_region 1 with fail
  rw [HW.out]
  go_wp2_with fail
  go_ret
  exact ⟨rfl, HB.out⟩
set_option maxHeartbeats 1000000 in
theorem iIdxV (l : List (ByteArray × Int)) (n cp : Nat) (hn : l.length = n) (A : Option Addr) (t : ByteArray) (b : Nat) (w : World) (hr : RdE 2 EV w A cp l) (hB : Boxed w b 9 (.string t)) :
    Calls Tryz.prog 195 #[.slice A n cp, .func (.func 158) #[] #[.pointer (some ⟨b, 0, none⟩)]] w (GivesIdb (inS t (l.map (·.1))) w) := by
  obtain ⟨bb, hbb⟩ : ∃ b, inS t (l.map (·.1)) = b := ⟨_, rfl⟩
  rw [hbb]
  have HBB := Lib.hid hbb
  have hm := hr.max
  have hle := hr.le
  rw [hn] at hle
  unfold maxLen at hm
  have HR := Lib.hid hr
  have HN := Lib.hid hn
  have HX9 := Lib.hid hB
  clear hbb hr hn hB
  go_enter Tryz.func195, Tryz.ntmps195
  go_wp2
  go_loopw [5, 8] (fun _ i wr => ∃ k : Nat, k ≤ n ∧ i = .int .i64 k ∧ Below w.heap.size w wr ∧ Hid (∀ j (hj : j < l.length), j < k → (l[j].1.toList == t.toList) = false)) (fun _ i _ => n - (intOf i).toNat)
  case atStart => exact ⟨0, Nat.zero_le _, rfl, Below.refl _ _, Lib.hid fun j _ h => by omega⟩
  case round =>
    obtain ⟨k, hk, rfl, hb, HA⟩ := hrel
    by_cases hlt : k < n
    · have hkl : k < l.length := by rw [HN.out]; exact hlt
      obtain ⟨q, off, hA, _, h1, h2⟩ := (HR.out.below stabV hb).one hkl
      subst hA
      obtain ⟨s, hs⟩ : ∃ s, l[k].1 = s := ⟨_, rfl⟩
      rw [hs] at h1
      have HS := Lib.hid hs
      obtain ⟨z, hz⟩ : ∃ s, l[k].2 = s := ⟨_, rfl⟩
      rw [hz] at h2
      have hk0 : (0 : Int) ≤ k := by omega
      have hk1 : (k : Int) < n := by omega
      have HC := Lib.hid (iExV s z t b wr ((hb.block _ HX9.out.lt).trans HX9.out))
      have HB9 := Lib.hid hb
      clear hs hz
      cases hq : (s.toList == t.toList)
      · have HX := Lib.hid (show ∀ j (hj : j < l.length), j < k + 1 → (l[j].1.toList == t.toList) = false from fun j hj h => by
          rcases Nat.lt_or_ge j k with h' | h'
          · exact HA.out j hj h'
          · obtain rfl : j = k := by omega
            rw [HS.out]; exact hq)
        rw [hq] at HC
        clear hq hb
        go_wp2_with (go_at_call 158; refine HC.out.mono ?_; rintro e w1 ⟨rfl, b1⟩)
        go_roundw
        case rel => exact ⟨k + 1, by omega, by go_num, belowThen HB9.out b1, HX⟩
        case measure => simp [intOf]; omega
      · have HX := Lib.hid (show inS t (l.map (·.1)) = true from inSYes (j := k) (by simpa using hkl) (by rw [List.getElem_map, HS.out]; simpa using (by simpa using hq : s.toList = t.toList).symm))
        rw [hq] at HC
        clear hq hb
        go_wp2_with (go_at_call 158; refine HC.out.mono ?_; rintro e w1 ⟨rfl, b1⟩)
        go_ret
        exact ⟨_, rfl, by rw [← HBB.out, HX.out]; simp, belowThen HB9.out b1⟩
    · have HX := Lib.hid (show inS t (l.map (·.1)) = false from inSNo fun j hj => by
        have hj' : j < l.length := by simpa using hj
        have := HA.out j hj' (by have := HN.out; omega)
        rw [List.getElem_map, beqC]
        exact this)
      go_wp2
      go_ret
      exact ⟨_, rfl, by rw [← HBB.out, HX.out]; decide, hb⟩
theorem iHasFV (l : List (ByteArray × Int)) (n cp : Nat) (hn : l.length = n) (A : Option Addr) (t : ByteArray) (b : Nat) (w : World) (hr : RdE 2 EV w A cp l) (hB : Boxed w b 9 (.string t)) :
    Calls Tryz.prog 157 #[.slice A n cp, .func (.func 158) #[] #[.pointer (some ⟨b, 0, none⟩)]] w fun e w' => e = .returned (.bool (inS t (l.map (·.1)))) ∧ Below w.heap.size w w' := by
  have HI := Lib.hid (iIdxV l n cp hn A t b w hr hB)
  generalize inS t (l.map (·.1)) = bb at HI ⊢
  clear hr hn hB
  go_enter Tryz.func157, Tryz.ntmps157
  go_wp2_with fail
  refine HI.out.mono ?_
  rintro e w' ⟨r, rfl, hb, hw⟩
  have HB := Lib.hid hb
  have HW := Lib.hid hw
  clear hb hw
  go_wp2_with fail
  go_ret
  exact ⟨by rw [← HB.out]; rfl, HW.out⟩
theorem iExP (s pm : ByteArray) (Ab : Option Addr) (nb cb : Nat) (t : ByteArray) (b : Nat) (w : World) (h : Boxed w b 9 (.string t)) : Calls Tryz.prog 160 #[.agg #[.string s, .string pm, .slice Ab nb cb], .pointer (some ⟨b, 0, none⟩)] w fun e w' => e = .returned (.bool (s.toList == t.toList)) ∧ Below w.heap.size w w' := by
  obtain ⟨W, hW⟩ : ∃ W, w.alloc (.cells #[.string s, .string pm, .slice Ab nb cb] 44) = W := ⟨_, rfl⟩
  have hb : Below w.heap.size w W := by rw [← hW]; exact belowAlloc _ _
  have B : Blk W w.heap.size 44 #[.string s, .string pm, .slice Ab nb cb] := by rw [← hW]; exact Blk.new _ _ _
  have k0 : W.cell? ⟨w.heap.size, 0, none⟩ = some (.string s) := B.cell 0
  have k1 : W.cell? ⟨b, 0, none⟩ = some (.string t) := Boxed.cell (show Boxed W b 9 (.string t) from (hb.block _ h.lt).trans h)
  have HW := Lib.hid hW
  have HB := Lib.hid hb
  clear B hW hb h
  go_enter Tryz.func160, Tryz.ntmps160
  go_upto_region 1 with fail
  rw [HW.out]
  go_wp2_with fail
  go_ret
  exact ⟨rfl, HB.out⟩
set_option maxHeartbeats 1000000 in
theorem iIdxP (dx d : Nat) (l : List Pc) (n cp : Nat) (hn : l.length = n) (A : Option Addr) (t : ByteArray) (b : Nat) (w : World) (hr : RdE 3 (EPc dx d) w A cp l) (hB : Boxed w b 9 (.string t)) :
    Calls Tryz.prog 196 #[.slice A n cp, .func (.func 160) #[] #[.pointer (some ⟨b, 0, none⟩)]] w (GivesIdb (inS t (l.map (·.name))) w) := by
  obtain ⟨bb, hbb⟩ : ∃ b, inS t (l.map (·.name)) = b := ⟨_, rfl⟩
  rw [hbb]
  have HBB := Lib.hid hbb
  have hm := hr.max
  have hle := hr.le
  rw [hn] at hle
  unfold maxLen at hm
  have HR := Lib.hid hr
  have HN := Lib.hid hn
  have HX9 := Lib.hid hB
  clear hbb hr hn hB
  go_enter Tryz.func196, Tryz.ntmps196
  go_wp2
  go_loopw [5, 8] (fun _ i wr => ∃ k : Nat, k ≤ n ∧ i = .int .i64 k ∧ Below w.heap.size w wr ∧ Hid (∀ j (hj : j < l.length), j < k → (l[j].name.toList == t.toList) = false)) (fun _ i _ => n - (intOf i).toNat)
  case atStart => exact ⟨0, Nat.zero_le _, rfl, Below.refl _ _, Lib.hid fun j _ h => by omega⟩
  case round =>
    obtain ⟨k, hk, rfl, hb, HA⟩ := hrel
    by_cases hlt : k < n
    · have hkl : k < l.length := by rw [HN.out]; exact hlt
      obtain ⟨q, off, hA, _, h1, h2, v3, h3, Ab, cb, rfl, _⟩ := (HR.out.below (stabPc dx d) hb).one hkl
      subst hA
      obtain ⟨s, hs⟩ : ∃ s, l[k].name = s := ⟨_, rfl⟩
      rw [hs] at h1
      have HS := Lib.hid hs
      obtain ⟨pm, hz⟩ : ∃ s, l[k].param = s := ⟨_, rfl⟩
      rw [hz] at h2
      obtain ⟨nb, hnb⟩ : ∃ m, l[k].body.length = m := ⟨_, rfl⟩
      rw [hnb] at h3
      have hk0 : (0 : Int) ≤ k := by omega
      have hk1 : (k : Int) < n := by omega
      have HC := Lib.hid (iExP s pm Ab nb cb t b wr ((hb.block _ HX9.out.lt).trans HX9.out))
      have HB9 := Lib.hid hb
      clear hs hz hnb
      cases hq : (s.toList == t.toList)
      · have HX := Lib.hid (show ∀ j (hj : j < l.length), j < k + 1 → (l[j].name.toList == t.toList) = false from fun j hj h => by
          rcases Nat.lt_or_ge j k with h' | h'
          · exact HA.out j hj h'
          · obtain rfl : j = k := by omega
            rw [HS.out]; exact hq)
        rw [hq] at HC
        clear hq hb
        go_wp2_with (go_at_call 160; refine HC.out.mono ?_; rintro e w1 ⟨rfl, b1⟩)
        go_roundw
        case rel => exact ⟨k + 1, by omega, by go_num, belowThen HB9.out b1, HX⟩
        case measure => simp [intOf]; omega
      · have HX := Lib.hid (show inS t (l.map (·.name)) = true from inSYes (j := k) (by simpa using hkl) (by rw [List.getElem_map, HS.out]; simpa using (by simpa using hq : s.toList = t.toList).symm))
        rw [hq] at HC
        clear hq hb
        go_wp2_with (go_at_call 160; refine HC.out.mono ?_; rintro e w1 ⟨rfl, b1⟩)
        go_ret
        exact ⟨_, rfl, by rw [← HBB.out, HX.out]; simp, belowThen HB9.out b1⟩
    · have HX := Lib.hid (show inS t (l.map (·.name)) = false from inSNo fun j hj => by
        have hj' : j < l.length := by simpa using hj
        have := HA.out j hj' (by have := HN.out; omega)
        rw [List.getElem_map, beqC]
        exact this)
      go_wp2
      go_ret
      exact ⟨_, rfl, by rw [← HBB.out, HX.out]; decide, hb⟩
theorem iHasFP (dx d : Nat) (l : List Pc) (n cp : Nat) (hn : l.length = n) (A : Option Addr) (t : ByteArray) (b : Nat) (w : World) (hr : RdE 3 (EPc dx d) w A cp l) (hB : Boxed w b 9 (.string t)) :
    Calls Tryz.prog 159 #[.slice A n cp, .func (.func 160) #[] #[.pointer (some ⟨b, 0, none⟩)]] w fun e w' => e = .returned (.bool (inS t (l.map (·.name)))) ∧ Below w.heap.size w w' := by
  have HI := Lib.hid (iIdxP dx d l n cp hn A t b w hr hB)
  generalize inS t (l.map (·.name)) = bb at HI ⊢
  clear hr hn hB
  go_enter Tryz.func159, Tryz.ntmps159
  go_wp2_with fail
  refine HI.out.mono ?_
  rintro e w' ⟨r, rfl, hb, hw⟩
  have HB := Lib.hid hb
  have HW := Lib.hid hw
  clear hb hw
  go_wp2_with fail
  go_ret
  exact ⟨by rw [← HB.out]; rfl, HW.out⟩
set_option maxRecDepth 100000 in
set_option maxHeartbeats 2000000 in
theorem iExists (u : Un) (a : PgA) (dx d : Nat) (k : Nat) (s : ByteArray) (w : World) (hU : UnR w a u dx d) :
    Calls Tryz.prog 108 #[a.val, .int .i64 (k : Int), .string s] w fun e w' => e = .returned (.bool (exB u k s)) ∧ Below w.heap.size w w' := by
  obtain ⟨W, hW⟩ : ∃ W, (w.alloc (.cells a.fs 27)).alloc (.cells #[.string s] 9) = W := ⟨_, rfl⟩
  obtain ⟨h0, h1, hb, hz⟩ := two16s w _ _ hW
  have B0 : UBox W w.heap.size a := h0
  have B1 : Boxed W (w.heap.size + 1) 9 (.string s) := h1
  obtain ⟨c0, c1, c2, c3, c4⟩ := B0.facts
  have ks := B1.cell
  have hUW := hU.below hb
  have HV := Lib.hid (iHasFV u.vars a.n1 a.c1 hU.l1 a.A1 s (w.heap.size + 1) W hUW.vars B1)
  have HM := Lib.hid (iHas16 u.muts a.n2 a.c2 hU.l2 a.A2 s W hUW.muts)
  have HC := Lib.hid (iHas16 u.conds a.n3 a.c3 hU.l3 a.A3 s W hUW.conds)
  have HP := Lib.hid (iHasFP dx d u.procs a.n4 a.c4 hU.l4 a.A4 s (w.heap.size + 1) W hUW.procs B1)
  have HB := Lib.hid hb
  have HW := Lib.hid hW
  clear hW h0 h1 hb hz B0 B1 hU hUW
  obtain ⟨A1, n1, c1', A2, n2, c2', A3, n3, c3', A4, n4, c4', A5, n5, c5'⟩ := a
  simp only [PgA.val, PgA.fs] at *
  unfold exB
  by_cases k1 : k = 1
  · subst k1
    rw [if_pos rfl]
    go_enter Tryz.func108, Tryz.ntmps108
    go_upto_region 1 with fail
    rw [HW.out]
    go_wp2_with fail
    refine HV.out.mono ?_
    rintro e w1 ⟨rfl, b1⟩
    go_wp2_with fail
    go_ret
    exact ⟨rfl, belowThen HB.out b1⟩
  rw [if_neg k1]
  by_cases k2 : k = 2
  · subst k2
    rw [if_pos rfl]
    go_enter Tryz.func108, Tryz.ntmps108
    go_upto_region 1 with fail
    rw [HW.out]
    go_wp2_with fail
    refine HM.out.mono ?_
    rintro e w1 ⟨rfl, rfl⟩
    go_wp2_with fail
    go_ret
    exact ⟨rfl, HB.out⟩
  rw [if_neg k2]
  by_cases k3 : k = 3
  · subst k3
    rw [if_pos rfl]
    go_enter Tryz.func108, Tryz.ntmps108
    go_upto_region 1 with fail
    rw [HW.out]
    go_wp2_with fail
    refine HC.out.mono ?_
    rintro e w1 ⟨rfl, rfl⟩
    go_wp2_with fail
    go_ret
    exact ⟨rfl, HB.out⟩
  rw [if_neg k3]
  by_cases k4 : k = 4
  · subst k4
    rw [if_pos rfl]
    go_enter Tryz.func108, Tryz.ntmps108
    go_upto_region 1 with fail
    rw [HW.out]
    go_wp2_with fail
    refine HP.out.mono ?_
    rintro e w1 ⟨rfl, b1⟩
    go_wp2_with fail
    go_ret
    exact ⟨rfl, belowThen HB.out b1⟩
  rw [if_neg k4]
  have e1 : ((k : Int) == 1) = false := by simp; omega
  have e2 : ((k : Int) == 2) = false := by simp; omega
  have e3 : ((k : Int) == 3) = false := by simp; omega
  have e4 : ((k : Int) == 4) = false := by simp; omega
  clear k1 k2 k3 k4
  go_enter Tryz.func108, Tryz.ntmps108
  go_upto_region 1 with fail
  rw [HW.out]
  go_wp2_with fail
  go_ret
  exact ⟨rfl, HB.out⟩
end Go.Proofs.YtiaendggmamnkaaGreatDoor
