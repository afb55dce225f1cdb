/-
  The iterators of statements and of expressions call yield for each of them in order.
-/
import Derived.Test.YtiaendggmamnkaaGreatDoorEAsI
import Derived.Test.YtiaendggmamnkaaGreatDoorESv
import Derived.Test.YtiaendggmamnkaaGreatDoorESq
import Derived.Shelf.Abstract
import Derived.Shelf.RegionOpen
import Derived.OwnWalkIn
import Derived.TacticsInMore
import Derived.LoopNIn
import Derived.LoopIn
import Derived.Stop.RegionWithIn
import Derived.Sort.CutIn
namespace Go.Proofs.YtiaendggmamnkaaGreatDoor
open Go Go.RowKit

theorem entVisM : ∀ args w, (callFunc 170 args).run Tryz.prog w = .ok (.enter 170 args) w := enters_of Tryz.func170 (by kernel_rfl) rfl
/-- What yield is called with: number and level, the element; all reads as it did in w0. -/
def ArgM (dx D : Nat) (w0 : World) (x : Nat × Nat × Sm) (args : Array Value) : Prop := ∃ A6 c6 A7 c7 A8 c8, args = #[.agg #[.int .i64 (x.1 : Int), .int .i64 (x.2.1 : Int)], .agg #[.int .i64 x.2.2.val.kind, .string x.2.2.val.name, .string x.2.2.val.obj, .string x.2.2.val.other, .int .i64 x.2.2.val.fn, .int .i64 x.2.2.val.ord, .slice A6 x.2.2.val.exprs.length c6, .slice A7 x.2.2.fst.length c7, .slice A8 x.2.2.snd.length c8]] ∧
  RdE 5 (EX dx) w0 A6 c6 x.2.2.val.exprs ∧ RdE 9 (EM dx D) w0 A7 c7 x.2.2.fst ∧ RdE 9 (EM dx D) w0 A8 c8 x.2.2.snd
set_option maxRecDepth 100000 in
set_option maxHeartbeats 4000000 in
theorem visSM (dx D nf : Nat) (hnf : 3 ≤ nf) (w0 : World) (zi : Nat) (A : Option Addr) (n c : Nat) (ts : List Sm) (hn : ts.length = n) (hr : RdE 9 (EM dx D) w0 A c ts) (hsz : Tr.szL ts ≤ 4000000) (Fb : Nat → Prop) (hFb : ∀ q, q < w0.heap.size → ¬ Fb q → ∃ T v, w0.heap[q]? = some (.cells #[v] T (0, 0))) :
    SeqSC Fence.wide nf Tryz.prog 170 #[.pointer (some ⟨zi, 0, none⟩), .pointer (some ⟨zi + 1, 0, none⟩)] (fun x args _ => ArgM dx D w0 x args) (fun X => Chg w0 X Fb ∧ ItrM X zi A n c) (numb 0 (Tr.ndsL 1 ts)) w0 := fun l J Jx W hW hJ hJx hY hj hgI => by
  obtain ⟨hg, hI⟩ := hgI
  have HY := Lib.hid hY
  obtain ⟨V, hV⟩ : ∃ V, W.alloc (.cells #[.slice none 0 0] 213) = V := ⟨_, rfl⟩
  have hbV : Below W.heap.size W V := by rw [← hV]; exact belowAlloc _ _
  have BV : Blk V W.heap.size 213 #[.slice none 0 0] := by rw [← hV]; exact Blk.new _ _ _
  have ki : V.cell? ⟨zi, 0, none⟩ = some (.slice A n c) := (hI.l.below' hbV).cell 0
  have C0 : VisCM dx D w0 Fb W.heap.size (J []) (fun q => q = zi ∨ q = zi + 1) [] V (.slice none 0 0) [] (joinS (fun _ => False) W V) :=
    ⟨BV, OwnPM.nil _ _, trivial, hJ [] _ _ _ hj (Chg.ofBelow hbV _), hg.trans (Chg.ofBelow hbV Fb) (fun _ _ h => h), .inr ⟨Nat.le_refl _, BV.lt⟩, (fun g h => by cases h), (fun q hq => hq.elim (fun h => h.elim) fun h => h.1), (fun q hq => by have h1 := hI.l.lt; have h2 := hI.f.lt; have h3 := hbV.size; exact ⟨by rcases hq with rfl | rfl <;> omega, by simp [Value.ownBlock], by rcases hq with rfl | rfl <;> omega⟩)⟩
  have hzz : w0.heap.size ≤ W.heap.size := hg.size
  have HP := Lib.hid (visPushM (l := 1) (hJ []) C0 hzz (by simp [Tr.flat]) hn hr)
  rw [show ((1 : Nat) : Int) = 1 from rfl] at HP
  have HV := Lib.hid hV
  have HI := Lib.hid (ItrM.below hI hbV)
  clear hY hV hbV BV C0 hj hI hr hn
  refine callsIn_of_wp Tryz.func170 rfl trivial ?_ rfl
  simp only [Tryz.ntmps170, List.size_toArray, List.length_cons, List.length_nil, Nat.reduceAdd, Nat.reduceSub, Array.replicate_succ, Array.replicate_zero, List.push_toArray, List.append_toArray, List.nil_append, List.cons_append]
  gi_upto_region 1 with fail
  rw [HV.out]
  gi_wp2_with fail
  refine ⟨trivial, fun _ => by omega, (callsIn_wide.2 HP.out).mono ?_⟩
  rintro e Y0 ⟨rfl, ⟨v0, L0, S0, hC⟩, hs0, hk0⟩
  have HC := Lib.hid (show ∃ v' L' S', VisCM dx D w0 Fb W.heap.size (J []) (fun q => q = zi ∨ q = zi + 1) (Tr.psh ts 1 []) Y0 v' L' S' from ⟨v0, L0, S0, hC⟩)
  have HI0 := Lib.hid (show ItrM Y0 zi A n c from ⟨(hk0 _ (.inl rfl)).trans HI.out.l, (hk0 _ (.inr rfl)).trans HI.out.f⟩)
  clear hC hk0
  gi_wp2_with fail
  gi_loopw [6] (fun v X => ∃ (pre : List (Nat × Nat × Sm)) (Sk : List (List Sm × Nat)), v = .int .i64 (pre.length : Int) ∧ Hid (VisAt SmD ts pre Sk) ∧ Hid (∃ v' L' S', VisCM dx D w0 Fb W.heap.size (J pre) (fun q => q = zi ∨ q = zi + 1) Sk X v' L' S') ∧ Hid (ItrM X zi A n c)) (fun v _ => Tr.szL ts - (intOf v).toNat)
  case atStart => exact ⟨[], _, rfl, Lib.hid (VisAt.start ts), HC, HI0⟩
  case round =>
    obtain ⟨pre, Sk, rfl, HA, HV2, HIR⟩ := hrel
    obtain ⟨v', L', S', hc⟩ := HV2.out
    clear HV2
    obtain ⟨Av, cv, rfl⟩ := hc.row.sl
    obtain ⟨q, hq⟩ : ∃ q, L'.reverse.length = q := ⟨_, rfl⟩
    rw [hq] at hc
    have k0 : wr.cell? ⟨W.heap.size, 0, none⟩ = some (.slice Av q cv) := hc.box.cell 0
    have hlt := HA.out.lt
    have hle := hc.rd.le
    rw [List.length_reverse] at hq
    cases L' with
    | nil =>
      have hq0 : q = 0 := by rw [← hq]; rfl
      subst hq0
      have hS : Sk = [] := (Tr.flatNil hc.rd.full).1 (hc.rd.nilIff.1 rfl)
      subst hS
      have HJ := Lib.hid (show ∃ S, J (numb 0 (Tr.ndsL 1 ts)) S wr from ⟨S', by rw [HA.out.done]; exact hc.j⟩)
      have HG := Lib.hid hc.bel
      have hz : ¬ ((0 : Int) < ((0 : Nat) : Int)) := by omega
      clear hc hq hlt hle HC
      gi_wp2_with fail
      go_end0
      exact ⟨⟨_, rfl⟩, ⟨HG.out, HIR.out⟩, .inl HJ.out⟩
    | cons p L2 =>
      have hz : (0 : Int) < (q : Int) := by rw [← hq]; simp
      have HPOP := Lib.hid (visPopM (hJ pre) hc hzz (by omega))
      clear hc hq hle HC
      gi_wp2_with fail
      refine ⟨trivial, fun _ => by omega, (callsIn_wide.2 HPOP.out).mono ?_⟩
      rintro e Y ⟨rfl, t, r, Sk2, v2, S2, rfl, hpn, hrr, hc2, hs2, hk2⟩
      have hIY : ItrM Y zi A n c := ⟨(hk2 _ (.inl rfl)).trans HIR.out.l, (hk2 _ (.inr rfl)).trans HIR.out.f⟩
      obtain ⟨pA, pn, pc, pl⟩ := p
      dsimp only at hpn hrr hs2
      obtain ⟨b, off, eA, hbl, hel⟩ := hrr.one (j := 0) (by simp)
      subst eA
      cases D with
      | zero => exact hel.elim
      | succ D1 =>
      obtain ⟨e0, e1, e2, e3, e4, e5, ⟨v6, e6, A6, c6, rfl, r6⟩, ⟨v7, e7, A7, c7, rfl, r7⟩, v8, e8, A8, c8, rfl, r8⟩ := hel
      simp only [Nat.zero_mul, Nat.add_zero, List.getElem_cons_zero] at e0 e1 e2 e3 e4 e5 e6 e7 e8 r6 r7 r8
      obtain ⟨Y1, hY1⟩ : ∃ Y1, Y.alloc (.cells #[.slice (some ⟨b, off, none⟩) pn pc, .int .i64 (pl : Int)] 215) = Y1 := ⟨_, rfl⟩
      obtain ⟨Y2, hY2⟩ : ∃ Y2, Y1.alloc (.cells #[.int .i64 t.val.kind, .string t.val.name, .string t.val.obj, .string t.val.other, .int .i64 t.val.fn, .int .i64 t.val.ord, .slice A6 t.val.exprs.length c6, .slice A7 t.fst.length c7, .slice A8 t.snd.length c8] 54) = Y2 := ⟨_, rfl⟩
      have b1 : Below Y.heap.size Y Y1 := by rw [← hY1]; exact belowAlloc _ _
      have b2 : Below Y1.heap.size Y1 Y2 := by rw [← hY2]; exact belowAlloc _ _
      have B1 : Blk Y1 Y.heap.size 215 #[.slice (some ⟨b, off, none⟩) pn pc, .int .i64 (pl : Int)] := by rw [← hY1]; exact Blk.new _ _ _
      have B2 : Blk Y2 Y1.heap.size 54 #[.int .i64 t.val.kind, .string t.val.name, .string t.val.obj, .string t.val.other, .int .i64 t.val.fn, .int .i64 t.val.ord, .slice A6 t.val.exprs.length c6, .slice A7 t.fst.length c7, .slice A8 t.snd.length c8] := by rw [← hY2]; exact Blk.new _ _ _
      have C3 := (hc2.grow (hJ pre) b1).grow (hJ pre) b2
      have g1 : Chg w0 Y1 Fb := hc2.bel.trans (Chg.ofBelow b1 Fb) (fun _ _ h => h)
      have g2 : Chg w0 Y2 Fb := g1.trans (Chg.ofBelow b2 Fb) (fun _ _ h => h)
      have hFo : Fb b := Classical.byContradiction fun hn => oneNo (hFb b hbl hn) e1
      have f0 := (World.cell?_of_block (g1.block _ hbl hFo)).trans e0
      have f1 := (World.cell?_of_block (g1.block _ hbl hFo)).trans e1
      have f2 := (World.cell?_of_block (g1.block _ hbl hFo)).trans e2
      have f3 := (World.cell?_of_block (g1.block _ hbl hFo)).trans e3
      have f4 := (World.cell?_of_block (g1.block _ hbl hFo)).trans e4
      have f5 := (World.cell?_of_block (g1.block _ hbl hFo)).trans e5
      have f6 := (World.cell?_of_block (g1.block _ hbl hFo)).trans e6
      have f7 := (World.cell?_of_block (g1.block _ hbl hFo)).trans e7
      have f8 := (World.cell?_of_block (g1.block _ hbl hFo)).trans e8
      have p0 : Y1.cell? ⟨Y.heap.size, 0, none⟩ = some (.slice (some ⟨b, off, none⟩) pn pc) := B1.cell 0
      have p1 : Y2.cell? ⟨Y.heap.size, 1, none⟩ = some (.int .i64 (pl : Int)) := (B1.below' b2).cell 1
      have t0 : Y2.cell? ⟨Y1.heap.size, 0, none⟩ = some (.int .i64 t.val.kind) := B2.cell 0
      have t1 : Y2.cell? ⟨Y1.heap.size, 1, none⟩ = some (.string t.val.name) := B2.cell 1
      have t2 : Y2.cell? ⟨Y1.heap.size, 2, none⟩ = some (.string t.val.obj) := B2.cell 2
      have t3 : Y2.cell? ⟨Y1.heap.size, 3, none⟩ = some (.string t.val.other) := B2.cell 3
      have t4 : Y2.cell? ⟨Y1.heap.size, 4, none⟩ = some (.int .i64 t.val.fn) := B2.cell 4
      have t5 : Y2.cell? ⟨Y1.heap.size, 5, none⟩ = some (.int .i64 t.val.ord) := B2.cell 5
      have t6 : Y2.cell? ⟨Y1.heap.size, 6, none⟩ = some (.slice A6 t.val.exprs.length c6) := B2.cell 6
      have t7 : Y2.cell? ⟨Y1.heap.size, 7, none⟩ = some (.slice A7 t.fst.length c7) := B2.cell 7
      have t8 : Y2.cell? ⟨Y1.heap.size, 8, none⟩ = some (.slice A8 t.snd.length c8) := B2.cell 8
      obtain ⟨hstep, post, hnum⟩ := HA.out.step
      have hup : ∀ b o x, EM dx D1 w0 b o x → EM dx (D1 + 1) w0 b o x := fun _ _ _ h => h.up
      obtain ⟨fn, tmps, assign, body, hy, hR⟩ := HY.out pre _ post _ _ Y2 hnum C3.j ⟨g2, (hIY.below b1).below b2⟩ ⟨A6, c6, A7, c7, A8, c8, rfl, r6, r7.mono16 hup, r8.mono16 hup⟩ C3.new
      dsimp only at hy
      have HC3 := Lib.hid C3
      have HZY := Lib.hid hc2.box.lt
      have HB1 := Lib.hid (B1.below' b2)
      have HB2 := Lib.hid B2
      have HSS := Lib.hid (And.intro b1.size b2.size)
      have HST := Lib.hid hstep
      have HRR := Lib.hid hrr
      have HR7 := Lib.hid (r7.mono16 hup)
      have HR8 := Lib.hid (r8.mono16 hup)
      have HL1 := Lib.hid B1.lt
      have hpn0 : (0 : Int) < pn := by omega
      have HPN := Lib.hid hpn
      have H1 := Lib.hid hY1
      have H2 := Lib.hid hY2
      clear hY1 hY2 b1 b2 B1 B2 C3 hc2 hk2 hIY hstep hnum e0 e1 e2 e3 e4 e5 e6 e7 e8 r6 r7 r8 hup HPOP hrr hpn
      gi_upto_region 7 with fail
      rw [H1.out]
      gi_upto_region 8 with fail
      rw [H2.out]
      clear f0 f1 f2 f3 f4 f5 f6 f7 f8 p0
      gi_wp2_with fail
      refine ⟨fun _ => by omega, hR.mono ?_⟩
      rintro e W3 ⟨⟨⟨hg3, hI3⟩, hch3, hk3⟩, ⟨rfl, hj3⟩ | ⟨rfl, hjx3⟩⟩
      rotate_left
      · gi_wp2_with fail
        refine bodyPost_ret (results_none rfl _ _ _) rfl ?_
        exact ⟨⟨_, rfl⟩, ⟨hg3, hI3⟩, .inr ⟨_, _, hjx3⟩⟩
      have C4 := HC3.out.chg (Jq := J (pre ++ [(pre.length, pl, t)])) hch3 hg3 hj3
      have D1x := (hch3.block _ HB1.out.lt (.inl (.inr ⟨Nat.le_refl _, HL1.out⟩))).trans HB1.out
      have D2x := (hch3.block _ HB2.out.lt (.inr ⟨Nat.le_refl _, HB2.out.lt⟩)).trans HB2.out
      have E1 : Blk W3 Y.heap.size 215 #[.slice (some ⟨b, off, none⟩) pn pc, .int .i64 (pl : Int)] := D1x
      have E2 : Blk W3 Y1.heap.size 54 #[.int .i64 t.val.kind, .string t.val.name, .string t.val.obj, .string t.val.other, .int .i64 t.val.fn, .int .i64 t.val.ord, .slice A6 t.val.exprs.length c6, .slice A7 t.fst.length c7, .slice A8 t.snd.length c8] := D2x
      have kf : W3.cell? ⟨zi + 1, 0, none⟩ = some (.func (.func 67) #[] #[]) := hI3.f.cell 0
      have u0 : W3.cell? ⟨Y1.heap.size, 0, none⟩ = some (.int .i64 t.val.kind) := E2.cell 0
      have u1 : W3.cell? ⟨Y1.heap.size, 1, none⟩ = some (.string t.val.name) := E2.cell 1
      have u2 : W3.cell? ⟨Y1.heap.size, 2, none⟩ = some (.string t.val.obj) := E2.cell 2
      have u3 : W3.cell? ⟨Y1.heap.size, 3, none⟩ = some (.string t.val.other) := E2.cell 3
      have u4 : W3.cell? ⟨Y1.heap.size, 4, none⟩ = some (.int .i64 t.val.fn) := E2.cell 4
      have u5 : W3.cell? ⟨Y1.heap.size, 5, none⟩ = some (.int .i64 t.val.ord) := E2.cell 5
      have u6 : W3.cell? ⟨Y1.heap.size, 6, none⟩ = some (.slice A6 t.val.exprs.length c6) := E2.cell 6
      have u7 : W3.cell? ⟨Y1.heap.size, 7, none⟩ = some (.slice A7 t.fst.length c7) := E2.cell 7
      have u8 : W3.cell? ⟨Y1.heap.size, 8, none⟩ = some (.slice A8 t.snd.length c8) := E2.cell 8
      have HIN := Lib.hid (iBlocks t.val.kind t.val.fn t.val.ord t.val.name t.val.obj t.val.other A6 A7 A8 t.val.exprs.length c6 t.fst.length c7 t.snd.length c8 W3)
      unfold smC at HIN
      have HC4 := Lib.hid C4
      have HI3 := Lib.hid hI3
      have HE1 := Lib.hid E1
      clear C4 D1x D2x E1 E2 hch3 hk3 hj3 hI3 HC3 HB1 HB2 hR hy p1 t0 t1 t2 t3 t4 t5 t6 t7 t8
      gi_wp2_with fail
      refine ⟨trivial, fun _ => by omega, (callsIn_wide.2 HIN.out).mono ?_⟩
      rintro e W4 ⟨rfl, b4⟩
      have C5 := (HC4.out.grow (hJ _) b4).grow (hJ _) (Below.refl _ W4).drew
      have E3 := HE1.out.below' b4
      have q0 : W4.cell? ⟨Y.heap.size, 0, none⟩ = some (.slice (some ⟨b, off, none⟩) pn pc) := E3.cell 0
      have q1 : W4.cell? ⟨Y.heap.size, 1, none⟩ = some (.int .i64 (pl : Int)) := E3.cell 1
      have hple := HRR.out.le
      have hpmx := HRR.out.max
      rw [List.length_cons, ← HPN.out] at hple
      have hpn1 : (1 : Int) ≤ pn := by omega
      have hpnc : (pn : Int) ≤ pc := by omega
      have hflat : 1 + r.length + (Tr.flat Sk2).length ≤ Tr.szL ts - pre.length := by
        have h9 := hlt
        have h8 := lenLeSz r
        have h7 := Tr.szPos t
        rw [Tr.flat, List.length_append, Tr.ndsLLen, Tr.szL] at h9
        omega
      have hfl2 : (Tr.flat (Tr.psh r pl Sk2)).length ≤ 10000000 ∧ (Tr.flat (Tr.psh t.snd (pl + 1) (Tr.psh r pl Sk2))).length ≤ 10000000 := by
        have h9 := hlt
        have h6 : (Tr.flat (Tr.psh r pl Sk2)).length ≤ (Tr.flat (Tr.psh t.snd (pl + 1) (Tr.psh r pl Sk2))).length := by rw [Tr.flatPsh t.snd, List.length_append]; omega
        rw [Tr.flatStep, List.length_cons, Tr.flatPsh t.fst, List.length_append] at h9
        omega
      have hpll : pl ≤ pre.length + 1 := HA.out.lv _ List.mem_cons_self
      have hprl : pre.length ≤ 4000000 := by omega
      have hrn : r.length = pn - 1 := by have := HPN.out; omega
      obtain ⟨lv, hlv⟩ : ∃ lv : Nat, pl + 1 = lv := ⟨_, rfl⟩
      rw [hlv] at hfl2
      have HKM := Lib.hid E3
      have HPF := Lib.hid (And.intro hfl2.1 (And.intro hfl2.2 (show (Tr.flat Sk2).length ≤ 10000000 by omega)))
      have hwl : wrap64 (lv : Int) = (lv : Int) := by unfold wrap64; omega
      have hwl2 : (pl : Int) + 1 = (lv : Int) := by omega
      have HWL := Lib.hid (And.intro hwl hwl2)
      have hml : pre.length < Tr.szL ts := by omega
      have HLV := Lib.hid hlv
      have HC5 := Lib.hid C5
      have HI4 := Lib.hid (show ItrM W4.drew zi A n c from ⟨(HI3.out.below b4).l, (HI3.out.below b4).f⟩)
      clear u0 u1 u2 u3 u4 u5 u6 u7 u8 kf C5 E3 HC4 HE1 HIN hwl hwl2 hlv hpll hflat hfl2 hlt hpn0
      by_cases hc1 : pc = 1
      · subst hc1
        have hp1 : pn = 1 := by omega
        subst hp1
        have HR0 : Hid (r.length = 0 ∧ RdE 9 (EM dx (D1 + 1)) w0 (some ⟨b, off, none⟩) 0 r) := Lib.hid (by
          have hr0 : r = [] := List.eq_nil_of_length_eq_zero (by omega)
          subst hr0
          exact ⟨rfl, Nat.zero_le _, Nat.zero_le _, fun h => absurd h (by simp)⟩)
        have HPU := Lib.hid (visPushM (l := pl) (A := some ⟨b, off, none⟩) (n := 0) (c := 0) (hJ _) HC5.out hzz HPF.out.2.2 HR0.out.1 HR0.out.2)
        clear hrn
        gi_wp2_with fail
        gi_region_with (
          refine ⟨trivial, fun _ => by omega, (callsIn_wide.2 HPU.out).mono ?_⟩
          rintro e Z1 ⟨rfl, ⟨v5, L5, S5, C6⟩, hs6, hk6⟩
          have E4 : Blk Z1 Y.heap.size 215 #[.slice (some ⟨b, off, none⟩) 1 1, .int .i64 (pl : Int)] := (hk6 _ (.inl (.inl (.inl (.inr ⟨Nat.le_refl _, HL1.out⟩))))).trans HKM.out
          have z1 : Z1.cell? ⟨Y.heap.size, 1, none⟩ = some (.int .i64 (pl : Int)) := E4.cell 1
          have HPS := Lib.hid (visPushM (l := lv) (A := A8) (n := t.snd.length) (c := c8) (hJ _) C6 hzz HPF.out.1 rfl HR8.out)
          have HE4 := Lib.hid E4
          have hwl := HWL.out.1
          have hwl2 := HWL.out.2
          have HI5 := Lib.hid (show ItrM Z1 zi A n c from ⟨(hk6 _ (.inl (.inl (.inl (.inl (.inl rfl)))))).trans HI4.out.l, (hk6 _ (.inl (.inl (.inl (.inl (.inr rfl)))))).trans HI4.out.f⟩)
          clear C6 hk6 E4 HPU q0 q1)
        all_goals
          gi_wp2_with fail
          refine ⟨trivial, fun _ => by omega, (callsIn_wide.2 HPS.out).mono ?_⟩
          rintro e Z2 ⟨rfl, ⟨v6, L6, S6, C7⟩, hs7, hk7⟩
          have E5 : Blk Z2 Y.heap.size 215 #[.slice (some ⟨b, off, none⟩) 1 1, .int .i64 (pl : Int)] := (hk7 _ (.inl (.inl (.inl (.inr ⟨Nat.le_refl _, HL1.out⟩))))).trans HE4.out
          have z2 : Z2.cell? ⟨Y.heap.size, 1, none⟩ = some (.int .i64 (pl : Int)) := E5.cell 1
          have HPT := Lib.hid (visPushM (l := lv) (A := A7) (n := t.fst.length) (c := c7) (hJ _) C7 hzz HPF.out.2.1 rfl HR7.out)
          have HI6 := Lib.hid (show ItrM Z2 zi A n c from ⟨(hk7 _ (.inl (.inl (.inl (.inl (.inl rfl)))))).trans HI5.out.l, (hk7 _ (.inl (.inl (.inl (.inl (.inr rfl)))))).trans HI5.out.f⟩)
          clear C7 hk7 E5 HPS z1
          gi_wp2_with fail
          refine ⟨trivial, fun _ => by omega, (callsIn_wide.2 HPT.out).mono ?_⟩
          rintro e Z3 ⟨rfl, ⟨v7, L7, S7, C8⟩, hs8, hk8⟩
          have HV8 := Lib.hid (show ∃ v' L' S', VisCM dx (D1 + 1) w0 Fb W.heap.size (J (pre ++ [(pre.length, pl, t)])) (fun q => q = zi ∨ q = zi + 1) (Tr.psh t.fst (pl + 1) (Tr.psh t.snd (pl + 1) (Tr.psh r pl Sk2))) Z3 v' L' S' from ⟨v7, L7, S7, by rw [HLV.out]; exact ⟨C8.box, C8.row, C8.rd, C8.j, C8.bel, C8.sz, C8.own, C8.new, fun q h => C8.keep q (.inl (.inl (.inl (.inl h))))⟩⟩)
          have HI7 := Lib.hid (show ItrM Z3 zi A n c from ⟨(hk8 _ (.inl (.inl (.inl (.inl (.inl rfl)))))).trans HI6.out.l, (hk8 _ (.inl (.inl (.inl (.inl (.inr rfl)))))).trans HI6.out.f⟩)
          clear C8 hk8 hwl hwl2
          gi_wp2_with fail
          go_roundw
          case rel => exact ⟨pre ++ [(pre.length, pl, t)], _, by rw [List.length_append]; first | rfl | go_num, HST, HV8, HI7⟩
          case measure => simp [intOf]; omega
      · have HPU := Lib.hid (visPushM (l := pl) (A := some ⟨b, off + 9, none⟩) (n := pn - 1) (c := pc - 1) (hJ _) HC5.out hzz HPF.out.2.2 hrn (HRR.out.tail16 (by omega)))
        clear hrn
        gi_wp2_with fail
        gi_region_with (
          refine ⟨trivial, fun _ => by omega, (callsIn_wide.2 HPU.out).mono ?_⟩
          rintro e Z1 ⟨rfl, ⟨v5, L5, S5, C6⟩, hs6, hk6⟩
          have E4 : Blk Z1 Y.heap.size 215 #[.slice (some ⟨b, off, none⟩) pn pc, .int .i64 (pl : Int)] := (hk6 _ (.inl (.inl (.inl (.inr ⟨Nat.le_refl _, HL1.out⟩))))).trans HKM.out
          have z1 : Z1.cell? ⟨Y.heap.size, 1, none⟩ = some (.int .i64 (pl : Int)) := E4.cell 1
          have HPS := Lib.hid (visPushM (l := lv) (A := A8) (n := t.snd.length) (c := c8) (hJ _) C6 hzz HPF.out.1 rfl HR8.out)
          have HE4 := Lib.hid E4
          have hwl := HWL.out.1
          have hwl2 := HWL.out.2
          have HI5 := Lib.hid (show ItrM Z1 zi A n c from ⟨(hk6 _ (.inl (.inl (.inl (.inl (.inl rfl)))))).trans HI4.out.l, (hk6 _ (.inl (.inl (.inl (.inl (.inr rfl)))))).trans HI4.out.f⟩)
          clear C6 hk6 E4 HPU q0 q1)
        all_goals
          gi_wp2_with fail
          refine ⟨trivial, fun _ => by omega, (callsIn_wide.2 HPS.out).mono ?_⟩
          rintro e Z2 ⟨rfl, ⟨v6, L6, S6, C7⟩, hs7, hk7⟩
          have E5 : Blk Z2 Y.heap.size 215 #[.slice (some ⟨b, off, none⟩) pn pc, .int .i64 (pl : Int)] := (hk7 _ (.inl (.inl (.inl (.inr ⟨Nat.le_refl _, HL1.out⟩))))).trans HE4.out
          have z2 : Z2.cell? ⟨Y.heap.size, 1, none⟩ = some (.int .i64 (pl : Int)) := E5.cell 1
          have HPT := Lib.hid (visPushM (l := lv) (A := A7) (n := t.fst.length) (c := c7) (hJ _) C7 hzz HPF.out.2.1 rfl HR7.out)
          have HI6 := Lib.hid (show ItrM Z2 zi A n c from ⟨(hk7 _ (.inl (.inl (.inl (.inl (.inl rfl)))))).trans HI5.out.l, (hk7 _ (.inl (.inl (.inl (.inl (.inr rfl)))))).trans HI5.out.f⟩)
          clear C7 hk7 E5 HPS z1
          gi_wp2_with fail
          refine ⟨trivial, fun _ => by omega, (callsIn_wide.2 HPT.out).mono ?_⟩
          rintro e Z3 ⟨rfl, ⟨v7, L7, S7, C8⟩, hs8, hk8⟩
          have HV8 := Lib.hid (show ∃ v' L' S', VisCM dx (D1 + 1) w0 Fb W.heap.size (J (pre ++ [(pre.length, pl, t)])) (fun q => q = zi ∨ q = zi + 1) (Tr.psh t.fst (pl + 1) (Tr.psh t.snd (pl + 1) (Tr.psh r pl Sk2))) Z3 v' L' S' from ⟨v7, L7, S7, by rw [HLV.out]; exact ⟨C8.box, C8.row, C8.rd, C8.j, C8.bel, C8.sz, C8.own, C8.new, fun q h => C8.keep q (.inl (.inl (.inl (.inl h))))⟩⟩)
          have HI7 := Lib.hid (show ItrM Z3 zi A n c from ⟨(hk8 _ (.inl (.inl (.inl (.inl (.inl rfl)))))).trans HI6.out.l, (hk8 _ (.inl (.inl (.inl (.inl (.inr rfl)))))).trans HI6.out.f⟩)
          clear C8 hk8 hwl hwl2
          gi_wp2_with fail
          go_roundw
          case rel => exact ⟨pre ++ [(pre.length, pl, t)], _, by rw [List.length_append]; first | rfl | go_num, HST, HV8, HI7⟩
          case measure => simp [intOf]; omega
end Go.Proofs.YtiaendggmamnkaaGreatDoor
