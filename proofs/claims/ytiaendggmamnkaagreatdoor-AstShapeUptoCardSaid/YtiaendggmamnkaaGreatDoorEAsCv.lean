/-
  cloneTrees at expressions: a copy whose rows all lie in new memory.
-/
import Derived.Test.YtiaendggmamnkaaGreatDoorECt
import Derived.Test.YtiaendggmamnkaaGreatDoorESq
import Derived.Test.YtiaendggmamnkaaGreatDoorEAsK
import Derived.Test.YtiaendggmamnkaaGreatDoorESv
namespace Go.Proofs.YtiaendggmamnkaaGreatDoor
open Go Go.RowKit

set_option maxRecDepth 100000 in
set_option maxHeartbeats 4000000 in
theorem iCloneX (dx : Nat) (l : List Ex) (n c : Nat) (hn : l.length = n) (hs : Tr.szL l ≤ 4000000) (A : Option Addr) (w : World) (hr : RdE 5 (EX dx) w A c l) :
    Calls Tryz.prog 121 #[.slice A n c, .func (.func 112) #[] #[], .func (.func 122) #[] #[]] w fun e w' => ∃ A' c', e = .returned (.slice A' n c') ∧ RdE 5 (GX w.heap.size dx) w' A' c' l ∧ (∀ d, RowN w.heap.size 37 5 (fun _ _ => False) (NX w.heap.size (fun _ _ => False) d) w' A' l) ∧ Below w.heap.size w w' := by
  obtain ⟨Lr, hLr, hraw⟩ := hr.raw (toldX dx)
  have HC := Lib.hid (iCopyRX Lr n c (by rw [hLr, hn]) (by have := lenLeSz l; omega) A w hraw)
  have HGR := Lib.hid (show ∀ X A' c', Below w.heap.size w X → RdE 5 (Raw 5) X A' c' Lr → FreshRow X w.heap.size A' (n * 5) 37 → RdE 5 (GX w.heap.size dx) X A' c' l from fun X A' c' hb h1 h2 => by
    obtain ⟨A9, c9, e, h⟩ := GX.row (by rw [hLr, hn]) hraw h1 h2 hb dx l ⟨A, c, by rw [hn], hr.guard fun _ _ _ hl h => h.guard hl⟩
    injection e with e1 _ e3
    subst e1 e3
    exact h)
  have HN := Lib.hid hn
  have HS := Lib.hid hs
  clear hr hraw hLr hn hs
  go_enter Tryz.func121, Tryz.ntmps121
  go_wp2_with fail
  refine HC.out.mono ?_
  rintro e X0 ⟨_, rfl, A1, c1, rfl, h1, h2, h3⟩
  have hst := CtX.start HN.out HS.out h3 (HGR.out X0 A1 c1 h3 h1 h2) h2
  obtain ⟨W, hW⟩ : ∃ W, (X0.alloc (.cells #[.slice A1 n c1] 35)).alloc (.cells #[.slice (some ⟨X0.heap.size, 0, none⟩) 1 1] 220) = W := ⟨_, rfl⟩
  rw [hW] at hst
  have HST := Lib.hid hst
  have HW := Lib.hid hW
  have HWT := Lib.hid (show Tr.wt1 [l] < 8000002 by have := hst.sz; omega)
  clear hst hW h1 h2 h3
  go_wp2_with fail
  rw [HW.out]
  go_loopg [9] 8000002 (fun g _ wr => ∃ L S v, Hid (CtX dx w wr A1 c1 l (X0.heap.size + 1) (Pend L) L S v) ∧ Hid (Tr.wt1 S < g))
  case atStart => exact ⟨_, _, _, HST, HWT⟩
  case round =>
    obtain ⟨L, S, v, HT, HG⟩ := hrel
    obtain ⟨Av, cv, rfl⟩ := slOfSX HT.out.row
    obtain ⟨q, hq⟩ : ∃ q, L.reverse.length = q := ⟨_, rfl⟩
    rw [hq] at HT
    have k0 : wr.cell? ⟨X0.heap.size + 1, 0, none⟩ = some (.slice Av q cv) := HT.out.box.cell 0
    cases L with
    | nil =>
      have hq0 : q = 0 := hq.symm
      subst hq0
      clear hq
      have HEND := Lib.hid (show RdE 5 (GX w.heap.size dx) wr A1 c1 l ∧ (∀ d, RowN w.heap.size 37 5 (fun _ _ => False) (NX w.heap.size (fun _ _ => False) d) wr A1 l) ∧ Below w.heap.size w wr from
        ⟨HT.out.rd, fun d => (HT.out.top d).over (fun _ cur _ hc => ⟨cur, hc, rfl⟩) (fun _ _ h => absurd h Pend.nil) fun _ _ _ _ _ _ h => h.mono fun _ _ h => absurd h Pend.nil, HT.out.bel⟩)
      go_wp2_with fail
      go_ret
      exact ⟨A1, c1, rfl, HEND.out⟩
    | cons p L2 =>
      have hrev : (p :: L2).reverse = L2.reverse ++ [p] := List.reverse_cons
      have hq1 : q = L2.length + 1 := by rw [← hq]; simp
      have hqp : (0 : Int) < (q : Int) := by omega
      obtain ⟨a1, S2, rfl, hpn, hra, hfa, hstk⟩ := HT.out.stk.next
      have HPOP := Lib.hid (iPopSX (L := L2.reverse) (x := p) wr HT.out.box (hrev ▸ HT.out.row) HT.out.ne (by have := HT.out.len; rw [hrev] at this; simp at this ⊢; omega))
      have HPN := Lib.hid hpn
      have HRA := Lib.hid hra
      have HFA := Lib.hid hfa
      have HK2 := Lib.hid hstk
      obtain ⟨pA, pn, pc⟩ := p
      dsimp only at HPOP HPN HRA HFA
      clear hq hrev hq1 hpn hra hfa hstk
      obtain ⟨g0, hg0⟩ : ∃ g0, ∀ g, pA = some ⟨g, 0, none⟩ → g = g0 := by
        cases pA with
        | none => exact ⟨0, fun g h => by cases h⟩
        | some a => exact ⟨a.block, fun g h => by injection h with h; rw [h]⟩
      have HG0 := Lib.hid hg0
      clear hg0
      go_wp2_with fail
      refine HPOP.out.mono ?_
      rintro e Y ⟨rfl, v', hbx, hrow, hcg, hob⟩
      have hPW : ∀ g n, Pend (⟨pA, pn, pc⟩ :: L2) g n → PendW g0 pn L2 g n := fun g n h => h.pop.elim .inr fun h => .inl ⟨HG0.out g h.1, h.2⟩
      have KY : KpX w.heap.size dx (Pend (⟨pA, pn, pc⟩ :: L2)) (PendW g0 pn L2) wr Y := KpX.ofChg hcg (fun b hl ht => (HT.out.apart b hl ht).1) hPW
      have HTY := Lib.hid (HT.out.stack hcg (fun b h => h.1) hPW (HK2.out.over KY.size KY.gx KY.fr) hbx hrow (by rw [hob]; exact HT.out.ne) (by have := HT.out.sz; rw [Tr.wt1] at this; omega))
      have HRY := Lib.hid (HRA.out.over KY.size KY.gx)
      have HFY := Lib.hid (HFA.out.over KY.fr)
      have HDY := Lib.hid (show DoneK w.heap.size Y L2 g0 0 from fun j hj => absurd hj (by omega))
      have HWS := Lib.hid (Tr.wtStep1 (A := a1) (S := S2) a1.length (Nat.le_refl _))
      have HSZ := Lib.hid (HT.out.sz)
      clear hbx hrow hcg hob hPW KY
      go_wp2_with fail
      go_loopw [23] (fun i wy => ∃ (k : Nat) (L' : List SlA) (v2 : Value), k ≤ pn ∧ i = .int .i64 k ∧ Hid (CtX dx w wy A1 c1 l (X0.heap.size + 1) (PendW g0 pn L') L' (Tr.psh1K a1 S2 k) v2) ∧ Hid (RdE 5 (GX w.heap.size dx) wy pA pc a1) ∧ Hid (FreshRow wy w.heap.size pA (pn * 5) 37) ∧ Hid (DoneK w.heap.size wy L' g0 k)) (fun i _ => pn - (intOf i).toNat)
      case atStart => exact ⟨0, L2, v', Nat.zero_le _, rfl, HTY, HRY, HFY, HDY⟩
      case round =>
        obtain ⟨k, L', v2, hk, rfl, HT2, HR2, HF2, HD2⟩ := hrel
        by_cases hlt : k < pn
        · have h1 : k < a1.length := by rw [← HPN.out]; exact hlt
          obtain ⟨g, cur, eA, hgB, hcur, _⟩ := HF2.out (by omega)
          have eg := HG0.out g eA
          subst eg
          subst eA
          cases dx with
          | zero =>
            obtain ⟨_, _, _, _, hx⟩ := HR2.out.one h1
            exact hx.elim
          | succ dx1 =>
          obtain ⟨eb, eo, hA, el1, _, x0, x1, x2, x3, hs1, v4, x4, A4, c4, rfl, r4⟩ := HR2.out.one h1
          injection hA with hA
          injection hA with hA1 hA2 _
          subst hA1 hA2
          rw [Nat.zero_add] at x0 x1 x2 x3 x4
          have hbd := Tr.wtStep1 (A := a1) (S := S2) (k + 1) (by omega)
          have hgo := Tr.psh1KGo (S := S2) h1
          obtain ⟨P, hP⟩ : ∃ x, a1[k] = x := ⟨_, rfl⟩
          obtain ⟨n4, hn4⟩ : ∃ n, P.fst.length = n := ⟨_, rfl⟩
          have hr4 : RdE 5 (GX w.heap.size (dx1 + 1)) wr A4 c4 a1[k].fst := r4.mono16 fun _ _ _ h => h.up
          have hsm : n4 ≤ 4000000 := by
            have i1 := lenLeSz P.fst
            have i2 := Tr.szTake a1 k h1
            have i3 := Tr.szTake1 a1 (k + 1)
            have i4 := Tr.szFs a1[k]
            have i5 := HSZ.out
            rw [Tr.wt1] at i5
            rw [hP] at i2 i4
            omega
          have hp4 : wr.cell? ⟨g, k * 5 + 4, none⟩ = some (.slice A4 n4 c4) := by rw [← hn4, ← hP]; exact x4
          obtain ⟨Lr4, hL4, hraw4⟩ := (show RdE 5 (EX (dx1 + 1)) wr A4 c4 a1[k].fst from hr4.mono16 fun _ _ _ h => h.to).raw (toldX _)
          have hL4' : Lr4.length = n4 := by rw [hL4, hP, hn4]
          have HRN := Lib.hid (iRenewX Lr4 hL4' hsm wr hp4 (Joins.unfrozen_of_block hcur _) hraw4)
          have HSTEP := Lib.hid (fun X1 A' c' (hb : Below wr.heap.size wr X1) (hraw' : RdE 5 (Raw 5) X1 A' c' Lr4) (hf : FreshRow X1 wr.heap.size A' (n4 * 5) 37) => HT2.out.renew HR2.out HF2.out HD2.out h1 HPN.out.symm hp4 hr4 (by rw [hP]; exact hn4) hL4' hraw4 hb hraw' hf)
          rw [hP] at x0 x1 x2 x3 hs1 hgo
          have HX := Lib.hid (And.intro x0 (And.intro x1 (And.intro x2 (And.intro x3 hp4))))
          have HGO := Lib.hid (And.intro hgo hs1)
          have HBD := Lib.hid (show Tr.wt1 (Tr.psh1K a1 S2 (k + 1)) ≤ 8000001 by have := HSZ.out; omega)
          have HPP := Lib.hid hP
          have HN4 := Lib.hid hn4
          have hpx : pn ≤ 2 ^ 63 - 1 := by have h1 := HR2.out.le; have h2 := HR2.out.max; have h3 := HPN.out; unfold maxLen at h2; omega
          have hk0 : (0 : Int) ≤ k := by omega
          have hk1 : (k : Int) < pn := by omega
          clear hbd hgo hP hn4 hr4 hraw4 hL4 hL4' r4 x0 x1 x2 x3 x4 hp4 hs1
          go_wp2_with fail
          refine HRN.out.mono ?_
          rintro e Y1 ⟨rfl, X1, A5, c5, hb1, hraw5, hf5, hY1⟩
          obtain ⟨Yr, eYr, ht, hrw, hfr, hd, hr5, hf5'⟩ := HSTEP.out X1 A5 c5 hb1 hraw5 hf5
          have q4 := (hb1.cell (p := ⟨g, k * 5 + 4, none⟩) (World.block_lt_of_cell? _ _ HX.out.2.2.2.2)).trans HX.out.2.2.2.2
          have q0 := cellSet (.slice A5 n4 c5) q4 ((hb1.cell (World.block_lt_of_cell? _ _ HX.out.1)).trans HX.out.1) (by simp)
          have q1 := cellSet (.slice A5 n4 c5) q4 ((hb1.cell (World.block_lt_of_cell? _ _ HX.out.2.1)).trans HX.out.2.1) (by simp)
          have q2 := cellSet (.slice A5 n4 c5) q4 ((hb1.cell (World.block_lt_of_cell? _ _ HX.out.2.2.1)).trans HX.out.2.2.1) (by simp)
          have q3 := cellSet (.slice A5 n4 c5) q4 ((hb1.cell (World.block_lt_of_cell? _ _ HX.out.2.2.2.1)).trans HX.out.2.2.2.1) (by simp)
          have q5 := World.cell?_setCell_same _ _ (.slice A5 n4 c5) q4
          rw [eYr] at hY1 q0 q1 q2 q3 q5
          subst hY1
          rw [HPP.out] at hr5
          have HTY1 := Lib.hid ht
          have HRW := Lib.hid hrw
          have HFR := Lib.hid hfr
          have HDN := Lib.hid hd
          have HR5 := Lib.hid hr5
          have HF5 := Lib.hid hf5'
          have HAR := Lib.hid (iArgs P.val.kind P.val.n P.val.fn P.val.name A5 n4 c5 Y1)
          unfold exC at HAR
          clear ht hrw hfr hd hr5 hf5' q4 hb1 hraw5 hf5 eYr HRN
          go_wp2_with fail
          refine HAR.out.mono ?_
          rintro e U ⟨rfl, hbU⟩
          have ht := HTY1.out.below hbU
          have HRU := Lib.hid (HRW.out.below (stabGX _ _) hbU)
          have HFU := Lib.hid (HFR.out.below hbU)
          have HR6 := Lib.hid (HR5.out.below (stabGX _ _) hbU)
          have HF6 := Lib.hid (HF5.out.below hbU)
          have KU : KpX w.heap.size (dx1 + 1) (PendW g pn (pshS ⟨A5, n4, c5⟩ L')) (PendW g pn (pshS ⟨A5, n4, c5⟩ L')) Y1 U := KpX.ofBelow hbU fun _ _ h => h
          have hdU : DoneK w.heap.size U (pshS ⟨A5, n4, c5⟩ L') g (k + 1) := fun j hj => by
            obtain ⟨A, m, c, q1, q2⟩ := HDN.out j hj
            refine ⟨A, m, c, (hbU.cell (World.block_lt_of_cell? _ _ q1)).trans q1, fun h0 => ?_⟩
            obtain ⟨g2, cur2, e1, e2, e3, e4, e5⟩ := q2 h0
            exact ⟨g2, cur2, e1, e2, (hbU.block _ (Array.getElem?_eq_some_iff.1 e3).1).trans e3, e4, e5⟩
          have HDU := Lib.hid hdU
          have HTU := Lib.hid ht
          clear q0 q1 q2 q3 q5 hbU hdU KU
          rcases Nat.eq_zero_or_pos n4 with h0 | h0
          · subst h0
            have ePf : P.fst = [] := List.eq_nil_of_length_eq_zero HN4.out
            have eL : pshS ⟨A5, 0, c5⟩ L' = L' := if_pos rfl
            have eS : Tr.psh1K a1 S2 (k + 1) = Tr.psh1K a1 S2 k := by rw [HGO.out.1, HGO.out.2, ePf, Tr.psh1Nil, Tr.psh1Nil]
            rw [eL] at HTU HDU
            rw [← eS] at HTU
            clear ht eL eS ePf
            go_wp2_with fail
            go_roundw
            case rel => exact ⟨k + 1, L', v2, by omega, by go_num, HTU, HRU, HFU, HDU⟩
            case measure => simp [intOf]; omega
          · obtain ⟨v3, U2, hrun, hfz, hcl, hbx2, hrow2, hcg2, hnew2⟩ := pushS16X ht.box ht.row ht.ne ht.bel.size ht.len ⟨A5, n4, c5⟩ 220
            obtain ⟨A0, q0, d0, rfl⟩ : ∃ A q c, v2 = .slice A q c := (slOfSX ht.row).elim fun A h => h.elim fun c h => ⟨A, _, c, h⟩
            obtain ⟨B0, q1, e0, rfl⟩ : ∃ A q c, v3 = .slice A q c := (slOfSX hrow2).elim fun A h => h.elim fun c h => ⟨A, _, c, h⟩
            have b0 : U.cell? ⟨X0.heap.size + 1, 0, none⟩ = some (.slice A0 q0 d0) := ht.box.cell 0
            have KU2 : KpX w.heap.size (dx1 + 1) (PendW g pn (pshS ⟨A5, n4, c5⟩ L')) (PendW g pn (pshS ⟨A5, n4, c5⟩ L')) U _ := KpX.ofChg hcg2 (fun b hl hty => ht.apart b hl hty) fun _ _ h => h
            have erev : L'.reverse ++ [⟨A5, n4, c5⟩] = (pshS ⟨A5, n4, c5⟩ L').reverse := by rw [← pshSRev]; exact (if_neg (show ¬ n4 = 0 by omega)).symm
            have eS : Tr.psh1K a1 S2 (k + 1) = Tr.psh1 P.fst (Tr.psh1K a1 S2 k) := by rw [HGO.out.1, HGO.out.2, Tr.psh1Nil]
            have hstk2 := (ht.stk.push (p := ⟨A5, n4, c5⟩) HN4.out.symm HR6.out HF6.out).over KU2.size KU2.gx KU2.fr
            rw [← eS] at hstk2
            have HT3 := Lib.hid (ht.stack hcg2 (fun b h => h) (fun _ _ h => h) hstk2 hbx2 (erev ▸ hrow2) (fun e => by
              rcases hnew2 _ e with e | e
              · exact ht.ne e
              · have := ht.box.lt; omega) HBD.out)
            have HR3 := Lib.hid (HRU.out.over KU2.size KU2.gx)
            have HF3 := Lib.hid (HFU.out.over KU2.fr)
            have HD3 := Lib.hid (show DoneK w.heap.size _ (pshS ⟨A5, n4, c5⟩ L') g (k + 1) from fun j hj => by
              obtain ⟨A, m, c, q1, q2⟩ := HDU.out j hj
              have hgt : Ty w.heap.size 37 U g := (show FreshRow U w.heap.size (some ⟨g, 0, none⟩) (pn * 5) 37 from HFU.out) (by omega) |>.elim fun g2 h => h.elim fun cur2 h => by
                have e := h.1
                injection e with e
                injection e with e _ _
                subst e
                exact .inr ⟨cur2, h.2.2.1⟩
              have hgl := World.block_lt_of_cell? _ _ q1
              refine ⟨A, m, c, (World.cell?_of_block (hcg2.block _ hgl (ht.apart _ hgl hgt))).trans q1, fun h0 => ?_⟩
              obtain ⟨g2, cur2, e1, e2, e3, e4, e5⟩ := q2 h0
              have hl2 := (Array.getElem?_eq_some_iff.1 e3).1
              exact ⟨g2, cur2, e1, e2, (hcg2.block _ hl2 (ht.apart _ hl2 (.inr ⟨cur2, e3⟩))).trans e3, e4, e5⟩)
            have hn4p : (0 : Int) < (n4 : Int) := by omega
            dsimp only at hrun
            clear ht KU2 erev eS hstk2 hbx2 hrow2 hcg2 hnew2
            go_wp2_with (at_builtin; refine Lib.wpList_append_run _ rfl _ _ _ _ rfl _ _ rfl rfl _ _ hrun ?_)
            go_roundw
            case rel => exact ⟨k + 1, _, _, by omega, by go_num, HT3, HR3, HF3, HD3⟩
            case measure => simp [intOf]; omega
        · have hkp : k = pn := by omega
          subst hkp
          have ek : k = a1.length := HPN.out
          have HTE := Lib.hid (HT2.out.finish HD2.out)
          have HWE := Lib.hid (show Tr.wt1 (Tr.psh1K a1 S2 k) < Tr.wt1 (a1 :: S2) by rw [ek]; exact HWS.out)
          clear ek
          go_wp2_with fail
          go_roundg (Tr.wt1 (Tr.psh1K a1 S2 k) + 1)
          case measure => have := HWE.out; have := HG.out; omega
          case rel => exact ⟨_, _, _, HTE, Lib.hid (by omega)⟩
end Go.Proofs.YtiaendggmamnkaaGreatDoor
