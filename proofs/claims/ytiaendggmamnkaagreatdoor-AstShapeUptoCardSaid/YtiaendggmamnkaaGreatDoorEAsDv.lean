/-
  cloneTrees at statements: a copy whose rows all lie in new memory.
-/
import Derived.Test.YtiaendggmamnkaaGreatDoorEAsRm
import Derived.Test.YtiaendggmamnkaaGreatDoorEAsTm
namespace Go.Proofs.YtiaendggmamnkaaGreatDoor
open Go Go.RowKit

theorem Tr.allPsh1K {β : Type} {p : β → Prop} {A : List (Tr β)} {S : List (List (Tr β))} (ha : Tr.allL p A) (h : ∀ q ∈ S, Tr.allL p q) : ∀ k, ∀ q ∈ Tr.psh1K A S k, Tr.allL p q
  | 0, q, hq => h q hq
  | k + 1, q, hq => by
    have P : ∀ (a : List (Tr β)) (S : List (List (Tr β))), Tr.allL p a → (∀ q ∈ S, Tr.allL p q) → ∀ q ∈ Tr.psh1 a S, Tr.allL p q := fun a S ha hS q hq => by
      unfold Tr.psh1 at hq
      split at hq
      · exact hS q hq
      · rcases List.mem_cons.1 hq with rfl | hq
        · exact ha
        · exact hS q hq
    rw [Tr.psh1K] at hq
    split at hq
    · rename_i x hx
      obtain ⟨h1, rfl⟩ := List.getElem?_eq_some_iff.1 hx
      exact P _ _ (Tr.allLAt h1 ha).2.2 (P _ _ (Tr.allLAt h1 ha).2.1 (Tr.allPsh1K ha h k)) q hq
    · exact Tr.allPsh1K ha h k q hq
/-- The state while the lists inside an element are pushed. -/
structure PshAt (dx D : Nat) (w U : World) (A1 : Option Addr) (c1 : Nat) (l : List Sm) (z : Nat) (P : Nat → Nat → Prop) (L : List SlA) (S : List (List Sm)) (v : Value) (g n0 c0 : Nat) (a : List Sm) (Q : Nat → Nat → Prop) (k : Nat) : Prop where
  ct : CtM dx D w U A1 c1 l z P L S v
  row : RdE 9 (GM w.heap.size dx D) U (some ⟨g, 0, none⟩) c0 a
  fr : FreshRow U w.heap.size (some ⟨g, 0, none⟩) (n0 * 9) 54
  dn : DoneM w.heap.size U Q g a k
  nz : n0 ≠ 0
section
variable {dx D : Nat} {w U : World} {A1 : Option Addr} {c1 : Nat} {l : List Sm} {z : Nat} {P : Nat → Nat → Prop} {L : List SlA} {S : List (List Sm)} {v : Value} {g n0 c0 : Nat} {a : List Sm} {Q : Nat → Nat → Prop} {k : Nat}
/-- A list that holds something is pushed. -/
theorem PshAt.push (h : PshAt dx D w U A1 c1 l z P L S v g n0 c0 a Q k) {B : Option Addr} {m d : Nat} {ts : List Sm} (hn : ts.length = m) (h0 : 0 < m) (hr : RdE 9 (GM w.heap.size dx D) U B d ts) (hf : FreshRow U w.heap.size B (m * 9) 54) (hsz : Tr.wt1 (Tr.psh1 ts S) ≤ 8000001) :
    ∃ A0 q0 d0 v' U', v = .slice A0 q0 d0 ∧ U.cell? ⟨z, 0, none⟩ = some (.slice A0 q0 d0) ∧ (Builtin.append_ #[162, 162] 162 #[.slice A0 q0 d0, .slice (some ⟨U.heap.size, 0, none⟩) 1 1]).run Tryz.prog (U.alloc (.cells #[.slice B m d] 42)) = .ok v' U' ∧ U'.frozen? ⟨z, 0, none⟩ = false ∧ U'.cell? ⟨z, 0, none⟩ = some (.slice A0 q0 d0) ∧
      PshAt dx D w (U'.setCell ⟨z, 0, none⟩ v') A1 c1 l z P (pshS ⟨B, m, d⟩ L) (Tr.psh1 ts S) v' g n0 c0 a Q k ∧ KpM w.heap.size dx D P P U (U'.setCell ⟨z, 0, none⟩ v') := by
  obtain ⟨v3, U2, hrun, hfz, hcl, hbx2, hrow2, hcg2, hnew2⟩ := pushS16M h.ct.box h.ct.row h.ct.ne h.ct.bel.size h.ct.len ⟨B, m, d⟩ 162
  obtain ⟨A0, q0, d0, rfl⟩ : ∃ A q c, v = .slice A q c := (slOfSM h.ct.row).elim fun A h => h.elim fun c h => ⟨A, _, c, h⟩
  have K : KpM w.heap.size dx D P P U (U2.setCell ⟨z, 0, none⟩ v3) := KpM.ofChg hcg2 (fun b hl hty => h.ct.apS b hl hty) (fun b hl hty => h.ct.apE b hl hty) fun _ _ h => h
  have erev : L.reverse ++ [⟨B, m, d⟩] = (pshS ⟨B, m, d⟩ L).reverse := by rw [← pshSRev]; exact (if_neg (show ¬ m = 0 by omega)).symm
  refine ⟨A0, q0, d0, v3, U2, rfl, h.ct.box.cell 0, hrun, hfz, hcl, ⟨h.ct.stack hcg2 (fun b h => h) (fun _ _ h => h) ((h.ct.stk.push (p := ⟨B, m, d⟩) hn.symm hr hf).over K.size K.gm K.fr) hbx2 (erev ▸ hrow2) (fun e => ?_) hsz, h.row.over K.size K.gm, h.fr.over K.fr, ?_, h.nz⟩, K⟩
  · rcases hnew2 _ e with e | e
    · exact h.ct.ne e
    · have := h.ct.box.lt; omega
  · intro j hj
    obtain ⟨h6, h78⟩ := h.dn j hj
    have hG : ∀ q u, U.cell? ⟨g, q, none⟩ = some u → n0 ≠ 0 → (U2.setCell ⟨z, 0, none⟩ v3).cell? ⟨g, q, none⟩ = some u := fun q u hu hz => by
      have h9 := h.fr
      unfold FreshRow at h9
      obtain ⟨g2, cur2, e1, e2, e3, _⟩ := h9 (Nat.mul_pos (Nat.pos_of_ne_zero hz) (by decide))
      have e1 : g = g2 := congrArg Addr.block (Option.some.inj e1)
      rw [← e1] at e3
      have hl := (Array.getElem?_eq_some_iff.1 e3).1
      exact (World.cell?_of_block (hcg2.block _ hl (h.ct.apS _ hl (.inr ⟨cur2, e3⟩)))).trans hu
    have hn0 : n0 ≠ 0 := h.nz
    refine ⟨fun hja => ?_, fun q hq => ?_⟩
    · obtain ⟨u, e, hx⟩ := h6 hja
      exact ⟨u, hG _ _ e hn0, hx.chg hcg2 fun b hl ht => h.ct.apE b hl ht⟩
    · obtain ⟨A, m, c, e, hx⟩ := h78 q hq
      refine ⟨A, m, c, hG _ _ e hn0, fun h0 => ?_⟩
      obtain ⟨g2, cur2, e1, e2, e3, e4, e5⟩ := hx h0
      obtain ⟨cur', q1, q2⟩ := K.fr g2 cur2 e2 e3
      exact ⟨g2, cur', e1, e2, q1, by omega, e5⟩
end
set_option maxRecDepth 100000 in
set_option maxHeartbeats 4000000 in
theorem iCloneM (dx D : Nat) (l : List Sm) (n c : Nat) (hn : l.length = n) (hs : Tr.szL l ≤ 4000000) (hx : Tr.allL FewE l) (A : Option Addr) (w : World) (hr : RdE 9 (EM dx D) w A c l) :
    Calls Tryz.prog 66 #[.slice A n c, .func (.func 67) #[] #[], .func (.func 68) #[] #[]] w fun e w' => ∃ A' c', e = .returned (.slice A' n c') ∧ RdE 9 (GM w.heap.size dx D) w' A' c' l ∧ (∀ d, RowN w.heap.size 54 9 (fun _ _ => False) (NM w.heap.size (fun _ _ => False) d) w' A' l) ∧ Below w.heap.size w w' := by
  obtain ⟨Lr, hLr, hraw⟩ := hr.raw (toldM dx D)
  have HC := Lib.hid (iCopyRM Lr n c (by rw [hLr, hn]) (by have := lenLeSz l; omega) A w hraw)
  have HGR := Lib.hid (show ∀ X A' c', Below w.heap.size w X → RdE 9 (Raw 9) X A' c' Lr → FreshRow X w.heap.size A' (n * 9) 54 → RdE 9 (GM w.heap.size dx D) X A' c' l from fun X A' c' hb h1 h2 => by
    obtain ⟨A9, c9, e, h⟩ := GM.row (by rw [hLr, hn]) hraw h1 h2 hb D l ⟨A, c, by rw [hn], hr.over (Nat.le_refl _) fun _ _ _ hl h => h.guard hl⟩
    injection e with e1 _ e3
    subst e1 e3
    exact h)
  have HN := Lib.hid hn
  have HS := Lib.hid hs
  have HX0 := Lib.hid (show ∀ q ∈ [l], Tr.allL FewE q from fun q hq => by rw [List.mem_singleton.1 hq]; exact hx)
  clear hr hraw hLr hn hs hx
  go_enter Tryz.func66, Tryz.ntmps66
  go_wp2_with fail
  refine HC.out.mono ?_
  rintro e X0 ⟨_, rfl, A1, c1, rfl, h1, h2, h3⟩
  have hst := CtM.start (dx := dx) HN.out HS.out h3 (HGR.out X0 A1 c1 h3 h1 h2) h2
  obtain ⟨W, hW⟩ : ∃ W, (X0.alloc (.cells #[.slice A1 n c1] 42)).alloc (.cells #[.slice (some ⟨X0.heap.size, 0, none⟩) 1 1] 162) = W := ⟨_, rfl⟩
  rw [hW] at hst
  have HST := Lib.hid hst
  have HW := Lib.hid hW
  have HWT := Lib.hid (show Tr.wt1 [l] < 8000002 by have := hst.sz; omega)
  clear hst hW h1 h2 h3
  go_wp2_with fail
  rw [HW.out]
  go_loopg [9] 8000002 (fun g _ wr => ∃ L S v, Hid (CtM dx D w wr A1 c1 l (X0.heap.size + 1) (Pend L) L S v) ∧ Hid (Tr.wt1 S < g) ∧ Hid (∀ q ∈ S, Tr.allL FewE q))
  case atStart => exact ⟨_, _, _, HST, HWT, HX0⟩
  case round =>
    obtain ⟨L, S, v, HT, HG, HXS⟩ := hrel
    obtain ⟨Av, cv, rfl⟩ := slOfSM HT.out.row
    obtain ⟨q, hq⟩ : ∃ q, L.reverse.length = q := ⟨_, rfl⟩
    rw [hq] at HT
    have k0 : wr.cell? ⟨X0.heap.size + 1, 0, none⟩ = some (.slice Av q cv) := HT.out.box.cell 0
    cases L with
    | nil =>
      have hq0 : q = 0 := hq.symm
      subst hq0
      clear hq
      have HEND := Lib.hid (show RdE 9 (GM w.heap.size dx D) wr A1 c1 l ∧ (∀ d, RowN w.heap.size 54 9 (fun _ _ => False) (NM w.heap.size (fun _ _ => False) d) wr A1 l) ∧ Below w.heap.size w wr from
        ⟨HT.out.rd, fun d => (HT.out.top d).over (fun _ cur _ hc => ⟨cur, hc, rfl⟩) (fun _ _ h => absurd h Pend.nil) fun _ _ _ _ _ _ h => h.mono fun _ _ h => absurd h Pend.nil, HT.out.bel⟩)
      go_wp2_with fail
      go_ret
      exact ⟨A1, c1, rfl, HEND.out⟩
    | cons p L2 =>
      have hrev : (p :: L2).reverse = L2.reverse ++ [p] := List.reverse_cons
      have hq1 : q = L2.length + 1 := by rw [← hq]; simp
      have hqp : (0 : Int) < (q : Int) := by omega
      obtain ⟨a1, S2, rfl, hpn, hra, hfa, hstk⟩ := HT.out.stk.next
      have HPOP := Lib.hid (iPopSM (L := L2.reverse) (x := p) wr HT.out.box (hrev ▸ HT.out.row) HT.out.ne (by have := HT.out.len; rw [hrev] at this; simp at this ⊢; omega))
      have HPN := Lib.hid hpn
      have HXA := Lib.hid (HXS.out a1 List.mem_cons_self)
      have HXR := Lib.hid (show ∀ q ∈ S2, Tr.allL FewE q from fun q hq => HXS.out q (List.mem_cons_of_mem _ hq))
      have HRA := Lib.hid hra
      have HFA := Lib.hid hfa
      have HK2 := Lib.hid hstk
      obtain ⟨pA, pn, pc⟩ := p
      dsimp only at HPOP HPN HRA HFA
      clear hq hrev hq1 hpn hra hfa hstk
      obtain ⟨g0, hg0⟩ : ∃ g0, ∀ g, pA = some ⟨g, 0, none⟩ → g = g0 := by
        cases pA with
        | none => exact ⟨0, fun g h => by cases h⟩
        | some a => exact ⟨a.block, fun g h => by injection h with h; rw [h]⟩
      have HG0 := Lib.hid hg0
      clear hg0
      go_wp2_with fail
      refine HPOP.out.mono ?_
      rintro e Y ⟨rfl, v', hbx, hrow, hcg, hob⟩
      have hPW : ∀ g n, Pend (⟨pA, pn, pc⟩ :: L2) g n → PendW g0 pn L2 g n := fun g n h => h.pop.elim .inr fun h => .inl ⟨HG0.out g h.1, h.2⟩
      have KY : KpM w.heap.size dx D (Pend (⟨pA, pn, pc⟩ :: L2)) (PendW g0 pn L2) wr Y := KpM.ofChg hcg (fun b hl ht => (HT.out.apS b hl ht).1) (fun b hl ht => (HT.out.apE b hl ht).1) hPW
      have HTY := Lib.hid (HT.out.stack hcg (fun b h => h.1) hPW (HK2.out.over KY.size KY.gm KY.fr) hbx hrow (by rw [hob]; exact HT.out.ne) (by have := HT.out.sz; rw [Tr.wt1] at this; omega))
      have HRY := Lib.hid (HRA.out.over KY.size KY.gm)
      have HFY := Lib.hid (HFA.out.over KY.fr)
      have HDY := Lib.hid (show DoneM w.heap.size Y (Pend L2) g0 a1 0 from fun j hj => absurd hj (by omega))
      have HWS := Lib.hid (Tr.wtStep1 (A := a1) (S := S2) a1.length (Nat.le_refl _))
      have HSZ := Lib.hid (HT.out.sz)
      clear hbx hrow hcg hob hPW KY
      go_wp2_with fail
      go_loopw [23] (fun i wy => ∃ (k : Nat) (L' : List SlA) (v2 : Value), k ≤ pn ∧ i = .int .i64 k ∧ Hid (CtM dx D w wy A1 c1 l (X0.heap.size + 1) (PendW g0 pn L') L' (Tr.psh1K a1 S2 k) v2) ∧ Hid (RdE 9 (GM w.heap.size dx D) wy pA pc a1) ∧ Hid (FreshRow wy w.heap.size pA (pn * 9) 54) ∧ Hid (DoneM w.heap.size wy (Pend L') g0 a1 k)) (fun i _ => pn - (intOf i).toNat)
      case atStart => exact ⟨0, L2, v', Nat.zero_le _, rfl, HTY, HRY, HFY, HDY⟩
      case round =>
        obtain ⟨k, L', v2, hk, rfl, HT2, HR2, HF2, HD2⟩ := hrel
        by_cases hlt : k < pn
        · have h1 : k < a1.length := by rw [← HPN.out]; exact hlt
          obtain ⟨g, cur, eA, hgB, hcur, _⟩ := HF2.out (by omega)
          have eg := HG0.out g eA
          subst eg
          subst eA
          cases D with
          | zero =>
            obtain ⟨_, _, _, _, hx⟩ := HR2.out.one h1
            exact hx.elim
          | succ D1 =>
          obtain ⟨eb, eo, hA, el1, _, x0, x1, x2, x3, x4, x5, ⟨_, x6, A6, c6, rfl, r6⟩, ⟨_, x7, A7, c7, rfl, r7⟩, ⟨_, x8, A8, c8, rfl, r8⟩⟩ := HR2.out.one h1
          injection hA with hA
          injection hA with hA1 hA2 _
          subst hA1 hA2
          rw [Nat.zero_add] at x0 x1 x2 x3 x4 x5 x6 x7 x8
          have hbd := Tr.wtStep1 (A := a1) (S := S2) (k + 1) (by omega)
          have hgo := Tr.psh1KGo (S := S2) h1
          have hfew : FewE a1[k].val := (Tr.allLAt h1 HXA.out).1
          obtain ⟨P, hP⟩ : ∃ x, a1[k] = x := ⟨_, rfl⟩
          obtain ⟨n6, hn6⟩ : ∃ n, P.val.exprs.length = n := ⟨_, rfl⟩
          obtain ⟨n7, hn7⟩ : ∃ n, P.fst.length = n := ⟨_, rfl⟩
          obtain ⟨n8, hn8⟩ : ∃ n, P.snd.length = n := ⟨_, rfl⟩
          have hsm : n7 ≤ 4000000 ∧ n8 ≤ 4000000 := by
            have i1 := lenLeSz P.fst
            have i0 := lenLeSz P.snd
            have i2 := Tr.szTake a1 k h1
            have i3 := Tr.szTake1 a1 (k + 1)
            have i4 := Tr.szFs a1[k]
            have i5 := HSZ.out
            rw [Tr.wt1] at i5
            rw [hP] at i2 i4
            omega
          have hp6 : wr.cell? ⟨g, k * 9 + 6, none⟩ = some (.slice A6 n6 c6) := by rw [← hn6, ← hP]; exact x6
          have hp7 : wr.cell? ⟨g, k * 9 + 7, none⟩ = some (.slice A7 n7 c7) := by rw [← hn7, ← hP]; exact x7
          have hp8 : wr.cell? ⟨g, k * 9 + 8, none⟩ = some (.slice A8 n8 c8) := by rw [← hn8, ← hP]; exact x8
          have S7 : ∀ p Y1, St6 dx wr g (k * 9 + 6) n6 a1[k].val.exprs p Y1 → ∃ K : KpM w.heap.size dx (D1 + 1) (PendW g pn L') (PendW g pn L') wr Y1, CtM dx (D1 + 1) w Y1 A1 c1 l (X0.heap.size + 1) (PendW g pn L') L' (Tr.psh1K a1 S2 k) v2 ∧ (∃ cur1, Y1.heap[g]? = some (.cells cur1 54 (0, 0))) ∧ RdE 9 (GM w.heap.size dx (D1 + 1)) Y1 (some ⟨g, 0, none⟩) pc a1 ∧ Y1.cell? ⟨g, k * 9 + 7, none⟩ = some (.slice A7 n7 c7) ∧ Y1.cell? ⟨g, k * 9 + 8, none⟩ = some (.slice A8 n8 c8) := fun p Y1 s => by
            obtain ⟨K, h1, ⟨cur1, h2, _⟩, _, h5, _⟩ := HT2.out.put6 hgB hcur hp6 (by rw [hP]; exact hn6) r6 s
            exact ⟨K, h1, ⟨cur1, h2⟩, HR2.out.over K.size K.gm, h5 _ _ (by omega) hp7, h5 _ _ (by omega) hp8⟩
          have rdk : ∀ W, RdE 9 (GM w.heap.size dx (D1 + 1)) W (some ⟨g, 0, none⟩) pc a1 → GM w.heap.size dx (D1 + 1) W g (k * 9) a1[k] := fun W hW => by
            obtain ⟨b, o, e, _, hx⟩ := hW.one h1
            injection e with e
            injection e with p1 p2 _
            subst p1 p2
            rwa [Nat.zero_add] at hx
          have raw7 : ∀ W A c n, GM w.heap.size dx (D1 + 1) W g (k * 9) a1[k] → W.cell? ⟨g, k * 9 + 7, none⟩ = some (.slice A n c) → n = n7 → RdE 9 (GM w.heap.size dx D1) W A c a1[k].fst := fun W A c n hx hc hn => by
            obtain ⟨_, _, _, _, _, _, _, _, ⟨_, y7, B7, d7, rfl, q7⟩, _⟩ := hx
            rw [hc] at y7
            injection y7 with y7
            injection y7 with i1 i2 i3
            subst i1 i3
            exact q7
          have raw8 : ∀ W A c n, GM w.heap.size dx (D1 + 1) W g (k * 9) a1[k] → W.cell? ⟨g, k * 9 + 8, none⟩ = some (.slice A n c) → n = n8 → RdE 9 (GM w.heap.size dx D1) W A c a1[k].snd := fun W A c n hx hc hn => by
            obtain ⟨_, _, _, _, _, _, _, _, _, _, y7, B7, d7, rfl, q7⟩ := hx
            rw [hc] at y7
            injection y7 with y7
            injection y7 with i1 i2 i3
            subst i1 i3
            exact q7
          have HRN := Lib.hid (iRenewM wr hcur (by rw [hP]; exact hn6) hfew hsm.1 hsm.2 hp6 hp7 hp8 (r6.mono16 fun _ _ _ h => h.to) (fun p Y1 s => by
              obtain ⟨K, _, _, hrw, c7', _⟩ := S7 p Y1 s
              obtain ⟨L7, i1, i2⟩ := ((raw7 Y1 _ _ _ (rdk Y1 hrw) c7' rfl).mono16 (E' := EM dx D1) fun _ _ _ h => h.to).raw (toldM dx D1)
              exact ⟨L7, by rw [i1, hP]; exact hn7, i2⟩) (fun p Y1 p7 Y2 s s7 => by
              obtain ⟨K, ht, ⟨cur1, hc1⟩, hrw, c7', c8'⟩ := S7 p Y1 s
              obtain ⟨K2, _, _, _, o2, _⟩ := ht.put7 (P' := fun _ _ => True) hgB hc1 c7' (by rw [hP]; exact hn7) (raw7 Y1 _ _ _ (rdk Y1 hrw) c7' rfl) s7 (fun _ _ _ => trivial) (fun _ _ _ => trivial)
              obtain ⟨L8, i1, i2⟩ := ((raw8 Y2 _ _ _ (rdk Y2 (hrw.over K2.size K2.gm)) (o2 _ _ (by omega) c8') rfl).mono16 (E' := EM dx D1) fun _ _ _ h => h.to).raw (toldM dx D1)
              exact ⟨L8, by rw [i1, hP]; exact hn8, i2⟩))
          have HSTEP := Lib.hid (fun p6 p7 p8 Y1 Y2 Y3 s6 s7 s8 e7 e8 => HT2.out.renew (Y1 := Y1) (Y2 := Y2) (Y3 := Y3) (p6 := p6) (p7 := p7) (p8 := p8) HR2.out HF2.out HD2.out h1 HPN.out.symm hp6 hp7 hp8 (by rw [hP]; exact hn6) (by rw [hP]; exact hn7) (by rw [hP]; exact hn8) s6 s7 s8 e7 e8)
          rw [hP] at x0 x1 x2 x3 x4 x5 hgo
          have HX := Lib.hid (And.intro x0 (And.intro x1 (And.intro x2 (And.intro x3 (And.intro x4 x5)))))
          have HGO := Lib.hid hgo
          have HBD := Lib.hid (show Tr.wt1 (Tr.psh1K a1 S2 (k + 1)) ≤ 8000001 by have := HSZ.out; omega)
          have HPP := Lib.hid hP
          have HN7 := Lib.hid hn7
          have HN8 := Lib.hid hn8
          have hpx : pn ≤ 2 ^ 63 - 1 := by have h1 := HR2.out.le; have h2 := HR2.out.max; have h3 := HPN.out; unfold maxLen at h2; omega
          have hk0 : (0 : Int) ≤ k := by omega
          have hk1 : (k : Int) < pn := by omega
          clear hbd hgo hP hn6 hn7 hn8 r6 r7 r8 x0 x1 x2 x3 x4 x5 x6 x7 x8 hp6 hp7 hp8 S7 rdk raw7 raw8 hfew
          go_wp2_with fail
          refine HRN.out.mono ?_
          rintro e Y3 ⟨rfl, p6, p7, p8, Y1, Y2, s6, s7, s8, e7, e8⟩
          obtain ⟨ht, hrw, hfr, hd, ⟨hr7, hf7⟩, ⟨hr8, hf8⟩, y6, y7, y8, hlow⟩ := HSTEP.out p6 p7 p8 Y1 Y2 Y3 s6 s7 s8 e7 e8
          have q0 := hlow 0 _ (by omega) HX.out.1
          have q1 := hlow 1 _ (by omega) HX.out.2.1
          have q2 := hlow 2 _ (by omega) HX.out.2.2.1
          have q3 := hlow 3 _ (by omega) HX.out.2.2.2.1
          have q4 := hlow 4 _ (by omega) HX.out.2.2.2.2.1
          have q5 := hlow 5 _ (by omega) HX.out.2.2.2.2.2
          rw [Nat.add_zero] at q0
          obtain ⟨B6, m6, d6⟩ := p6
          obtain ⟨B7, m7, d7⟩ := p7
          obtain ⟨B8, m8, d8⟩ := p8
          dsimp only at e7 e8 y6 y7 y8 hr7 hf7 hr8 hf8
          subst e7 e8
          rw [HPP.out] at hr7 hr8
          have HTY1 := Lib.hid ht
          have HRW := Lib.hid hrw
          have HFR := Lib.hid hfr
          have HDN := Lib.hid hd
          have HR7 := Lib.hid hr7
          have HF7 := Lib.hid hf7
          have HR8 := Lib.hid hr8
          have HF8 := Lib.hid hf8
          have HAR := Lib.hid (iBlocks P.val.kind P.val.fn P.val.ord P.val.name P.val.obj P.val.other B6 B7 B8 n6 d6 m7 d7 m8 d8 Y3)
          unfold smC at HAR
          clear ht hrw hfr hd hr7 hf7 hr8 hf8 s6 s7 s8 hlow HRN HSTEP
          go_wp2_with fail
          refine HAR.out.mono ?_
          rintro e U ⟨rfl, hbU⟩
          have ht := HTY1.out.below hbU
          have hRU := HRW.out.below (stabGM _ _ _) hbU
          have hFU := HFR.out.below hbU
          have hdU : DoneM w.heap.size U (Pend (pshS ⟨B8, m8, d8⟩ (pshS ⟨B7, m7, d7⟩ L'))) g a1 (k + 1) := by
            obtain ⟨g2, cur2, e1, e2, e3, _⟩ := (show FreshRow Y3 w.heap.size (some ⟨g, 0, none⟩) (pn * 9) 54 from HFR.out) (by omega)
            injection e1 with e1
            injection e1 with e1 _ _
            subst e1
            exact HDN.out.step (fun _ _ h => h) e2 e3 (Chg.ofBelow hbU _) (KpM.ofBelow (B := w.heap.size) (dx := dx) (D := D1 + 1) (P := fun _ _ => True) (P' := fun _ _ => True) hbU fun _ _ h => h).fr fun q u _ hu => (hbU.cell (World.block_lt_of_cell? _ _ hu)).trans hu
          have st0 : PshAt dx (D1 + 1) w U A1 c1 l (X0.heap.size + 1) (PendW g pn (pshS ⟨B8, m8, d8⟩ (pshS ⟨B7, m7, d7⟩ L'))) L' (Tr.psh1K a1 S2 k) v2 g pn pc a1 (Pend (pshS ⟨B8, m8, d8⟩ (pshS ⟨B7, m7, d7⟩ L'))) (k + 1) := ⟨ht, hRU, hFU, hdU, by omega⟩
          have HS0 := Lib.hid st0
          have HE7 := Lib.hid (show RdE 9 (GM w.heap.size dx (D1 + 1)) U B7 d7 P.fst ∧ FreshRow U w.heap.size B7 (m7 * 9) 54 from ⟨HR7.out.below (stabGM _ _ _) hbU, HF7.out.below hbU⟩)
          have HE8 := Lib.hid (show RdE 9 (GM w.heap.size dx (D1 + 1)) U B8 d8 P.snd ∧ FreshRow U w.heap.size B8 (m8 * 9) 54 from ⟨HR8.out.below (stabGM _ _ _) hbU, HF8.out.below hbU⟩)
          have HW1 := Lib.hid (show Tr.wt1 (Tr.psh1 P.fst (Tr.psh1K a1 S2 k)) ≤ 8000001 by have h1 := HBD.out; rw [HGO.out] at h1; exact Nat.le_trans (Tr.wtPshGe1 _ _) h1)
          have HW2 := Lib.hid (show Tr.wt1 (Tr.psh1 P.snd (Tr.psh1 P.fst (Tr.psh1K a1 S2 k))) ≤ 8000001 by have h1 := HBD.out; rwa [HGO.out] at h1)
          have HFIN := Lib.hid (show ∀ W v9, PshAt dx (D1 + 1) w W A1 c1 l (X0.heap.size + 1) (PendW g pn (pshS ⟨B8, m8, d8⟩ (pshS ⟨B7, m7, d7⟩ L'))) (pshS ⟨B8, m8, d8⟩ (pshS ⟨B7, m7, d7⟩ L')) (Tr.psh1 P.snd (Tr.psh1 P.fst (Tr.psh1K a1 S2 k))) v9 g pn pc a1 (Pend (pshS ⟨B8, m8, d8⟩ (pshS ⟨B7, m7, d7⟩ L'))) (k + 1) → ∃ (k' : Nat) (L9 : List SlA) (v9' : Value), k' ≤ pn ∧ k' = k + 1 ∧ v9' = v9 ∧ Hid (CtM dx (D1 + 1) w W A1 c1 l (X0.heap.size + 1) (PendW g pn L9) L9 (Tr.psh1K a1 S2 k') v9') ∧ Hid (RdE 9 (GM w.heap.size dx (D1 + 1)) W (some ⟨g, 0, none⟩) pc a1) ∧ Hid (FreshRow W w.heap.size (some ⟨g, 0, none⟩) (pn * 9) 54) ∧ Hid (DoneM w.heap.size W (Pend L9) g a1 k') from fun W v9 h => by
            obtain ⟨h1, h2, h3, h4, _⟩ := h
            exact ⟨k + 1, _, v9, by omega, rfl, rfl, Lib.hid (by rw [HGO.out]; exact h1), Lib.hid h2, Lib.hid h3, Lib.hid h4⟩)
          clear q0 q1 q2 q3 q4 q5 y6 y7 y8 hbU hdU ht hRU hFU
          rcases Nat.eq_zero_or_pos m7 with h0 | h0
          · subst h0
            have ePf : P.fst = [] := List.eq_nil_of_length_eq_zero HN7.out
            rcases Nat.eq_zero_or_pos m8 with h0 | h0
            · subst h0
              have ePs : P.snd = [] := List.eq_nil_of_length_eq_zero HN8.out
              have HOK := Lib.hid (HFIN.out U v2 (by rw [ePf, ePs, Tr.psh1Nil, Tr.psh1Nil]; exact st0))
              clear ePf ePs st0
              go_wp2_with fail
              go_roundw
              case rel =>
                obtain ⟨k', L9, v9', h1, rfl, rfl, h2⟩ := HOK.out
                exact ⟨k + 1, L9, _, h1, by go_num, h2⟩
              case measure => simp [intOf]; omega
            · have hgo9 := st0.push HN8.out h0 HE8.out.1 HE8.out.2 (by have h1 := HW2.out; rwa [ePf, Tr.psh1Nil] at h1)
              obtain ⟨A0, q0, d0, v3, U2, rfl, b0, hrun, hfz, hcl, hst2, hkp2⟩ := hgo9
              obtain ⟨B0, q1, e0, rfl⟩ : ∃ A q c, v3 = .slice A q c := (slOfSM hst2.ct.row).elim fun A h => h.elim fun c h => ⟨A, _, c, h⟩
              have HOK := Lib.hid (HFIN.out _ _ (show PshAt _ _ _ _ _ _ _ _ _ _ _ _ _ _ _ _ _ _ from by rw [ePf, Tr.psh1Nil]; exact hst2))
              have hn8p : (0 : Int) < (m8 : Int) := by omega
              clear ePf st0 hst2 hkp2
              go_wp2_with (at_builtin; refine Lib.wpList_append_run _ rfl _ _ _ _ rfl _ _ rfl rfl _ _ hrun ?_)
              go_roundw
              case rel =>
                obtain ⟨k', L9, v9', h1, rfl, rfl, h2⟩ := HOK.out
                exact ⟨k + 1, L9, _, h1, by go_num, h2⟩
              case measure => simp [intOf]; omega
          · have hgo9 := st0.push HN7.out h0 HE7.out.1 HE7.out.2 HW1.out
            obtain ⟨A0, q0, d0, v3, U2, rfl, b0, hrun, hfz, hcl, hst2, hkp2⟩ := hgo9
            obtain ⟨B0, q1, e0, rfl⟩ : ∃ A q c, v3 = .slice A q c := (slOfSM hst2.ct.row).elim fun A h => h.elim fun c h => ⟨A, _, c, h⟩
            obtain ⟨U3, hU3⟩ : ∃ U3, U2.setCell ⟨X0.heap.size + 1, 0, none⟩ (.slice B0 q1 e0) = U3 := ⟨_, rfl⟩
            have HU3 := Lib.hid hU3
            rw [hU3] at hst2 hkp2
            have hn7p : (0 : Int) < (m7 : Int) := by omega
            rcases Nat.eq_zero_or_pos m8 with h0 | h0
            · subst h0
              have ePs : P.snd = [] := List.eq_nil_of_length_eq_zero HN8.out
              have HOK := Lib.hid (HFIN.out U3 _ (show PshAt _ _ _ _ _ _ _ _ _ _ _ _ _ _ _ _ _ _ from by rw [ePs, Tr.psh1Nil]; exact hst2))
              clear ePs st0 hst2 hkp2 hU3
              go_wp2_with (at_builtin; refine Lib.wpList_append_run _ rfl _ _ _ _ rfl _ _ rfl rfl _ _ hrun ?_)
              rw [HU3.out]
              go_roundw
              case rel =>
                obtain ⟨k', L9, v9', h1, rfl, rfl, h2⟩ := HOK.out
                exact ⟨k + 1, L9, _, h1, by go_num, h2⟩
              case measure => simp [intOf]; omega
            · have K3 := hkp2
              obtain ⟨A0', q0', d0', v4, U4, e9, b1, hrun2, hfz2, hcl2, hst4, _⟩ := hst2.push HN8.out h0 (HE8.out.1.over K3.size K3.gm) (HE8.out.2.over K3.fr) HW2.out
              injection e9 with e91 e92 e93
              subst e91 e92 e93
              obtain ⟨B1, q2, e1, rfl⟩ : ∃ A q c, v4 = .slice A q c := (slOfSM hst4.ct.row).elim fun A h => h.elim fun c h => ⟨A, _, c, h⟩
              have HOK := Lib.hid (HFIN.out _ _ hst4)
              have hn8p : (0 : Int) < (m8 : Int) := by omega
              clear st0 hst2 hst4 hkp2 hU3 K3
              go_upto_region 12 with (at_builtin; refine Lib.wpList_append_run _ rfl _ _ _ _ rfl _ _ rfl rfl _ _ hrun ?_)
              rw [HU3.out]
              go_wp2_with (at_builtin; refine Lib.wpList_append_run _ rfl _ _ _ _ rfl _ _ rfl rfl _ _ hrun2 ?_)
              go_roundw
              case rel =>
                obtain ⟨k', L9, v9', h1, rfl, rfl, h2⟩ := HOK.out
                exact ⟨k + 1, L9, _, h1, by go_num, h2⟩
              case measure => simp [intOf]; omega
        · have hkp : k = pn := by omega
          subst hkp
          have ek : k = a1.length := HPN.out
          have HTE := Lib.hid (HT2.out.finish ek.symm (by
            rcases Nat.eq_zero_or_pos k with h | h
            · exact .inl h
            · obtain ⟨g, cur, e1, _⟩ := HF2.out (by omega)
              have := HG0.out g e1
              subst this
              exact .inr (e1 ▸ HR2.out)) HD2.out)
          have HWE := Lib.hid (show Tr.wt1 (Tr.psh1K a1 S2 k) < Tr.wt1 (a1 :: S2) by rw [ek]; exact HWS.out)
          have HXN := Lib.hid (show ∀ q ∈ Tr.psh1K a1 S2 k, Tr.allL FewE q from Tr.allPsh1K HXA.out HXR.out k)
          clear ek
          go_wp2_with fail
          go_roundg (Tr.wt1 (Tr.psh1K a1 S2 k) + 1)
          case measure => have := HWE.out; have := HG.out; omega
          case rel => exact ⟨_, _, _, HTE, Lib.hid (by omega), HXN⟩
end Go.Proofs.YtiaendggmamnkaaGreatDoor
