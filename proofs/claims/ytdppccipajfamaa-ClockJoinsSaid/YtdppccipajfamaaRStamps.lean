/-
  The contract of the reference's Stamps.
-/
import Derived.Test.YtdppccipajfamaaStamps
namespace Go.Proofs.Ytdppccipajfamaa
open Go.RowKit

/-- append of one clock onto a row of clocks of the call's own. -/
theorem appS (w : World) {ops : Array Oper} {rest : List Oper} {o : Oper} {a : Act} {Q : Exit → Act → World → Prop} (hgd : o.guard = none) (s x : Operand)
    (ho : o.op = .call { callee := .builtin .append, args := #[s, x], argTypes := #[34, 34] })
    (base : Nat) (v : Value) (vs : List Value) (hs : a.eval s = v) (hown : OwnS w base v vs) (A : Option Addr) (u : Value) (hu : u.oneCell' = true)
    (hx : a.eval x = .slice A 1 1) (hr : Rds w A 1 [u]) (hb : vs.length + 1 ≤ 1000000) (hbase : base ≤ w.heap.size)
    (h : ∀ v' w', OwnS w' base v' (vs ++ [u]) → w.grownBy w' v.ownBlock → wpList Try.prog ops Q rest (a.put o.dst v') w') :
    wpList Try.prog ops Q (o :: rest) a w := by
  obtain ⟨i0, hi, hz0, hz1, hz2⟩ := info_parts infoCk
  refine wpList_app w hgd s x 34 ho base 23 i0 _ 24 Try.underlying34 hi hz0 hz1 hz2 rfl v vs.length vs hs hown A 1 1 [u] hx rfl hr (by simpa using hu) (by omega) (by unfold maxLen; omega) hbase fun v' w' h1 _ h3 _ => h v' w' ?_ h3
  unfold OwnS
  rw [List.length_append]
  exact h1
theorem rsNext {base : Nat} {vo v3 : Value} {vs : List Value} {C : Nat → Ck} {i : Nat} {wr w3 w4 : World} {o : Obj} (hl : vs.length = i) (ho : OwnS wr base vo vs) (hi : IsS wr base vs C i) (b : Below wr.heap.size wr w3) (h3 : OwnC w3 wr.heap.size v3 (C i))
    (hbw : base ≤ wr.heap.size) (g : (w3.alloc o).grownBy w4 vo.ownBlock) : IsS w4 base (vs ++ [v3]) C (i + 1) := by
  have c1 : Chg w3 w4 (fun k => vo.ownBlock ≠ some k) := (Chg.alloc w3 o fun k => vo.ownBlock ≠ some k).trans (Chg.ofGrown g (F := fun k => vo.ownBlock ≠ some k) fun _ h => h) fun _ _ h => h
  have c2 : Chg wr w4 (fun k => vo.ownBlock ≠ some k) := (Chg.ofBelow b fun k => vo.ownBlock ≠ some k).trans c1 fun _ _ h => h
  intro j hj
  by_cases e : j = i
  · subst e
    refine ⟨v3, by rw [List.getElem?_append_right (by omega), hl]; simp, (h3.chg c1 fun k hk e => ?_).mono hbw⟩
    have h1 := (h3.lt hk).1
    have h2 := (ho.lt e).2
    omega
  · obtain ⟨u, h1, h2⟩ := hi j (by omega)
    exact ⟨u, by rw [List.getElem?_append_left (by omega)]; exact h1, h2.chg c2 fun k hk => OwnS.apart h2 ho hk⟩
theorem RdS.drewN {w : World} {A : Option Addr} {c n : Nat} {C : Nat → Ck} (h : RdS w A c C n) (q : Nat) : RdS (w.drewN q) A c C n := h.below (belowN w q)

theorem retE {a b : Int} (h : a = b) : Ending.returned (.tuple #[.slice none 0 0, .int .i64 a]) = .returned (.tuple #[.slice none 0 0, .int .i64 b]) := by rw [h]
set_option maxHeartbeats 400000 in
theorem rStampsErr (fr : List Int) (n m : Nat) (hm : fr.length = m) (r : Int) (hr : errL n m fr = r) (hr0 : r ≠ 0) (A B : Option Addr) (c d : Nat) (w : World) (hn : n ≤ maxLen) (hb : Rd w B d fr) :
    Calls Try.prog 26 #[.slice A n c, .slice B m d] w fun e w' => e = .returned (.tuple #[.slice none 0 0, .int .i64 r]) ∧ w = w' := by
  have hlb := hb.le
  have hcb := hb.max
  unfold maxLen at hcb hn
  have HB := Lib.hid hb; clear hb
  have HM := Lib.hid hm; clear hm
  by_cases hnm : n = m
  · subst hnm
    have hne : ((n : Int) != (n : Int)) = false := by simp
    by_cases hbig : 512 < n
    · have HR := Lib.hid ((errMany hbig).symm.trans hr); clear hr hr0
      go_enter Try.func26, Try.ntmps26
      go_wp2
      go_ret2
      exact ⟨retE HR.out, rfl⟩
    · have HR := Lib.hid hr; clear hr
      have HR0 := Lib.hid hr0; clear hr0
      have HBG := Lib.hid hbig
      go_enter Try.func26, Try.ntmps26
      go_wp2
      go_loop [6] (fun i => ∃ k : Nat, k ≤ n ∧ i = .int .i64 k ∧ Hid (Log fr k)) (fun i => n - (intOf i).toNat)
      case atStart => exact ⟨0, Nat.zero_le _, rfl, Lib.hid fun j hj => by omega⟩
      case round =>
        obtain ⟨k, hk, rfl, HT⟩ := hrel
        by_cases hlt : k < n
        · have hkl : k < fr.length := by have := HM.out; omega
          obtain ⟨ad, rfl, _, hc⟩ := HB.out.one hkl
          by_cases g1 : fr[k] < -1
          · have HX := Lib.hid ((errBad HBG.out (logNot hkl hlt (.inl g1))).symm.trans HR.out)
            generalize fr[k] = x at *
            go_wp2
            go_ret2
            exact ⟨retE HX.out, rfl⟩
          by_cases g2 : (k : Int) ≤ fr[k]
          · have HX := Lib.hid ((errBad HBG.out (logNot hkl hlt (.inr g2))).symm.trans HR.out)
            generalize fr[k] = x at *
            go_wp2
            go_ret2
            exact ⟨retE HX.out, rfl⟩
          · have HX := Lib.hid (logSucc HT.out hkl (by omega) (by omega))
            generalize fr[k] = x at *
            go_wp2
            go_round
            case rel => exact ⟨k + 1, by omega, by go_num, HX⟩
            case measure => simp [intOf]; omega
        · exfalso
          obtain rfl : k = n := by omega
          exact HR0.out (HR.out.symm.trans (errOk HBG.out HT.out))
  · have HR := Lib.hid ((errNe hnm).symm.trans hr); clear hr hr0
    have hne : ((n : Int) != (m : Int)) = true := by simp; omega
    go_enter Try.func26, Try.ntmps26
    go_wp2
    go_ret2
    exact ⟨retE HR.out, rfl⟩

set_option maxHeartbeats 2000000 in
theorem rStampsOk (ag fr : List Int) (n : Nat) (hn : ag.length = n) (hm : fr.length = n) (hr : errL n n fr = 0) (A B : Option Addr) (c d : Nat) (w : World) (ha : Rd w A c ag) (hb : Rd w B d fr) :
    Calls Try.prog 26 #[.slice A n c, .slice B n d] w (GivesS (cl ag fr) n w) := by
  have hla := ha.le
  have hlb := hb.le
  rw [hn] at hla
  rw [hm] at hlb
  have hca := ha.max
  have hcb := hb.max
  unfold maxLen at hca hcb
  obtain ⟨_, hbig, hlog⟩ := errZero hr
  have HA := Lib.hid ha; clear ha
  have HB := Lib.hid hb; clear hb
  have HN := Lib.hid hn; clear hn
  have HM := Lib.hid hm; clear hm
  have HL := Lib.hid hlog; clear hlog hr
  have hne : ((n : Int) != (n : Int)) = false := by simp
  have hb5 : decide ((512 : Int) < (n : Int)) = false := by simp; omega
  have hO := Lib.hid (OwnS.nil w w.heap.size)
  go_enter Try.func26, Try.ntmps26
  go_wp2
  go_loop [6] (fun i => ∃ k : Nat, k ≤ n ∧ i = .int .i64 k) (fun i => n - (intOf i).toNat)
  case atStart => exact ⟨0, Nat.zero_le _, rfl⟩
  case round =>
    obtain ⟨k, hk, rfl⟩ := hrel
    by_cases hlt : k < n
    · have hkl : k < fr.length := by have := HM.out; omega
      obtain ⟨bd, rfl, _, hc⟩ := HB.out.one hkl
      have hlk := HL.out k hlt
      rw [show fr.getD k 0 = fr[k] by rw [List.getD_eq_getElem?_getD, List.getElem?_eq_getElem hkl]; rfl] at hlk
      obtain ⟨g1, g2⟩ := hlk
      generalize fr[k] = x at *
      go_wp2
      go_round
      case rel => exact ⟨k + 1, by omega, by go_num⟩
      case measure => simp [intOf]; omega
    · go_wp2
      clear hlt hk
      go_loopw [7, 8] (fun vo vi wr => ∃ (i : Nat) (vs : List Value), i ≤ n ∧ vi = .int .i64 i ∧ Hid (vs.length = i) ∧ Hid (OwnS wr w.heap.size vo vs) ∧ Hid (IsS wr w.heap.size vs (cl ag fr) i) ∧ Below w.heap.size w wr) (fun _ vi _ => n - (intOf vi).toNat)
      case atStart => exact ⟨0, [], Nat.zero_le _, rfl, Lib.hid rfl, hO, Lib.hid (fun j hj => by omega), Below.refl _ _⟩
      case round =>
        clear hO
        obtain ⟨i, vs, hi, rfl, HVL, HOS, HIS, hb⟩ := hrel
        by_cases hlt : i < n
        · have hil : i < ag.length := by have := HN.out; omega
          have hif : i < fr.length := by have := HM.out; omega
          obtain ⟨Ao, co, rfl, hrd⟩ := RdS.ofOwn HOS.out HVL.out HIS.out
          have HRD := Lib.hid hrd; clear hrd
          have hgx : ag.getD i 0 = ag[i] := by rw [List.getD_eq_getElem?_getD, List.getElem?_eq_getElem hil]; rfl
          have hgf : fr.getD i 0 = fr[i] := by rw [List.getD_eq_getElem?_getD, List.getElem?_eq_getElem hif]; rfl
          obtain ⟨x, hx⟩ : ∃ x, ag[i] = x := ⟨_, rfl⟩
          obtain ⟨ad, rfl, hadl, hcI⟩ := (HA.out.below hb).one hil
          rw [hx] at hcI hgx
          have HX := Lib.hid hgx; clear hgx hx
          have HGF := Lib.hid hgf; clear hgf
          have hio := HRD.out.le
          have hom := HRD.out.max
          unfold maxLen at hom
          go_wp2
          go_loopw [9, 10] (fun vc vk wq => ∃ (k l2 : Nat) (A2 : Option Addr) (c2 : Nat), k ≤ i ∧ vk = .int .i64 k ∧ vc = .slice A2 l2 c2 ∧ Hid ((lst ag fr x k).length = l2) ∧ Hid (Rc wr A2 c2 (lst ag fr x k)) ∧ ∃ q, wq = wr.drewN q) (fun _ vk _ => i - (intOf vk).toNat)
          case atStart => exact ⟨0, 0, none, 0, Nat.zero_le _, rfl, rfl, Lib.hid rfl, Lib.hid Rc.nil, 0, rfl⟩
          case round =>
            obtain ⟨k2, l2, A2, c2, hk2, rfl, rfl, HL2, HR2, q, rfl⟩ := hrel
            by_cases hki : k2 < i
            · have hka : k2 < ag.length := by omega
              obtain ⟨ad', e, _, hcK⟩ := (HA.out.below hb).one hka
              injection e with e
              subst e
              have hgk : ag.getD k2 0 = ag[k2] := by rw [List.getD_eq_getElem?_getD, List.getElem?_eq_getElem hka]; rfl
              by_cases e : ag[k2] = x
              · have hS : lst ag fr x (k2 + 1) = cl ag fr k2 := by rw [lst, if_pos (hgk.trans e)]
                have he : (ag[k2] == x) = true := by simpa using e
                obtain ⟨od, A', c', rfl, hbl, hcS, r'⟩ := HRD.out.one hki
                have HS := Lib.hid (show (lst ag fr x (k2 + 1)).length = (cl ag fr k2).length by rw [hS])
                have HRR := Lib.hid (show Rc wr A' c' (lst ag fr x (k2 + 1)) by rw [hS]; exact r')
                obtain ⟨l3, hl3⟩ : ∃ l, (cl ag fr k2).length = l := ⟨_, rfl⟩
                rw [hl3] at hcS HS
                clear hS e hgk r' hl3
                generalize ag[k2] = y at *
                go_wp2
                go_quiet (fail)
                go_wp2
                go_roundw
                case rel => exact ⟨k2 + 1, l3, A', c', by omega, by go_num, rfl, HS, HRR, _, rfl⟩
                case measure => simp [intOf]; omega
              · have hS : lst ag fr x (k2 + 1) = lst ag fr x k2 := by rw [lst, if_neg (by rw [hgk]; exact e)]
                have he : (ag[k2] == x) = false := by simpa using e
                have HS := Lib.hid (show (lst ag fr x (k2 + 1)).length = l2 by rw [hS]; exact HL2.out)
                have HRR := Lib.hid (show Rc wr A2 c2 (lst ag fr x (k2 + 1)) by rw [hS]; exact HR2.out)
                clear hS e hgk
                generalize ag[k2] = y at *
                go_wp2
                go_quiet (fail)
                go_wp2
                go_roundw
                case rel => exact ⟨k2 + 1, l2, A2, c2, by omega, by go_num, rfl, HS, HRR, _, rfl⟩
                case measure => simp [intOf]; omega
            · obtain rfl : k2 = i := by omega
              have hlk := HL.out k2 hlt
              rw [HGF.out] at hlk
              have hCL := (clEq (ag := ag) HL.out hlt).symm
              rw [HX.out] at hCL
              have hR1 := lenRc (ag := ag) HL.out (by have := HN.out; omega) hlt
              have hR2 := lenLst (ag := ag) HL.out (by have := HN.out; omega) x (k := k2) (by omega)
              rw [HL2.out] at hR2
              obtain ⟨bd, rfl, _, hcB⟩ := (HB.out.below hb).one hif
              by_cases hf : 0 ≤ fr[k2]
              · have hrc : rc ag fr k2 = cl ag fr (fr[k2]).toNat := by unfold rc; rw [HGF.out, if_pos hf]
                obtain ⟨j, hj⟩ : ∃ j : Nat, fr[k2] = (j : Int) := ⟨fr[k2].toNat, by omega⟩
                rw [hj] at hcB hf hlk
                rw [hj, Int.toNat_natCast] at hrc
                have hjk : j < k2 := by omega
                clear hj hlk
                obtain ⟨od, A1, c1, rfl, _, hcS, r1⟩ := HRD.out.one hjk
                rw [← hrc] at r1 hcS
                obtain ⟨l1, hl1⟩ : ∃ l, (rc ag fr k2).length = l := ⟨_, rfl⟩
                rw [hl1] at hcS hR1
                obtain ⟨J, hJ⟩ : ∃ J, joinC (lst ag fr x k2) (rc ag fr k2) = J := ⟨_, rfl⟩
                rw [hJ] at hCL
                have hJl := lenMrgC max (lst ag fr x k2) (rc ag fr k2)
                rw [show mrgC max (lst ag fr x k2) (rc ag fr k2) = J from hJ] at hJl
                obtain ⟨lJ, hlJ⟩ : ∃ l, J.length = l := ⟨_, rfl⟩
                rw [HL2.out, hl1, hlJ] at hJl
                have R1 := Lib.hid r1; clear r1
                have HL1 := Lib.hid hl1; clear hl1 hrc
                have HJ := Lib.hid hJ; clear hJ
                have HCL := Lib.hid hCL; clear hCL
                have HLJ := Lib.hid hlJ; clear hlJ
                go_wp2_with fail
                refine (rJoin (lst ag fr x k2) (rc ag fr k2) l2 l1 HL2.out HL1.out J HJ.out (by omega) (by omega) A2 A1 c2 c1 _ (HR2.out.drewN _) (R1.out.drewN _)).mono ?_
                rintro e w2 ⟨vj, rfl, oj, bj⟩
                obtain ⟨AJ, cJ, rfl, rj, _⟩ := oj.rd
                rw [HLJ.out]
                have BJ := Lib.hid (belowThen (belowN wr q) bj); clear bj oj
                have hcI2 := (BJ.out.cell (p := ad.add k2) (by rw [addBlock]; exact hadl)).trans hcI
                go_wp2_with fail
                refine (rAdvance J x lJ HLJ.out (cl ag fr k2) HCL.out (by omega) AJ cJ _ rj).mono ?_
                rintro e w3 ⟨v3, rfl, o3, b3⟩
                have BB := Lib.hid (belowThen BJ.out b3)
                have O3 := Lib.hid (OwnC.mono o3 (show wr.heap.size ≤ _ by have := BJ.out.size; omega)); clear o3 b3
                obtain ⟨l3, hl3⟩ : ∃ l, (cl ag fr k2).length = l := ⟨_, rfl⟩
                obtain ⟨A3, c3, hv3, _, _⟩ := O3.out.rd
                rw [hl3] at hv3
                subst hv3
                clear hl3
                have HO3 := Lib.hid ((HOS.out.below BB.out).alloc (.cells #[.slice A3 l3 c3] 23))
                have hwr := hb.size
                have hw3 := BB.out.size
                have hvl := HVL.out
                go_wp2_with (at_builtin; refine appS _ rfl (.tmp 76) (.tmp 83) rfl w.heap.size _ vs rfl HO3.out _ (.slice A3 l3 c3) rfl rfl (Rds.lit w3 [.slice A3 l3 c3] 23 (by simp [maxLen])) (by omega) (by simp; omega) ?_; intro v4 w4 o4 g4; have O4 := Lib.hid o4; have G4 := Lib.hid g4; clear o4 g4)
                have HI4 := Lib.hid (rsNext HVL.out HOS.out HIS.out BB.out O3.out hwr G4.out)
                have HL4 := Lib.hid (show (vs ++ [Value.slice A3 l3 c3]).length = k2 + 1 by rw [List.length_append, HVL.out]; rfl)
                have HB4 := Lib.hid (((hb.trans (BB.out.mono hwr)).alloc (by omega) _).grown G4.out (by simp; omega) (fun g hg => (HOS.out.lt hg).1))
                go_roundw
                case rel => exact ⟨k2 + 1, _, by omega, by go_num, HL4, O4, HI4, HB4.out⟩
                case measure => simp [intOf]; omega
              · have hrc : rc ag fr k2 = [] := by unfold rc; rw [HGF.out, if_neg hf]
                rw [hrc, joinNil (vlLst _ _ _ _)] at hCL
                have hf' : fr[k2] < 0 := by omega
                clear hlk hf hR1 hrc
                generalize fr[k2] = y at *
                have HCL := Lib.hid hCL; clear hCL
                go_wp2_with fail
                refine (rAdvance (lst ag fr x k2) x l2 HL2.out (cl ag fr k2) HCL.out (by omega) A2 c2 _ (HR2.out.drewN _)).mono ?_
                rintro e w3 ⟨v3, rfl, o3, b3⟩
                have BB := Lib.hid (belowThen (belowN wr q) b3)
                have O3 := Lib.hid (OwnC.mono o3 (show wr.heap.size ≤ _ by simp)); clear o3 b3
                obtain ⟨l3, hl3⟩ : ∃ l, (cl ag fr k2).length = l := ⟨_, rfl⟩
                obtain ⟨A3, c3, hv3, _, _⟩ := O3.out.rd
                rw [hl3] at hv3
                subst hv3
                clear hl3
                have HO3 := Lib.hid ((HOS.out.below BB.out).alloc (.cells #[.slice A3 l3 c3] 23))
                have hwr := hb.size
                have hw3 := BB.out.size
                have hvl := HVL.out
                go_wp2_with (at_builtin; refine appS _ rfl (.tmp 76) (.tmp 83) rfl w.heap.size _ vs rfl HO3.out _ (.slice A3 l3 c3) rfl rfl (Rds.lit w3 [.slice A3 l3 c3] 23 (by simp [maxLen])) (by omega) (by simp; omega) ?_; intro v4 w4 o4 g4; have O4 := Lib.hid o4; have G4 := Lib.hid g4; clear o4 g4)
                have HI4 := Lib.hid (rsNext HVL.out HOS.out HIS.out BB.out O3.out hwr G4.out)
                have HL4 := Lib.hid (show (vs ++ [Value.slice A3 l3 c3]).length = k2 + 1 by rw [List.length_append, HVL.out]; rfl)
                have HB4 := Lib.hid (((hb.trans (BB.out.mono hwr)).alloc (by omega) _).grown G4.out (by simp; omega) (fun g hg => (HOS.out.lt hg).1))
                go_roundw
                case rel => exact ⟨k2 + 1, _, by omega, by go_num, HL4, O4, HI4, HB4.out⟩
                case measure => simp [intOf]; omega
        · obtain rfl : i = n := by omega
          obtain ⟨A', c', rfl, hd⟩ := RdS.ofOwn HOS.out HVL.out HIS.out
          have HD := Lib.hid hd; clear hd
          go_wp2
          go_ret2
          exact ⟨A', c', rfl, HD.out, hb⟩
end Go.Proofs.Ytdppccipajfamaa
