/-
  The contract of the program's Stamps.
-/
import Derived.Test.YtdppccipajfamaaCheckLog
import Derived.Carry
namespace Go.Proofs.Ytdppccipajfamaa
open Go.RowKit Go.Maps

/-- What the first k rounds leave: the row bs of clocks, the map bm of the agents' last clocks. -/
def StRel (ag fr : List Int) (n bs bm k : Nat) (wr : World) : Prop :=
  ∃ (vs : List Value) (V : Int → Value), vs.length = n ∧ bs < bm ∧ OwnS wr bs (.slice (some ⟨bs, 0, none⟩) n n) vs ∧ IsS wr (bm + 1) vs (cl ag fr) k ∧ MapV wr bm k V ∧ ∀ x, OwnC wr (bm + 1) (V x) (lst ag fr x k)
theorem Chg.setCell (w : World) (p : Addr) (v : Value) : Chg w (w.setCell p v) (fun g => g ≠ p.block) :=
  ⟨rfl, rfl, rfl, by simp, fun k _ hk => heap_setCell_other w p k v hk⟩
theorem ownSize {w : World} {bs n : Nat} {vs : List Value} (h : OwnS w bs (.slice (some ⟨bs, 0, none⟩) n n) vs) : vs.length = n := by
  rcases h.2 with ⟨h, _⟩ | ⟨g, cap, cur, h, _⟩
  · cases h
  · injection h with _ h2; exact h2.symm
theorem stFacts {ag fr : List Int} {n bs bm k : Nat} {wr w2 : World} (h : StRel ag fr n bs bm k wr) (hk : k < n) (b : Below wr.heap.size wr w2) :
    w2.frozen? ⟨bs, k, none⟩ = false ∧ ∃ u, w2.cell? ⟨bs, k, none⟩ = some u := by
  obtain ⟨vs, V, hl, _, ho, _⟩ := h
  have ho2 := ho.below b
  subst hl
  unfold OwnS at ho2
  refine ⟨World.ownsRow.frozenAt ho2 k, vs[k], ?_⟩
  rw [World.ownsRow.cellAt ho2 k (by omega), List.getElem?_eq_getElem hk]
theorem cellStored (w : World) (p : Addr) (v : Value) (h : ∃ u, w.cell? p = some u) : (w.setCell p v).cell? p = some v := by
  obtain ⟨u, hu⟩ := h
  exact World.cell?_setCell_same w p v hu
theorem stNext {ag fr : List Int} {n bs bm k : Nat} {wr w2 w4 : World} {v : Value} {V : Int → Value} {x : Int} (hx : ag.getD k 0 = x) (h : StRel ag fr n bs bm k wr) (hk : k < n) (b : Below wr.heap.size wr w2) (ho : OwnC w2 (bm + 1) v (cl ag fr k))
    (hm : MapV w4 bm (k + 1) (fun z => if x = z then v else V z)) (hg : (w2.setCell ⟨bs, k, none⟩ v).grownBy w4 (some bm)) (hVs : ∀ y, OwnC wr (bm + 1) (V y) (lst ag fr y k)) : StRel ag fr n bs bm (k + 1) w4 := by
  obtain ⟨vs, _, hl, hlt, hos, his, _, _⟩ := h
  have c1 : Chg wr w2 (fun g => g ≠ bs ∧ g ≠ bm) := Chg.ofBelow b _
  have c2 : Chg w2 (w2.setCell ⟨bs, k, none⟩ v) (fun g => g ≠ bs ∧ g ≠ bm) := (Chg.setCell w2 ⟨bs, k, none⟩ v).mono fun g hg => hg.1
  have c3 : Chg (w2.setCell ⟨bs, k, none⟩ v) w4 (fun g => g ≠ bm) := Chg.ofGrown hg fun g hg e => hg (by injection e with e; exact e.symm)
  have c23 : Chg w2 w4 (fun g => g ≠ bs ∧ g ≠ bm) := c2.trans c3 fun _ _ h => h.2
  have c13 : Chg wr w4 (fun g => g ≠ bs ∧ g ≠ bm) := c1.trans c23 fun _ _ h => h
  have hF : ∀ g, bm + 1 ≤ g → g ≠ bs ∧ g ≠ bm := fun g hg => ⟨by omega, by omega⟩
  refine ⟨vs.set k v, _, by simpa using hl, hlt, ?_, fun i hi => ?_, hm, fun y => ?_⟩
  · have hos2 := hos.below b
    unfold OwnS at hos2 ⊢
    rw [hl] at hos2
    have hst := (World.ownsRow.stored hos2 k v).1
    rw [List.length_set, hl]
    exact ownChg2 hst c3 fun g hg => by have e : bs = g := by simpa [Value.ownBlock] using hg
                                        omega
  · by_cases e : i = k
    · subst e
      exact ⟨v, by rw [List.getElem?_set_self (by omega)], ho.chg c23 fun g hg => hF g (ho.lt hg).1⟩
    · obtain ⟨u, h1, h2⟩ := his i (by omega)
      exact ⟨u, by rw [List.getElem?_set_ne (Ne.symm e)]; exact h1, h2.chg c13 fun g hg => hF g (h2.lt hg).1⟩
  · rw [lst, hx]
    split
    · exact ho.chg c23 fun g hg => hF g (ho.lt hg).1
    · exact (hVs y).chg c13 fun g hg => hF g ((hVs y).lt hg).1
theorem stStart {ag fr : List Int} {n : Nat} {w w1 : World} (h : w1.ownsRow w.heap.size 23 1 (.slice (some ⟨w.heap.size, 0, none⟩) n n) n (madeCells (Value.slice none 0 0).cells (n * 1)).toList) (hlt : w.heap.size < w1.heap.size) :
    StRel ag fr n w.heap.size w1.heap.size 0 (w1.alloc (.map #[] 0)) :=
  ⟨_, _, by rw [h.1, Nat.mul_one], hlt, by unfold OwnS; rw [show (madeCells (Value.slice none 0 0).cells (n * 1)).toList.length = n by rw [h.1, Nat.mul_one]]; exact World.ownsRow.alloc h _, fun i hi => by omega, MapV.made w1, fun x => OwnC.nil _ _⟩
/-- What Stamps returns where the log has no error. -/
def GivesS (C : Nat → Ck) (n : Nat) (w : World) (e : Ending) (w' : World) : Prop := ∃ A c, e = .returned (.tuple #[.slice A n c, .int .i64 0]) ∧ RdS w' A c C n ∧ Below w.heap.size w w'
theorem stDone {ag fr : List Int} {n bs bm : Nat} {wr : World} (h : StRel ag fr n bs bm n wr) : ∃ c, n = c ∧ RdS wr (some ⟨bs, 0, none⟩) c (cl ag fr) n := by
  obtain ⟨vs, V, hl, _, ho, hi, _⟩ := h
  obtain ⟨A, c, hv, hr⟩ := RdS.ofOwn ho hl hi
  injection hv with e1 _ e3
  subst e1
  exact ⟨c, e3, hr⟩

set_option maxHeartbeats 400000 in
theorem iStampsErr (fr : List Int) (n m : Nat) (hm : fr.length = m) (r : Int) (hr : errL n m fr = r) (hr0 : r ≠ 0) (A B : Option Addr) (c d : Nat) (w : World) (hn : n ≤ maxLen) (hb : Rd w B d fr) :
    Calls Try.prog 25 #[.slice A n c, .slice B m d] w fun e w' => e = .returned (.tuple #[.slice none 0 0, .int .i64 r]) ∧ w = w' := by
  have HB := Lib.hid hb; clear hb
  have HM := Lib.hid hm; clear hm
  have HR := Lib.hid hr; clear hr
  have hne : (r != 0) = true := by simpa using hr0
  clear hr0
  go_enter Try.func25, Try.ntmps25
  go_wp2_with fail
  refine (iCheckLog fr n m HM.out r HR.out A B c d _ hn HB.out).mono ?_
  rintro e w1 ⟨rfl, rfl⟩
  go_wp2
  go_ret2
  exact ⟨rfl, rfl⟩

set_option maxHeartbeats 1000000 in
theorem iStampsOk (ag fr : List Int) (n : Nat) (hn : ag.length = n) (hm : fr.length = n) (hr : errL n n fr = 0) (hwf : ∀ x ∈ ag, (Lit.int .i64 x).wf = true) (A B : Option Addr) (c d : Nat) (w : World) (ha : Rd w A c ag) (hb : Rd w B d fr) :
    Calls Try.prog 25 #[.slice A n c, .slice B n d] w (GivesS (cl ag fr) n w) := by
  have hla := ha.le
  have hlb := hb.le
  rw [hn] at hla
  rw [hm] at hlb
  have hca := ha.max
  have hcb := hb.max
  have hnm : n ≤ maxLen := Nat.le_trans hla hca
  unfold maxLen at hca hcb
  obtain ⟨_, hbig, hlog⟩ := errZero hr
  have HA := Lib.hid ha; clear ha
  have HB := Lib.hid hb; clear hb
  have HN := Lib.hid hn; clear hn
  have HM := Lib.hid hm; clear hm
  have HR := Lib.hid hr; clear hr
  have HL := Lib.hid hlog; clear hlog
  have HWFS := Lib.hid hwf; clear hwf
  obtain ⟨i0, hi, hz0, hz1, hz2⟩ := info_parts infoCk
  have HBY := Lib.hid (show i0.bytes * n ≤ 281474976710656 by rw [hz2]; omega)
  have HNM := Lib.hid hnm; clear hnm
  have hmm := @run_makeMap Try.prog
  go_enter Try.func25, Try.ntmps25
  go_wp2_with fail
  refine (iCheckLog fr n n HM.out 0 HR.out A B c d _ HNM.out HB.out).mono ?_
  rintro e w0 ⟨rfl, rfl⟩
  go_wp2_with (first
    | (at_make; refine wpList_make_full w rfl (.tmp 19) (.tmp 19) 34 rfl w.heap.size 23 i0 _ 1 Try.underlying34 hi hz0 hz1 .i64 .i64 _ _ n rfl rfl rfl rfl HBY.out HNM.out (Nat.le_refl _) ?_; intro w1 o1 g1; have O1 := Lib.hid o1; have G1 := Lib.hid g1; clear o1 g1)
    | fail)
  have hlt1 : w.heap.size < w1.heap.size := (World.ownsRow.lt O1.out w.heap.size rfl).2
  have b1 : Below w.heap.size w w1 := (Below.refl _ w).grown G1.out (Nat.le_refl _) (fun k hk => by cases hk)
  have HST := Lib.hid (stStart (ag := ag) (fr := fr) O1.out hlt1)
  clear hi hz0 hz1 hz2 hmm
  go_wp2
  go_loopw [24] (fun i wr => ∃ k : Nat, k ≤ n ∧ i = .int .i64 k ∧ Hid (StRel ag fr n w.heap.size w1.heap.size k wr) ∧ Below w.heap.size w wr ∧ w1.heap.size < wr.heap.size) (fun i _ => n - (intOf i).toNat)
  case atStart => exact ⟨0, Nat.zero_le _, rfl, HST, b1.alloc b1.size _, by simp⟩
  case round =>
    clear HST b1
    obtain ⟨k, hk, rfl, HS, hb, hsz⟩ := hrel
    by_cases hlt : k < n
    · have hkl : k < ag.length := by have := HN.out; omega
      have hkf : k < fr.length := by have := HM.out; omega
      obtain ⟨ad, rfl, _, hcA⟩ := (HA.out.below hb).one hkl
      obtain ⟨bd, rfl, _, hcB⟩ := (HB.out.below hb).one hkf
      obtain ⟨vs, V, hlen, hbsm, hos, his, hmv, hVs⟩ := HS.out
      have HM := Lib.hid hmv; clear hmv
      have HVS := Lib.hid hVs; clear hVs
      have HIS := Lib.hid his; clear his
      have HOS := Lib.hid hos; clear hos
      have HLEN := Lib.hid hlen; clear hlen
      have hgx : ag.getD k 0 = ag[k] := by rw [List.getD_eq_getElem?_getD, List.getElem?_eq_getElem hkl]; rfl
      have hgf : fr.getD k 0 = fr[k] := by rw [List.getD_eq_getElem?_getD, List.getElem?_eq_getElem hkf]; rfl
      have HWF := Lib.hid (HWFS.out ag[k] (List.getElem_mem hkl))
      have hCL := (clEq (ag := ag) HL.out hlt).symm
      rw [hgx] at hCL
      have hlk := HL.out k hlt
      have hR1 := lenRc (ag := ag) HL.out (by have := HN.out; omega) hlt
      obtain ⟨x, hx⟩ : ∃ x, ag[k] = x := ⟨_, rfl⟩
      have HX := Lib.hid (hgx.trans hx)
      rw [hx] at hcA HWF hCL
      clear hx hgx
      have hR2 := lenLst (ag := ag) HL.out (by have := HN.out; omega) x (k := k) (by omega)
      obtain ⟨J, hJ⟩ : ∃ J, joinC (lst ag fr x k) (rc ag fr k) = J := ⟨_, rfl⟩
      rw [hJ] at hCL
      have hJl := lenMrgC max (lst ag fr x k) (rc ag fr k)
      rw [show mrgC max (lst ag fr x k) (rc ag fr k) = J from hJ] at hJl
      obtain ⟨lJ, hlJ⟩ : ∃ l, J.length = l := ⟨_, rfl⟩
      obtain ⟨l2, hl2⟩ : ∃ l, (lst ag fr x k).length = l := ⟨_, rfl⟩
      obtain ⟨l1, hl1⟩ : ∃ l, (rc ag fr k).length = l := ⟨_, rfl⟩
      rw [hl2] at hR2 hJl
      rw [hl1] at hR1 hJl
      rw [hlJ] at hJl
      obtain ⟨A2, c2, hV2, r2, _⟩ := (HVS.out x).rd
      rw [hl2] at hV2
      have HVX := Lib.hid hV2; clear hV2
      have R2 := Lib.hid r2; clear r2
      have HJ := Lib.hid hJ; clear hJ
      have HCL := Lib.hid hCL; clear hCL
      have HLJ := Lib.hid hlJ; clear hlJ
      have HL2 := Lib.hid hl2; clear hl2
      by_cases hf : 0 ≤ fr[k]
      · have hrc : rc ag fr k = cl ag fr (fr[k]).toNat := by unfold rc; rw [hgf, if_pos hf]
        rw [hgf] at hlk
        obtain ⟨j, hj⟩ : ∃ j : Nat, fr[k] = (j : Int) := ⟨fr[k].toNat, by omega⟩
        rw [hj] at hcB hf hlk
        rw [hj, Int.toNat_natCast] at hrc
        have hjk : j < k := by omega
        clear hj hlk hgf
        obtain ⟨u, hu1, hu2⟩ := HIS.out j hjk
        rw [← hrc] at hu2
        obtain ⟨A1, c1, rfl, r1, _⟩ := hu2.rd
        rw [hl1] at hu1
        have R1 := Lib.hid r1; clear r1 hu2
        have hcS : wr.cell? ⟨w.heap.size, j, none⟩ = some (.slice A1 l1 c1) := by
          have h := HOS.out
          unfold OwnS at h
          rw [HLEN.out] at h
          rw [World.ownsRow.cellAt h j (by omega)]
          exact hu1
        have HL1 := Lib.hid hl1; clear hl1 hrc hu1
        have hfz0 : (0 : Int) ≤ (j : Int) := hf
        go_wp2_with (at_lookup; refine wpList_lookV _ rfl (.tmp 43) (.tmp 44) rfl w1.heap.size k V HM.out rfl x rfl HWF.out _ HVX.out ?_)
        refine (iJoin (lst ag fr x k) (rc ag fr k) l2 l1 HL2.out HL1.out J HJ.out (by omega) (by omega) A2 A1 c2 c1 _ R2.out R1.out).mono ?_
        rintro e w2 ⟨vj, rfl, oj, bj⟩
        obtain ⟨AJ, cJ, rfl, rj, _⟩ := oj.rd
        rw [HLJ.out]
        go_wp2_with fail
        refine (iAdvance J x lJ HLJ.out (cl ag fr k) HCL.out (by omega) AJ cJ _ rj).mono ?_
        rintro e w3 ⟨v3, rfl, o3, b3⟩
        obtain ⟨l3, hl3⟩ : ∃ l, (cl ag fr k).length = l := ⟨_, rfl⟩
        obtain ⟨A3, c3, hv3, _, _⟩ := o3.rd
        rw [hl3] at hv3
        subst hv3
        clear hl3
        have BB := Lib.hid (belowThen bj b3)
        obtain ⟨hfz, hst⟩ := stFacts HS.out hlt BB.out
        have hcs := cellStored w3 _ (.slice A3 l3 c3) hst
        have O3 := Lib.hid o3; clear o3
        have HMS := Lib.hid (HM.out.chg ((Chg.ofBelow BB.out fun g => g ≠ w.heap.size).trans (Chg.setCell w3 ⟨w.heap.size, k, none⟩ (.slice A3 l3 c3)) fun _ _ h => h) (show w1.heap.size ≠ w.heap.size by omega))
        clear oj rj
        obtain ⟨us, hst⟩ := hst
        go_wp2_with (at_mapUpdate; refine wpList_putV _ rfl (.tmp 51) (.tmp 52) (.tmp 56) rfl w1.heap.size k V HMS.out (by unfold maxLen; omega) rfl x rfl HWF.out (.slice A3 l3 c3) rfl ?_; intro w4 m4 g4; have HM4 := Lib.hid m4; have G4 := Lib.hid g4; clear m4 g4)
        have HN := Lib.hid (stNext HX.out HS.out hlt BB.out (OwnC.mono O3.out (by have := bj.size; omega)) HM4.out G4.out HVS.out)
        go_roundw
        case rel => exact ⟨k + 1, by omega, by go_num, HN, (((hb.trans (BB.out.mono hb.size)).setCell (Nat.le_refl _) _).grown G4.out (by have := hb.size; have := BB.out.size; simp; omega) (fun i hi => by injection hi with hi; omega)), by have := BB.out.size; have := G4.out.size; simp at this; omega⟩
        case measure => simp [intOf]; omega
      · have hrc : rc ag fr k = [] := by unfold rc; rw [hgf, if_neg hf]
        have hf' : fr[k] < 0 := by omega
        clear hlk hgf hf
        generalize fr[k] = y at *
        rw [hrc] at hl1
        obtain rfl : l1 = 0 := hl1.symm
        have HL1 := Lib.hid (show (rc ag fr k).length = 0 by rw [hrc]; rfl); clear hl1
        obtain ⟨A1, c1, hA1, hC1⟩ : ∃ (A1 : Option Addr) (c1 : Nat), A1 = none ∧ c1 = 0 := ⟨_, _, rfl, rfl⟩
        have R1 : Hid (Rc wr A1 c1 (rc ag fr k)) := by rw [hrc, hA1, hC1]; exact Lib.hid Rc.nil
        subst hA1; subst hC1
        clear hrc
        go_wp2_with (at_lookup; refine wpList_lookV _ rfl (.tmp 43) (.tmp 44) rfl w1.heap.size k V HM.out rfl x rfl HWF.out _ HVX.out ?_)
        refine (iJoin (lst ag fr x k) (rc ag fr k) l2 0 HL2.out HL1.out J HJ.out (by omega) (by omega) A2 none c2 0 _ R2.out R1.out).mono ?_
        rintro e w2 ⟨vj, rfl, oj, bj⟩
        obtain ⟨AJ, cJ, rfl, rj, _⟩ := oj.rd
        rw [HLJ.out]
        go_wp2_with fail
        refine (iAdvance J x lJ HLJ.out (cl ag fr k) HCL.out (by omega) AJ cJ _ rj).mono ?_
        rintro e w3 ⟨v3, rfl, o3, b3⟩
        obtain ⟨l3, hl3⟩ : ∃ l, (cl ag fr k).length = l := ⟨_, rfl⟩
        obtain ⟨A3, c3, hv3, _, _⟩ := o3.rd
        rw [hl3] at hv3
        subst hv3
        clear hl3
        have BB := Lib.hid (belowThen bj b3)
        obtain ⟨hfz, hst⟩ := stFacts HS.out hlt BB.out
        have hcs := cellStored w3 _ (.slice A3 l3 c3) hst
        have O3 := Lib.hid o3; clear o3
        have HMS := Lib.hid (HM.out.chg ((Chg.ofBelow BB.out fun g => g ≠ w.heap.size).trans (Chg.setCell w3 ⟨w.heap.size, k, none⟩ (.slice A3 l3 c3)) fun _ _ h => h) (show w1.heap.size ≠ w.heap.size by omega))
        clear oj rj
        obtain ⟨us, hst⟩ := hst
        go_wp2_with (at_mapUpdate; refine wpList_putV _ rfl (.tmp 51) (.tmp 52) (.tmp 56) rfl w1.heap.size k V HMS.out (by unfold maxLen; omega) rfl x rfl HWF.out (.slice A3 l3 c3) rfl ?_; intro w4 m4 g4; have HM4 := Lib.hid m4; have G4 := Lib.hid g4; clear m4 g4)
        have HN := Lib.hid (stNext HX.out HS.out hlt BB.out (OwnC.mono O3.out (by have := bj.size; omega)) HM4.out G4.out HVS.out)
        go_roundw
        case rel => exact ⟨k + 1, by omega, by go_num, HN, (((hb.trans (BB.out.mono hb.size)).setCell (Nat.le_refl _) _).grown G4.out (by have := hb.size; have := BB.out.size; simp; omega) (fun i hi => by injection hi with hi; omega)), by have := BB.out.size; have := G4.out.size; simp at this; omega⟩
        case measure => simp [intOf]; omega
    · obtain rfl : k = n := by omega
      have HD := Lib.hid (stDone HS.out)
      go_wp2
      go_ret2
      obtain ⟨cc, rfl, hd⟩ := HD.out
      exact ⟨_, _, rfl, hd, hb⟩
end Go.Proofs.Ytdppccipajfamaa
