/-
  The law ProgramReachable holds: for every program and every set of functions it returns true and leaves its arguments as they were, where the listed variables are laid as the program's text lays them.
-/
import Derived.Test.YtncpnkincdjgfaaDoorPkC
import Derived.Test.YtncpnkincdjgfaaDoorPgS
import Derived.BigQuiet
import Derived.Test.YtncpnkincdjgfaaDoorInsR
import Derived.Test.YtncpnkincdjgfaaDoorInsV
import Derived.Test.YtncpnkincdjgfaaDoorOpen
import Derived.Test.YtncpnkincdjgfaaDoorCards
import Derived.SevenTiedAt
import Derived.ShutString
import Derived.ChangeMaps5
import Derived.Carry
import Derived.Test.YtncpnkincdjgfaaDoorPhG
namespace Go.Proofs.YtncpnkincdjgfaaDoor
open Go Go.RowKit
def LawOkP (w : World) (e : Ending) (w' : World) : Prop := e = .returned (.bool true) ∧ Below w.heap.size w w'
end Go.Proofs.YtncpnkincdjgfaaDoor
namespace Go.Proofs.YtncpnkincdjgfaaDoor
open Go Go.RowKit

/-- Bit f of the number s, as the machine gives it. -/
def bitV (s f : Nat) : Int := bits BinOp.and IntKind.u8 ((s : Int) / 2 ^ f) 1
def okPair (p : Prg) (s e g : Nat) : Prop := ∀ h : e < p.funcs.length, spw (p.funcs[e]).2 (g : Int) = true → bitV s e = 0 ∨ bitV s g = 1
def QO (p : Prg) (s f : Nat) : Prop := ∀ e, e < f → ∀ g, g < p.funcs.length → okPair p s e g
def QI (p : Prg) (s f g : Nat) : Prop := QO p s f ∧ ∀ g', g' < g → okPair p s f g'
def QT (p : Prg) (s i : Nat) : Prop := QO p s p.funcs.length ∧ ∀ j (hj : j < p.thr.length), j < i → ∀ f : Nat, p.thr[j].1 = (f : Int) → bitV s f = 1
theorem QI.next {p : Prg} {s f g : Nat} (h : QI p s f g) (h2 : okPair p s f g) : QI p s f (g + 1) := ⟨h.1, fun g' hg => by
  rcases Nat.lt_or_ge g' g with h' | h'
  · exact h.2 g' h'
  · have e : g' = g := by omega
    subst e
    exact h2⟩
theorem QI.done {p : Prg} {s f g : Nat} (h : QI p s f g) (hg : p.funcs.length ≤ g) : QO p s (f + 1) := fun e he g' hg' => by
  rcases Nat.lt_or_ge e f with h' | h'
  · exact h.1 e h' g' hg'
  · have e2 : e = f := by omega
    subst e2
    exact h.2 g' (by omega)
theorem QT.next {p : Prg} {s i f : Nat} (h : QT p s i) (hi : i < p.thr.length) (hf : p.thr[i].1 = (f : Int)) (hb : bitV s f = 1) : QT p s (i + 1) := ⟨h.1, fun j hj hlt f' hf' => by
  rcases Nat.lt_or_ge j i with h' | h'
  · exact h.2 j hj h' f' hf'
  · have e : j = i := by omega
    subst e
    rw [hf] at hf'
    have e2 : f = f' := by omega
    rw [← e2]
    exact hb⟩
theorem QT.all {p : Prg} (hc : p.chk.1 = 0) {s i : Nat} (h : QT p s i) (hi : p.thr.length ≤ i) {f : Nat} (hf : p.rch f) : bitV s f = 1 := by
  refine (Prg.rchLeast (S := fun f => p.rch f ∧ bitV s f = 1) (fun t ht f hft => ?_) (fun e he hS g hg => ?_) hf).2
  · obtain ⟨j, hj, rfl⟩ := List.getElem_of_mem ht
    exact ⟨Prg.rchStart (List.getElem_mem hj) hft, h.2 j hj (by omega) f hft⟩
  · have hr := Prg.rchStep hS.1 he hg
    refine ⟨hr, ?_⟩
    rcases h.1 e he g (rchBound hc hr) he hg with h0 | h1
    · rw [hS.2] at h0
      exact absurd h0 (by decide)
    · exact h1
set_option maxRecDepth 100000 in
set_option maxHeartbeats 8000000 in
theorem lawReachP {a : PgA} {p : Prg} (hWf : p.Wf) (s : Nat) (_hs : s < 256) (w : World) (hP : PgW w a p) (hL : Laid7 w) : Calls Tryd.prog 5 #[a.val, .int .u8 (s : Int)] w (LawOkP w) := by
  obtain ⟨W, hWE⟩ : ∃ W, w.alloc (.cells a.fs 27) = W := ⟨_, rfl⟩
  have hbW : Below w.heap.size w W := by rw [← hWE]; exact belowAlloc w _
  have hB : PBox W w.heap.size a := by rw [← hWE]; exact Blk.new w _ _
  have HK := Lib.hid (fun Y (hY : Below W.heap.size W Y) => (hB.below hY).facts)
  have HP := Lib.hid (fun Y (hY : Below W.heap.size W Y) => (hP.below hbW).below hY)
  have HF := Lib.hid (fun Y (hY : Below W.heap.size W Y) k (hk : k < p.funcs.length) => (HP.out Y hY).funcs.one hk)
  have HT := Lib.hid (fun Y (hY : Below W.heap.size W Y) k (hk : k < p.thr.length) => (HP.out Y hY).thr.one hk)
  have HLW := Lib.hid (fun Y (hY : Below W.heap.size W Y) => (hL.below hbW).below hY)
  have H1 := Lib.hid (fun X (hX : Below W.heap.size W X) => rSmall X (HP.out X hX))
  have HLV := Lib.hid (fun X (hX : Below W.heap.size W X) => livesP X (HLW.out X hX))
  have HL4 := Lib.hid hP.l4
  have HL5 := Lib.hid hP.l5
  have hle := hP.funcs.le
  have hm := hP.funcs.max
  have hle5 := hP.thr.le
  have hm5 := hP.thr.max
  rw [hP.l4] at hle
  rw [hP.l5] at hle5
  unfold maxLen at hm hm5
  have HW := Lib.hid hWE
  have HBW := Lib.hid hbW
  cases hsm : p.small
  · rw [hsm] at H1
    obtain ⟨A1, n1, c1, A2, n2, c2, A3, n3, c3, A4, n4, c4, A5, n5, c5⟩ := a
    simp only [PgA.val, PgA.fs] at *
    clear hsm hP hL hB hbW hWE
    go_enter Tryd.func5, Tryd.ntmps5
    go_wp2_with fail
    rw [HW.out]
    refine (H1.out _ (Below.refl _ _)).mono ?_
    rintro e w1 ⟨rfl, b1⟩
    go_wp2_with fail
    refine (HLV.out _ b1).mono ?_
    rintro e w2 ⟨rfl, b2⟩
    go_wp2
    go_ret
    exact ⟨rfl, belowThen HBW.out (belowThen b1 b2)⟩
  have HV := Lib.hid (fun X (hX : Below W.heap.size W X) => rValidP X (HP.out X hX) hWf hsm)
  rw [hsm] at H1
  cases hok : p.okB
  · rw [hok] at HV
    obtain ⟨A1, n1, c1, A2, n2, c2, A3, n3, c3, A4, n4, c4, A5, n5, c5⟩ := a
    simp only [PgA.val, PgA.fs] at *
    clear hsm hP hL hB hbW hWE hok
    go_enter Tryd.func5, Tryd.ntmps5
    go_wp2_with fail
    rw [HW.out]
    refine (H1.out _ (Below.refl _ _)).mono ?_
    rintro e w1 ⟨rfl, b1⟩
    obtain ⟨f0, f1, f2, f3, f4⟩ := HK.out w1 b1
    go_wp2_with fail
    refine (HV.out _ b1).mono ?_
    rintro e w2 ⟨rfl, b2⟩
    have B2 := belowThen b1 b2
    clear f0 f1 f2 f3 f4
    go_wp2_with fail
    refine (HLV.out _ B2).mono ?_
    rintro e w3 ⟨rfl, b3⟩
    go_wp2
    go_ret
    exact ⟨rfl, belowThen HBW.out (belowThen B2 b3)⟩
  have hc : p.chk.1 = 0 := of_decide_eq_true hok
  have HC := Lib.hid hc
  have HRE := Lib.hid (fun X (hX : Below W.heap.size W X) => iReach X (HP.out X hX) hWf (HLW.out X hX).ins (HLW.out X hX).nm hc)
  obtain ⟨q4, q5, _, _, _⟩ := chkMany hc
  rw [hok] at HV
  rw [hP.l4] at q4
  rw [hP.l5] at q5
  obtain ⟨A1, n1, c1, A2, n2, c2, A3, n3, c3, A4, n4, c4, A5, n5, c5⟩ := a
  simp only [PgA.val, PgA.fs] at *
  clear hsm hP hL hB hbW hWE hok hc
  go_enter Tryd.func5, Tryd.ntmps5
  go_wp2_with fail
  rw [HW.out]
  refine (H1.out _ (Below.refl _ _)).mono ?_
  rintro e w1 ⟨rfl, b1⟩
  obtain ⟨f0, f1, f2, f3, f4⟩ := HK.out w1 b1
  go_wp2_with fail
  refine (HV.out _ b1).mono ?_
  rintro e w2 ⟨rfl, b2⟩
  have B2 := belowThen b1 b2
  clear f0 f1 f2 f3 f4
  obtain ⟨f0, f1, f2, f3, f4⟩ := HK.out w2 B2
  go_wp2_with fail
  refine (HRE.out _ B2).mono ?_
  rintro e w3 ⟨A, n, c, l, rfl, hrl, hnl, hrch, b3⟩
  have B3 := belowThen B2 b3
  have HRL := Lib.hid (fun X (hX : Below w3.heap.size w3 X) => hrl.below hX)
  have HRN := Lib.hid hnl
  have HRC := Lib.hid hrch
  have HB3 := Lib.hid B3
  have hln := hrl.le
  have hlm := hrl.max
  rw [hnl] at hln
  unfold maxLen at hlm
  clear f0 f1 f2 f3 f4 hrl hnl hrch b1 b2 b3 B2
  go_wp2
  go_loopw [7, 8] (fun vc vf wr => ∃ (f : Nat) (c : Bool), f ≤ n4 ∧ vf = .int .i64 f ∧ vc = .bool c ∧ Below w3.heap.size w3 wr ∧ Hid (c = true → QO p s f)) (fun _ i _ => n4 - (intOf i).toNat)
  case atStart => exact ⟨0, true, Nat.zero_le _, rfl, rfl, Below.refl _ _, Lib.hid fun _ e he => by omega⟩
  case round =>
    obtain ⟨f, cl, hf, rfl, rfl, hb, HCL⟩ := hrel
    obtain ⟨f0, f1, f2, f3, f4⟩ := HK.out wr (belowThen HB3.out hb)
    by_cases hlt : f < n4
    · have hfl : f < p.funcs.length := by rw [HL4.out]; exact hlt
      go_wp2
      go_loopw [7, 9] (fun vc vg wr => ∃ (g : Nat) (c : Bool), g ≤ n4 ∧ vg = .int .i64 g ∧ vc = .bool c ∧ Below w3.heap.size w3 wr ∧ Hid (c = true → QI p s f g)) (fun _ i _ => n4 - (intOf i).toNat)
      case atStart => exact ⟨0, cl, Nat.zero_le _, rfl, rfl, hb, Lib.hid fun h => ⟨HCL.out h, fun g hg => by omega⟩⟩
      case round =>
        clear f0 f1 f2 f3 f4
        obtain ⟨g, cm, hg, rfl, rfl, hbg, HCG⟩ := hrel
        obtain ⟨f0, f1, f2, f3, f4⟩ := HK.out wr (belowThen HB3.out hbg)
        by_cases hltg : g < n4
        · have hgl : g < p.funcs.length := by rw [HL4.out]; exact hltg
          obtain ⟨q, off, hA, _, h1, v, h2, Ac, nc, cc, rfl, hnc, hrd⟩ := HF.out wr (belowThen HB3.out hbg) f hfl
          have hA : A4 = _ := hA
          subst hA
          have hf0 : (0 : Int) ≤ f := by omega
          have hf1 : (f : Int) < n4 := by omega
          have HSP := Lib.hid (rSpawns (p.funcs[f]).1 (p.funcs[f]).2 Ac nc cc (g : Int) wr hnc hrd)
          have HH := Lib.hid (fun x X (hX : Below w3.heap.size w3 X) => lawHas8 l A n c x X HRN.out (HRL.out X hX))
          generalize (p.funcs[f]).1 = nm at h1 HSP
          clear hnc hrd
          cases hsp : spw (p.funcs[f]).2 (g : Int)
          · have HX := Lib.hid (fun h => (HCG.out h).next (fun _ h2 => by rw [hsp] at h2; cases h2))
            rw [hsp] at HSP
            clear hsp
            go_wp2_with fail
            refine HSP.out.mono ?_
            rintro e w4 ⟨rfl, b4⟩
            have B4 := belowThen hbg b4
            go_wp2
            go_roundw
            case rel => exact ⟨g + 1, cm, by omega, by go_num, rfl, B4, HX⟩
            case measure => simp [intOf]; omega
          · have HX := Lib.hid (fun (h : cm = true) (h2 : bitV s f = 0 ∨ bitV s g = 1) => (HCG.out h).next (fun _ _ => h2))
            rw [hsp] at HSP
            have HHF := Lib.hid (HH.out (f : Int))
            have HHG := Lib.hid (HH.out (g : Int))
            cases hmf : memB l (f : Int)
            · rw [hmf] at HHF
              clear hsp hmf
              go_wp2_with fail
              refine HSP.out.mono ?_
              rintro e w4 ⟨rfl, b4⟩
              have B4 := belowThen hbg b4
              go_wp2_with fail
              refine (HHF.out _ B4).mono ?_
              rintro e w5 ⟨rfl, rfl⟩
              go_wp2
              all_goals first
                | (exfalso; omega)
                | exact ⟨⟨g + 1, _, by omega, by go_num, rfl, B4, Lib.hid fun hc => by first | (cases hc; done) | exact HX.out (by assumption) (.inl (by assumption)) | exact HX.out (by assumption) (.inr (by unfold bitV; simpa using hc))⟩, by simp [intOf]; omega⟩
            · have hmg : memB l (g : Int) = true := by
                unfold memB at hmf ⊢
                rw [decide_eq_true_eq] at hmf ⊢
                obtain ⟨e, he, hre⟩ := (HRC.out.2 _).1 hmf
                have e2 : f = e := by omega
                subst e2
                exact (HRC.out.2 _).2 ⟨g, rfl, Prg.rchStep hre hfl hsp⟩
              rw [hmf] at HHF
              rw [hmg] at HHG
              clear hsp hmf hmg
              go_wp2_with fail
              refine HSP.out.mono ?_
              rintro e w4 ⟨rfl, b4⟩
              have B4 := belowThen hbg b4
              go_wp2_with fail
              refine (HHF.out _ B4).mono ?_
              rintro e w5 ⟨rfl, rfl⟩
              go_wp2_with fail
              refine (HHG.out _ B4).mono ?_
              rintro e w5 ⟨rfl, rfl⟩
              go_wp2
              all_goals first
                | (exfalso; omega)
                | exact ⟨⟨g + 1, _, by omega, by go_num, rfl, B4, Lib.hid fun hc => by first | (cases hc; done) | exact HX.out (by assumption) (.inl (by assumption)) | exact HX.out (by assumption) (.inr (by unfold bitV; simpa using hc))⟩, by simp [intOf]; omega⟩
        · have HX := Lib.hid (fun h => (HCG.out h).done (by rw [HL4.out]; show n4 ≤ g; omega))
          go_wp2
          go_roundw
          case rel => exact ⟨f + 1, cm, by omega, by go_num, rfl, hbg, HX⟩
          case measure => simp [intOf]; omega
    · have hfe : f = n4 := by omega
      have HQ0 : Hid (cl = true → QT p s 0) := Lib.hid fun h => ⟨by have := HCL.out h; rw [hfe] at this; rw [HL4.out]; exact this, fun j _ hj => by omega⟩
      clear hfe
      go_wp2
      go_loopw [7, 10] (fun vc vi wr => ∃ (i : Nat) (c : Bool), i ≤ n5 ∧ vi = .int .i64 i ∧ vc = .bool c ∧ Below w3.heap.size w3 wr ∧ Hid (c = true → QT p s i)) (fun _ i _ => n5 - (intOf i).toNat)
      case atStart => exact ⟨0, cl, Nat.zero_le _, rfl, rfl, hb, HQ0⟩
      case round =>
        clear f0 f1 f2 f3 f4
        obtain ⟨i, cm, hi, rfl, rfl, hbi, HCI⟩ := hrel
        obtain ⟨f0, f1, f2, f3, f4⟩ := HK.out wr (belowThen HB3.out hbi)
        by_cases hlti : i < n5
        · have hil : i < p.thr.length := by rw [HL5.out]; exact hlti
          obtain ⟨q, off, hA, _, h1, _⟩ := HT.out wr (belowThen HB3.out hbi) i hil
          have hA : A5 = _ := hA
          subst hA
          have hbel := chkThr HC.out _ (List.getElem_mem hil)
          obtain ⟨g, hg, hgn⟩ : ∃ g : Nat, (p.thr[i]).1 = (g : Int) ∧ g < n4 := ⟨(p.thr[i]).1.toNat, by
            have hl4 : p.funcs.length = n4 := HL4.out
            unfold belB at hbel
            rw [Bool.and_eq_true, decide_eq_true_iff, decide_eq_true_iff] at hbel
            omega⟩
          have hg8 : g < 8 := by omega
          rw [hg] at h1
          have hmg : memB l (g : Int) = true := by
            unfold memB
            rw [decide_eq_true_eq]
            exact (HRC.out.2 _).2 ⟨g, rfl, Prg.rchStart (List.getElem_mem hil) hg⟩
          have HHG := Lib.hid (fun X (hX : Below w3.heap.size w3 X) => lawHas8 l A n c (g : Int) X HRN.out (HRL.out X hX))
          rw [hmg] at HHG
          have HX := Lib.hid (fun (h : cm = true) (h2 : bitV s g = 1) => (HCI.out h).next hil hg h2)
          have hi0 : (0 : Int) ≤ i := by omega
          have hi1 : (i : Int) < n5 := by omega
          have hg0 : (0 : Int) ≤ g := by omega
          clear hbel hg hmg
          go_wp2_with fail
          refine (HHG.out _ hbi).mono ?_
          rintro e w5 ⟨rfl, rfl⟩
          go_wp2
          all_goals first
            | (exfalso; omega)
            | exact ⟨⟨i + 1, _, by omega, by go_num, rfl, hbi, Lib.hid fun hc => by first | (cases hc; done) | exact HX.out (by assumption) (by unfold bitV; simpa using hc)⟩, by simp [intOf]; omega⟩
        · have HQA := Lib.hid (fun (h : cm = true) f (hf : p.rch f) => QT.all HC.out (HCI.out h) (by rw [HL5.out]; show n5 ≤ i; omega) hf)
          go_wp2
          go_loopw [12] (fun vi wr => ∃ i : Nat, i ≤ n ∧ vi = .int .i64 i ∧ Below w3.heap.size w3 wr) (fun i _ => n - (intOf i).toNat)
          case atStart => exact ⟨0, Nat.zero_le _, rfl, hbi⟩
          case round =>
            clear f0 f1 f2 f3 f4
            obtain ⟨i, hi, rfl, hbj⟩ := hrel
            obtain ⟨f0, f1, f2, f3, f4⟩ := HK.out wr (belowThen HB3.out hbj)
            by_cases hltj : i < n
            · have hil : i < l.length := by rw [HRN.out]; exact hltj
              obtain ⟨x, hx, hrx⟩ := (HRC.out.2 l[i]).1 (List.getElem_mem hil)
              have hxn : x < n4 := by
                have h1 := rchBound HC.out hrx
                have h2 : p.funcs.length = n4 := HL4.out
                omega
              have hx8 : x < 8 := by omega
              obtain ⟨b, off, hA, _, hcells⟩ := rdFlat (HRL.out wr hbj) (by omega)
              have hcell := hcells i hil
              subst hA
              rw [hx] at hcell
              have hxb : cm = true → (bitV s x == 0) = false := fun h => by rw [HQA.out h x hrx]; rfl
              unfold bitV at hxb
              have d0 : decide ((x : Int) < 0) = false := by simp
              have d1 : decide ((n4 : Int) ≤ (x : Int)) = false := by simp; omega
              have d1n : decide (n4 ≤ x) = false := by simp; omega
              have HN2 := Lib.hid (fun nq => belowDrewN hbj nq)
              by_cases hz : i = 0
              · subst hz
                rw [Nat.add_zero] at hcell
                have dz : (0 : Int) < n := by omega
                clear hx hcells
                clear f0 f1 f2 f4 HF HT HP H1 HV HRE HL4 HL5 HLW HLV HQA HRC HRN HRL HC HB3 HK HW HBW hrx
                cases cm
                · clear hxb
                  go_wp2_with fail
                  go_quiet (fail)
                  go_wp2
                  go_roundw
                  case rel => exact ⟨1, by omega, by go_num, HN2.out _⟩
                  case measure => simp [intOf]; omega
                · have hxb := hxb rfl
                  go_wp2_with fail
                  go_quiet (fail)
                  go_wp2
                  go_roundw
                  case rel => exact ⟨1, by omega, by go_num, HN2.out _⟩
                  case measure => simp [intOf]; omega
              · obtain ⟨j, rfl⟩ : ∃ j, i = j + 1 := ⟨i - 1, by omega⟩
                have hd := hcells j (by omega)
                have hlt2 : l[j] < l[j + 1] := List.pairwise_iff_getElem.1 HRC.out.1 j (j + 1) (by omega) hil (by omega)
                obtain ⟨y, hy⟩ : ∃ y, l[j] = y := ⟨_, rfl⟩
                rw [hy] at hd hlt2
                rw [hx] at hlt2
                have d2 : decide ((x : Int) ≤ y) = false := by simp; omega
                have dp : decide ((0 : Int) < (j : Int) + 1) = true := decide_eq_true (by omega)
                have hi0 : (0 : Int) ≤ (j : Int) + 1 := by omega
                have hi1 : (j : Int) + 1 < n := by omega
                have hj0 : (0 : Int) ≤ (j : Int) := by omega
                have hj1 : (j : Int) < n := by omega
                have hj2 : ((j : Int) + 1).toNat = j + 1 := by omega
                clear hx hy hcells hz hlt2
                clear f0 f1 f2 f4 HF HT HP H1 HV HRE HL4 HL5 HLW HLV HQA HRC HRN HRL HC HB3 HK HW HBW hrx
                cases cm
                · clear hxb
                  go_wp2_with fail
                  go_quiet (fail)
                  go_wp2
                  go_roundw
                  case rel => exact ⟨j + 2, by omega, by go_num, HN2.out _⟩
                  case measure => simp [intOf]; omega
                · have hxb := hxb rfl
                  go_wp2_with fail
                  go_quiet (fail)
                  go_wp2
                  go_roundw
                  case rel => exact ⟨j + 2, by omega, by go_num, HN2.out _⟩
                  case measure => simp [intOf]; omega
            · go_wp2_with fail
              refine (HLV.out _ (belowThen HB3.out hbj)).mono ?_
              rintro e w6 ⟨rfl, b6⟩
              go_wp2
              go_ret
              exact ⟨rfl, belowThen HBW.out (belowThen HB3.out (belowThen hbj b6))⟩
end Go.Proofs.YtncpnkincdjgfaaDoor

namespace Go.Proofs.YtncpnkincdjgfaaDoor.programReachable
open Go Go.ChangeShapes Go.WideShapes Go.ChangeAt Go.WideMaps Go.WideElems Go.RowKit Go.ChangeMaps

set_option maxRecDepth 100000 in
theorem lifted (os : Os) (started : os.Started) (H : Type) (enc : TypeId × Value → H) :
    ReturnsInHanded {} Tryd.checked os 5 .any (fun w args => (Rows.programReachableSpec.pre enc Tryd.prog Tryd.f5 [] false w args ∧ laidMetH Tryd.prog laidA w) ∧ sizedMet enc Tryd.prog Tryd.f5 (OpenSpec.ofChange Rows.programReachableSpec) false w args)
      (Rows.programReachableSpec.post enc Tryd.prog Tryd.f5 false true false false) := by
  refine returnsInHanded_of_change_and (C := Tryd.checked) (X := fun w _ => laidMetH Tryd.prog laidA w) (fun _ _ _ hh h => h.of_heap hh) ownKnob0 started (by kernel_rfl) Tryd.func5
    (ChangeSpec.witness_shaped (enc := enc) (C := Tryd.checked) (os := os) (X := fun w _ => laidMetH Tryd.prog laidA w) false (World.doorLaid Tryd.prog 400 os) #[.agg #[.slice none 0 0, .slice none 0 0, .slice none 0 0, .slice none 0 0, .slice none 0 0], .int .u8 0] 8 rfl (World.shaped_of_RefB (by kernel_rfl) (by kernel_rfl)) (by kernel_rfl) (by kernel_rfl) (by kernel_rfl) (doorA os _)) ?_
  intro W base args ds gs before hval0 hW _ _ hL _
  have hval : ∀ (j : Nat) t v, Tryd.f5.params[j]? = some t → args[j]? = some v → Value.okWide Tryd.prog W .any base t v := hval0
  have hW' := hW
  obtain ⟨p, q, hA0, hV, rfl, hfz, hnd⟩ := hW
  have hA : DataW.TrodAll enc Tryd.prog W 0 (fun _ => true) true Tryd.f5.params.toList args.toList ds p := hA0
  rw [Tryd.params5] at hA hval
  obtain ⟨v0, vs0, d0, ds0, p0, q0, hargs, rfl, rfl, h0, r0⟩ := trodAll_cons hA
  obtain ⟨v1, vs1, d1, ds1, p1, q1, rfl, rfl, rfl, h1, r1⟩ := trodAll_cons r0
  obtain ⟨rfl, rfl, rfl⟩ := trodAll_nil r1
  obtain rfl : args = #[v0, v1] := by cases args; simp_all
  obtain ⟨rfl, rfl⟩ := trodVars_none hV
  have g0 := h0
  have g1 := h1
  obtain ⟨a0, pg0, rfl, pw0, gw0⟩ := openPg (hval 0 27 v0 rfl rfl) h0
  obtain ⟨a1, rfl, rfl, rfl, w1⟩ := open_int Tryd.underlying5 (hval 1 5 v1 rfl rfl) h1
  clear hA0 hval0
  obtain ⟨m1, rfl, hm1⟩ := u8Nat w1
  simp only [List.append_nil] at hW'
  refine (lawReachP gw0 m1 hm1 W pw0 (metA hL)).mono fun e W' ⟨he, hb⟩ => ?_
  subst he
  exact ⟨_, rfl, _, _, _, [], _, [], hW', trodAll_cons_mk (shut_bool Tryd.underlying4 _) trodAll_mk0, trodAll_cons_mk (Below.trod laidOut0 (by kernel_rfl) (of_decide_eq_true (by kernel_rfl)) g0 hb (fun y hy => by simpa using hW'.lt y (by simp [hy]))) (trodAll_cons_mk (Below.trod laidOut0 (by kernel_rfl) (of_decide_eq_true (by kernel_rfl)) g1 hb (fun y hy => by cases hy)) (trodAll_mk0)), rfl, hb.frame _, fun h => by cases h⟩

theorem over : Rows.programReachableRow.holds Tryd.pinned (OpenSpec.ofChange Rows.programReachableSpec) :=
  OpenClaim.holds_of_wide 5 Tryd.f5 rfl rfl rfl rfl rfl rfl rfl ⟨rfl, rfl, rfl, rfl, rfl⟩ rfl rfl rfl rfl rfl (by kernel_rfl) Tryd.func5 (by kernel_rfl)
    (of_decide_eq_true (by kernel_rfl)) (by unfold Func.isWrapper; first | (rw [if_pos (by decide +kernel)]; kernel_rfl) | (rw [if_neg (by decide +kernel)]; exact ⟨rfl, rfl⟩))
    (fun os started H enc _ => lifted os started H enc)

theorem proved : Rows.ProgramReachableCardSaid :=
  Claim7.holds_tied_plain_at .later [] [.data, .data] true Rows.programReachableCard.stood.harness false
    over (fun _ h => by cases h) (by kernel_rfl) (fun _ h => by cases h) programReachable_row_tie rfl ⟨rfl, rfl⟩ (by kernel_rfl) rfl
    (fun f fn hf hfn => by
      obtain rfl : f = 5 := Option.some.inj ((show Tryd.prog.funcNamed Rows.programReachableRow.func = some 5 by kernel_rfl).symm.trans hf) |>.symm
      obtain rfl : fn = Tryd.f5 := (Option.some.inj (Tryd.func5.symm.trans hfn)).symm
      exact ⟨by kernel_rfl, fun j t ht => by
        rw [Tryd.params5] at ht
        have hm : t ∈ [27, 5] := by simpa using Array.mem_of_getElem? ht
        have hall : ([27, 5].all fun u => !Tryd.prog.wantsStandIn u) = true := by kernel_rfl
        exact (show Tryd.prog.wantsStandIn t = false by simpa using List.all_eq_true.1 hall t hm)⟩)
    (by kernel_rfl)
#print axioms proved
end Go.Proofs.YtncpnkincdjgfaaDoor.programReachable
