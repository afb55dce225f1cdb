/-
  The law AwaitOnce returns true for every program, where the tables are laid.
-/
import Derived.Test.YtkanamdfjegcbaaDoorOAwL
import Derived.Test.YtkanamdfjegcbaaDoorOAwN
import Derived.Deep.RegionHeld3
import Derived.Deep.LoopGhost
set_option pp.deepTerms true
set_option pp.maxSteps 100000
namespace Go.Proofs.YtkanamdfjegcbaaDoor
open Go Go.RowKit

set_option maxRecDepth 100000 in
set_option maxHeartbeats 8000000 in
theorem lawOnce {a : PgA} {p : Prg} (w : World) (hP : PgW w a p) (hWf : p.Wf) (hL : Laid7 w) : Calls Tryd.prog 9 #[a.val] w (LawOkA w) := by
  obtain ⟨W, hW⟩ : ∃ W, w.alloc (.cells a.fs 54) = W := ⟨_, rfl⟩
  have hbW : Below w.heap.size w W := by rw [← hW]; exact belowAlloc w _
  have hk1 : PBox W w.heap.size a := by rw [← hW]; exact Blk.new w _ _
  have HBW := Lib.hid hbW
  have HW := Lib.hid hW
  have HK := Lib.hid (fun X (hX : Below W.heap.size W X) => (hk1.below hX).facts)
  have hpW := hP.below hbW
  have hLW := hL.below hbW
  have H1 := Lib.hid (rSmall W hpW)
  have HLV := Lib.hid (fun X (hX : Below W.heap.size W X) => aLives X (hLW.below hX))
  cases hsm : p.small
  · rw [hsm] at H1
    clear hsm hP hL hW hbW hk1 hpW hLW
    obtain ⟨A1, n1, c1, A2, n2, c2, A3, n3, c3, A4, n4, c4, A5, n5, c5⟩ := a
    simp only [PgA.val, PgA.fs] at *
    obtain ⟨f0, f1, f2, f3, f4⟩ := HK.out W (Below.refl _ _)
    go_enter Tryd.func9, Tryd.ntmps9
    go_wp2_with fail
    rw [HW.out]
    go_wp2_with fail
    refine H1.out.mono ?_
    rintro e w1 ⟨rfl, b1⟩
    clear f0 f1 f2 f3 f4
    go_wp2_with fail
    refine (HLV.out _ b1).mono ?_
    rintro e w2 ⟨rfl, b2⟩
    go_wp2
    go_ret
    exact ⟨rfl, belowThen HBW.out (belowThen b1 b2)⟩
  rw [hsm] at H1
  have HVA := Lib.hid (fun X (hX : Below W.heap.size W X) => rValidP X (hpW.below hX) hWf hsm)
  cases hok : p.okB
  · rw [hok] at HVA
    clear hsm hP hL hW hbW hk1 hpW hLW hok
    obtain ⟨A1, n1, c1, A2, n2, c2, A3, n3, c3, A4, n4, c4, A5, n5, c5⟩ := a
    simp only [PgA.val, PgA.fs] at *
    obtain ⟨f0, f1, f2, f3, f4⟩ := HK.out W (Below.refl _ _)
    go_enter Tryd.func9, Tryd.ntmps9
    go_wp2_with fail
    rw [HW.out]
    go_wp2_with fail
    refine H1.out.mono ?_
    rintro e w1 ⟨rfl, b1⟩
    have HV1 := Lib.hid (HVA.out w1 b1)
    clear f0 f1 f2 f3 f4
    obtain ⟨f0, f1, f2, f3, f4⟩ := HK.out w1 b1
    go_wp2_with fail
    refine HV1.out.mono ?_
    rintro e w2 ⟨rfl, b2⟩
    have hB2 := belowThen b1 b2
    have HLV2 := Lib.hid (HLV.out w2 hB2)
    clear f0 f1 f2 f3 f4
    go_wp2_with fail
    refine HLV2.out.mono ?_
    rintro e w3 ⟨rfl, b3⟩
    go_wp2
    go_ret
    exact ⟨rfl, belowThen HBW.out (belowThen hB2 b3)⟩
  rw [hok] at HVA
  have hc0 : p.chk.1 = 0 := of_decide_eq_true hok
  have HFI := Lib.hid (fun X (hX : Below W.heap.size W X) => iFind X (hpW.below hX) hWf hsm (hLW.below hX).ins (hLW.below hX).nm)
  have HRW := Lib.hid (fun X (hX : Below W.heap.size W X) => iRewrite X (hpW.below hX) hWf hsm (hLW.below hX).ins (hLW.below hX).nm)
  have hsp : spR p = p.spins := by unfold spR; rw [if_pos hc0]
  have hrw : rwR p = rwP p p.spins := by unfold rwR; rw [if_pos hc0]
  have hq0 : (rwP p p.spins).chk.1 = 0 := rwOk hc0
  have hqs : spR (rwP p p.spins) = [] := by unfold spR; rw [if_pos hq0, rwNone]
  have hqok : (rwP p p.spins).okB = true := decide_eq_true hq0
  have hqsm : (rwP p p.spins).small = true := by rw [rwSmall]; exact hsm
  have hqwf := rwWf hWf
  have HFQ := Lib.hid (fun X aq (hq : PgW X aq (rwP p p.spins)) (hX : Below W.heap.size W X) => iFind X hq hqwf hqsm (hLW.below hX).ins (hLW.below hX).nm)
  have HVQ := Lib.hid (fun X aq (hq : PgW X aq (rwP p p.spins)) => rValidP X hq hqwf hqsm)
  have HSP := Lib.hid (fun X (hX : Below W.heap.size W X) => rSize8 X (hpW.below hX) (sizeOf8 hsm))
  have HSQ := Lib.hid (fun X aq (hq : PgW X aq (rwP p p.spins)) => rSize8 X hq (sizeOf8 hqsm))
  have HQL := Lib.hid (rwPLen p)
  have HQF := Lib.hid (fun i (h : i < p.funcs.length) => rwFn h)
  unfold GivesN at HFI HFQ
  unfold GivesRw at HRW
  rw [hsp, hc0] at HFI
  rw [hrw, hc0] at HRW
  rw [hqs, hq0] at HFQ
  rw [hqok] at HVQ
  rw [rwSize] at HSQ
  have few := (fewOf hsm).2.2.2.1
  have HSH := Lib.hid (shortOf hsm)
  have HPF := Lib.hid (fun X (hX : Below W.heap.size W X) => (hpW.below hX).funcs.at_)
  have HP4 := Lib.hid hP.l4
  have hpl := hP.funcs.le
  have hpm := hP.funcs.max
  rw [hP.l4] at hpl few
  unfold maxLen at hpm
  have HGAP := Lib.hid (fun i (h : i + 1 < p.spins.length) => spGap h)
  have HSL := Lib.hid (show p.spins.length ≤ 2000 by have := spFLen (F := p.funcs) (shortOf hsm) (Nat.le_refl _); rw [hP.l4] at this; unfold Prg.spins; rw [hP.l4]; omega)
  have HSE : Hid (p.spins = spF p.funcs p.funcs.length) := Lib.hid rfl
  have HQ1 : Hid (PgW W a p) := Lib.hid hpW
  obtain ⟨Q, hQ⟩ : ∃ Q, rwP p p.spins = Q := ⟨_, rfl⟩
  obtain ⟨sz, hsz⟩ : ∃ sz : Int, (p.size : Int) = sz := ⟨_, rfl⟩
  rw [hQ] at HRW HFQ HVQ HSQ HQL
  rw [hsz] at HSP HSQ
  have HQF' : Hid (∀ i (h : i < p.funcs.length), ∃ (h2 : i < Q.funcs.length), Q.funcs[i] = (p.funcs[i].1, rwA p.funcs[i].2)) := Lib.hid (by subst hQ; exact fun i h => ⟨by rw [rwPLen]; exact h, HQF.out i h⟩)
  obtain ⟨m, hm⟩ : ∃ m, p.spins.length = m := ⟨_, rfl⟩
  have HM := Lib.hid hm
  have hm2 := HSL.out
  rw [hm] at hm2
  clear hsm hP hL hW hbW hk1 hpW hLW hok hc0 hsp hrw hq0 hqs hqok hqsm hqwf HQF hQ hsz hm
  obtain ⟨A1, n1, c1, A2, n2, c2, A3, n3, c3, A4, n4, c4, A5, n5, c5⟩ := a
  simp only [PgA.val, PgA.fs] at *
  obtain ⟨f0, f1, f2, f3, f4⟩ := HK.out W (Below.refl _ _)
  go_enter Tryd.func9, Tryd.ntmps9
  go_wp2_with fail
  rw [HW.out]
  go_wp2_with fail
  refine H1.out.mono ?_
  rintro e w1 ⟨rfl, b1⟩
  have HV1 := Lib.hid (HVA.out w1 b1)
  clear f0 f1 f2 f3 f4
  obtain ⟨f0, f1, f2, f3, f4⟩ := HK.out w1 b1
  go_wp2_with fail
  refine HV1.out.mono ?_
  rintro e w2 ⟨rfl, b2⟩
  have B2 := belowThen b1 b2
  have HF2 := Lib.hid (HFI.out w2 B2)
  have HB2 := Lib.hid B2
  clear f0 f1 f2 f3 f4 b1 b2
  obtain ⟨f0, f1, f2, f3, f4⟩ := HK.out w2 B2
  clear B2
  go_wp2_with fail
  refine HF2.out.mono ?_
  rintro e w3 ⟨v3, rfl, o3, b3⟩
  obtain ⟨As, cs, rfl, rs⟩ := o3.rd
  rw [HM.out]
  have HRS := Lib.hid rs
  have hcs := rs.le
  have hcm := rs.max
  rw [HM.out] at hcs
  unfold maxLen at hcm
  have B3 := belowThen HB2.out b3
  have HB3 := Lib.hid B3
  have HR3 := Lib.hid (HRW.out w3 B3)
  clear f0 f1 f2 f3 f4 o3 rs b3
  obtain ⟨f0, f1, f2, f3, f4⟩ := HK.out w3 B3
  clear B3
  go_wp2_with fail
  refine HR3.out.mono ?_
  rintro e w4 ⟨a4, rfl, p4, b4⟩
  obtain ⟨w5, hw5⟩ : ∃ w5, w4.alloc (.cells a4.fs 54) = w5 := ⟨_, rfl⟩
  have hb5 : Below w4.heap.size w4 w5 := by rw [← hw5]; exact belowAlloc _ _
  have HQ5 : Hid (PBox w5 w4.heap.size a4 ∧ PgW w5 a4 Q) := Lib.hid ⟨by rw [← hw5]; exact Blk.new _ _ _, p4.below hb5⟩
  have hb35 := belowThen b4 hb5
  have B5 := belowThen HB3.out hb35
  have HB5 := Lib.hid B5
  have HRS5 := Lib.hid (HRS.out.below stabSn hb35)
  have HF5 := Lib.hid (HFQ.out w5 a4 HQ5.out.2 B5)
  have HW5 := Lib.hid hw5
  clear f0 f1 f2 f3 f4 hw5 hb5 p4 b4 hb35 B5
  obtain ⟨E1, l1, g1, E2, l2, g2, E3, l3, g3, E4, l4, g4, E5, l5, g5⟩ := a4
  simp only [PgA.fs] at HW5 HF5
  have hq4 : Q.funcs.length = l4 := HQ5.out.2.l4
  have hl4 : l4 = n4 := by have h1 := HQL.out; have h2 : p.funcs.length = n4 := HP4.out; omega
  subst hl4
  have HQF4 := Lib.hid (fun X (hX : Below w5.heap.size w5 X) => (HQ5.out.2.below hX).funcs.at_)
  have hql := HQ5.out.2.funcs.le
  have hqm := HQ5.out.2.funcs.max
  rw [hq4] at hql
  unfold maxLen at hqm
  have HQ4 := Lib.hid hq4
  clear hq4
  obtain ⟨u0, u1, u2, u3, u4⟩ := HQ5.out.1.facts
  simp only at u0 u1 u2 u3 u4 hql hqm
  dsimp only
  go_upto_region 5 with fail
  rw [HW5.out]
  go_wp2_with fail
  refine HF5.out.mono ?_
  rintro e w6 ⟨v6, rfl, o6, b6⟩
  obtain ⟨A6, c6, rfl, _⟩ := o6.rd
  have B6 := belowThen HB5.out b6
  have HB6 := Lib.hid B6
  have HB56 := Lib.hid b6
  have HRS6 := Lib.hid (HRS5.out.below stabSn b6)
  have HQ6 := Lib.hid (And.intro (HQ5.out.1.below b6) (HQ5.out.2.below b6))
  clear u0 u1 u2 u3 u4 o6 b6
  have HS := Lib.hid (fun X (hX : Below w6.heap.size w6 X) => (by
    obtain ⟨a1, a2, a3, a4, a5⟩ := HK.out X (belowThen HB6.out hX)
    obtain ⟨b1, b2, b3, b4, b5⟩ := (HQ6.out.1.below hX).facts
    exact ⟨hX, a1, a2, a3, a4, a5, b1, b2, b3, b4, b5⟩ : Below w6.heap.size w6 X ∧ X.cell? ⟨w.heap.size, 0, none⟩ = some (.slice A1 n1 c1) ∧ X.cell? ⟨w.heap.size, 1, none⟩ = some (.slice A2 n2 c2) ∧ X.cell? ⟨w.heap.size, 2, none⟩ = some (.slice A3 n3 c3) ∧ X.cell? ⟨w.heap.size, 3, none⟩ = some (.slice A4 l4 c4) ∧ X.cell? ⟨w.heap.size, 4, none⟩ = some (.slice A5 n5 c5) ∧ X.cell? ⟨w4.heap.size, 0, none⟩ = some (.slice E1 l1 g1) ∧ X.cell? ⟨w4.heap.size, 1, none⟩ = some (.slice E2 l2 g2) ∧ X.cell? ⟨w4.heap.size, 2, none⟩ = some (.slice E3 l3 g3) ∧ X.cell? ⟨w4.heap.size, 3, none⟩ = some (.slice E4 l4 g4) ∧ X.cell? ⟨w4.heap.size, 4, none⟩ = some (.slice E5 l5 g5)))
  have S0 := HS.out w6.drew ((Below.refl _ w6).drew)
  obtain ⟨-, f0, f1, f2, f3, f4, u0, u1, u2, u3, u4⟩ := HS.out w6 (Below.refl _ _)
  have HV6 := Lib.hid (fun X (hX : Below w6.heap.size w6 X) => HVQ.out X _ (HQ6.out.2.below hX))
  have HS6 := Lib.hid (fun X (hX : Below w6.heap.size w6 X) => HSQ.out X _ (HQ6.out.2.below hX))
  have HP6 := Lib.hid (fun X (hX : Below w6.heap.size w6 X) => HSP.out X (belowThen HB6.out hX))
  simp only at HV6 HS6 HP6
  clear B6
  go_wp2_with fail
  go_region_held3 (fun X => Below w6.heap.size w6 X ∧ X.cell? ⟨w.heap.size, 0, none⟩ = some (.slice A1 n1 c1) ∧ X.cell? ⟨w.heap.size, 1, none⟩ = some (.slice A2 n2 c2) ∧ X.cell? ⟨w.heap.size, 2, none⟩ = some (.slice A3 n3 c3) ∧ X.cell? ⟨w.heap.size, 3, none⟩ = some (.slice A4 l4 c4) ∧ X.cell? ⟨w.heap.size, 4, none⟩ = some (.slice A5 n5 c5) ∧ X.cell? ⟨w4.heap.size, 0, none⟩ = some (.slice E1 l1 g1) ∧ X.cell? ⟨w4.heap.size, 1, none⟩ = some (.slice E2 l2 g2) ∧ X.cell? ⟨w4.heap.size, 2, none⟩ = some (.slice E3 l3 g3) ∧ X.cell? ⟨w4.heap.size, 3, none⟩ = some (.slice E4 l4 g4) ∧ X.cell? ⟨w4.heap.size, 4, none⟩ = some (.slice E5 l5 g5)) (first | with_reducible assumption | exact HS.out _ (by with_reducible assumption)) (first
    | (go_at_call 34; refine (HV6.out _ (‹Below w6.heap.size w6 _ ∧ _›).1).mono ?_; rintro e t1 ⟨rfl, y1⟩; have q1 := belowThen (‹Below w6.heap.size w6 _ ∧ _›).1 y1; clear HV6)
    | (go_at_call 37; with_reducible refine (HS6.out _ (‹Below w6.heap.size w6 _ ∧ _›).1).mono ?_; rintro e t2 ⟨rfl, y2⟩; have q2 := belowThen (‹Below w6.heap.size w6 _ ∧ _›).1 y2; clear HS6)
    | (go_at_call 37; with_reducible refine (HP6.out _ (‹Below w6.heap.size w6 _ ∧ _›).1).mono ?_; rintro e t3 ⟨rfl, y3⟩; have q3 := belowThen (‹Below w6.heap.size w6 _ ∧ _›).1 y3; clear HP6))
  have Q3 := Lib.hid q3
  clear q1 q2 q3 y1 y2 y3 S0 f0 f1 f2 f3 f4 u0 u1 u2 u3 u4
  obtain ⟨-, f0, f1, f2, f3, f4, u0, u1, u2, u3, u4⟩ := HS.out t3 Q3.out
  have hm0 : (m : Int) ≤ 2000 := by omega
  go_wp2
  go_loopg [9] m (fun g i wr => ∃ k : Nat, 1 ≤ k ∧ k + g = m + 1 ∧ i = .int .i64 k ∧ Below t3.heap.size t3 wr)
  case atStart => exact ⟨1, Nat.le_refl _, by omega, rfl, Below.refl _ _⟩
  case round =>
    obtain ⟨k, h1k, hk, rfl, hb⟩ := hrel
    have HB := Lib.hid hb
    by_cases hlt : k < m
    · obtain ⟨go, hgo⟩ : ∃ go, gk = go + 1 := ⟨gk - 1, by omega⟩
      subst hgo
      obtain ⟨k0, hk0⟩ : ∃ k0, k = k0 + 1 := ⟨k - 1, by omega⟩
      subst hk0
      have hkl : k0 + 1 < p.spins.length := by rw [HM.out]; exact hlt
      obtain ⟨bs, os, hAs, _, hx⟩ := (HRS6.out.below stabSn (belowThen Q3.out hb)).at_ (by omega)
      have z0 := hx k0 (by omega)
      have z1 := hx (k0 + 1) hkl
      have hgap := HGAP.out k0 hkl
      subst hAs
      obtain ⟨⟨fa, na⟩, ha⟩ : ∃ a, p.spins[k0] = a := ⟨_, rfl⟩
      obtain ⟨⟨fb, nb⟩, hbb⟩ : ∃ a, p.spins[k0 + 1] = a := ⟨_, rfl⟩
      rw [ha] at z0 hgap
      rw [hbb] at z1 hgap
      simp only at hgap
      obtain ⟨kk, hkk⟩ : ∃ kk, k0 + 1 = kk := ⟨_, rfl⟩
      rw [hkk] at z1 hlt ⊢
      have a0 := z0.c0
      have a1 := z0.c1
      have a2 := z0.c2
      have b0 := z1.c0
      have b1 := z1.c1
      have b2 := z1.c2
      simp only at a0 a1 a2 b0 b1 b2
      have hi0 : (0 : Int) ≤ kk := by omega
      have hi1 : (kk : Int) < m := by omega
      have hi2 : (0 : Int) ≤ k0 := by omega
      have hi3 : (k0 : Int) < m := by omega
      have hwi : IntKind.i64.wrap ((kk : Int) - 1) = (k0 : Int) := by rw [IntKind.wrap_i64]; omega
      have hkg : kk + (go + 1) = m + 1 := by omega
      have HBN : Hid (∀ q, Below t3.heap.size t3 (wr.drewN q)) := Lib.hid fun q => belowDrewN HB.out q
      clear hx z0 z1 ha hbb hkl hb hkk hk h1k
      by_cases hff : fa < fb
      · have d1 : decide ((fb : Int) < (fa : Int)) = false := decide_eq_false (by omega)
        have d2 : ((fb : Int) == (fa : Int)) = false := beq_eq_false_iff_ne.2 (by omega)
        have d4 : ¬ (fb < fa) := by omega
        have d5 : ¬ (fb = fa) := by omega
        have d6 : (fb == fa) = false := beq_eq_false_iff_ne.2 d5
        clear hgap hff
        go_wp2_with fail
        go_quiet (fail)
        go_wp2
        go_roundg go
        case measure => omega
        case rel => exact ⟨kk + 1, by omega, by omega, by go_num, HBN.out _⟩
      · have hfe : fa = fb := by omega
        subst hfe
        have d1 : decide ((fa : Int) < (fa : Int)) = false := decide_eq_false (by omega)
        have d2 : ((fa : Int) == (fa : Int)) = true := beq_iff_eq.2 rfl
        have d4 : ¬ ((fa : Int) < (fa : Int)) := by omega
        have d5 : ¬ ((nb : Int) ≤ (na : Int) + 2) := by omega
        have d6 : ¬ (nb ≤ na + 2) := by omega
        have d3 : decide ((nb : Int) ≤ (na : Int) + 2) = false := decide_eq_false (by omega)
        clear hgap hff
        go_wp2_with fail
        go_quiet (fail)
        go_wp2
        go_roundg go
        case measure => omega
        case rel => exact ⟨kk + 1, by omega, by omega, by go_num, HBN.out _⟩
    · have hjz : ¬ ((k : Int) < (m : Int)) := by omega
      clear hk h1k
      obtain ⟨-, f0, f1, f2, f3, f4, u0, u1, u2, u3, u4⟩ := HS.out wr (belowThen Q3.out hb)
      clear hb
      rename World => wz
      go_wp2
      go_loopg [10, 11] l4 (fun g c i wr => ∃ (j : Nat) (n : Nat), j + g = l4 ∧ i = .int .i64 j ∧ c = .int .i64 n ∧ Hid (n = (spF p.funcs j).length) ∧ Below t3.heap.size t3 wr)
      case atStart => exact ⟨0, 0, by omega, rfl, rfl, Lib.hid rfl, HB.out⟩
      case round =>
        obtain ⟨j, n, hj, rfl, rfl, HN, hb⟩ := hrel
        have HB2 := Lib.hid hb
        obtain ⟨-, f0, f1, f2, f3, f4, u0, u1, u2, u3, u4⟩ := HS.out wr (belowThen Q3.out hb)
        cases gk with
        | zero =>
          have hjn : j = l4 := by omega
          subst hjn
          have hjz : ¬ ((j : Int) < j) := by omega
          have hnm : n = m := by have h1 := HN.out; have h2 : p.funcs.length = j := HP4.out; have h3 := HSE.out; have h4 := HM.out; rw [h3, h2] at h4; omega
          subst hnm
          have hq : ((n : Int) == (n : Int)) = true := beq_iff_eq.2 rfl
          have HLW := Lib.hid (HLV.out wr (belowThen HB6.out (belowThen Q3.out hb)))
          clear hb
          go_wp2_with fail
          refine HLW.out.mono ?_
          rintro e t9 ⟨rfl, y9⟩
          go_wp2
          go_ret
          exact ⟨rfl, belowThen HBW.out (belowThen HB6.out (belowThen Q3.out (belowThen HB2.out y9)))⟩
        | succ go =>
          have hj0 : (0 : Int) ≤ j := by omega
          have hj1 : (j : Int) < l4 := by omega
          have hjl : j < p.funcs.length := by have h2 : p.funcs.length = l4 := HP4.out; omega
          obtain ⟨hjq, eQ⟩ := HQF'.out j hjl
          have hWr := belowThen HB6.out (belowThen Q3.out hb)
          have h5r := belowThen HB56.out (belowThen Q3.out hb)
          obtain ⟨pb, poff, hPA, hplt, hprow⟩ := HPF.out wr hWr (by omega)
          obtain ⟨pg1, pv, pg2, Ac, mm, cc, rfl, hmm, hpr⟩ := hprow j hjl
          obtain ⟨qb, qoff, hQA, hqlt, hqrow⟩ := HQF4.out wr h5r (by omega)
          obtain ⟨qg1, qv, qg2, Bc, mq, dd, rfl, hmq, hqr⟩ := hqrow j hjq
          have hPA : A4 = some ⟨pb, poff, none⟩ := hPA
          have hQA : E4 = some ⟨qb, qoff, none⟩ := hQA
          subst hPA
          subst hQA
          rw [eQ] at hmq hqr
          simp only at hmq hqr
          rw [rwALen, hmm] at hmq
          subst hmq
          have hsh := HSH.out _ (List.getElem_mem hjl)
          rw [hmm] at hsh
          have hpl1 := hpr.le
          have hpm1 := hpr.max
          have hql1 := hqr.le
          have hqm1 := hqr.max
          rw [hmm] at hpl1
          rw [rwALen, hmm] at hql1
          unfold maxLen at hpm1 hqm1
          have HPR := Lib.hid (fun X (hX : Below wr.heap.size wr X) => (hpr.below stabI hX).at_)
          have HQR := Lib.hid (fun X (hX : Below wr.heap.size wr X) => (hqr.below stabI hX).at_)
          have HYES := Lib.hid (fun k h => spGLenYes (F := p.funcs) (n := k) hjl h)
          have HNO := Lib.hid (fun k h => spGLenNo (F := p.funcs) (n := k) hjl h)
          have HZE : Hid ((spG p.funcs j 0).length = (spF p.funcs j).length) := Lib.hid (by rw [spGZero])
          have HEN : Hid ((spG p.funcs j mm).length = (spF p.funcs (j + 1)).length) := Lib.hid (by rw [spGEnd hjl (by omega) (by omega)])
          have HLN := Lib.hid (fun k (hk : k ≤ 100) => spGLen HSH.out (k := j) (n := k) hjl hk)
          obtain ⟨C, hC⟩ : ∃ C, p.funcs[j].2 = C := ⟨_, rfl⟩
          rw [hC] at HPR HQR HYES HNO hmm
          have HMM := Lib.hid hmm
          have HOP := Lib.hid (fun k (hk : k < C.length) h => rwOp hk h)
          have HSM := Lib.hid (fun k (hk : k < C.length) h => rwSame hk h)
          have HJ4 : Hid (p.funcs.length = l4) := Lib.hid HP4.out
          clear hb hWr h5r hprow hqrow hpr hqr hC hmm hplt hqlt
          rename World => wo
          go_wp2_with fail
          go_quiet (fail)
          go_wp2
          go_loopg [10, 14] mm (fun g c i wr => ∃ (k : Nat) (n : Nat), k + g = mm ∧ i = .int .i64 k ∧ c = .int .i64 n ∧ Hid (n = (spG p.funcs j k).length) ∧ Below wo.heap.size wo wr)
          case atStart => exact ⟨0, n, by omega, rfl, rfl, Lib.hid (by rw [HZE.out]; exact HN.out), belowDrewN (Below.refl _ _) _⟩
          case round =>
            obtain ⟨k, n, hkg, rfl, rfl, HNK, hb⟩ := hrel
            have HB3 := Lib.hid hb
            cases gk with
            | zero =>
              have hkn : k = mm := by omega
              subst hkn
              have hjz : ¬ ((k : Int) < k) := by omega
              have HX : Hid (n = (spF p.funcs (j + 1)).length) := Lib.hid (by rw [← HEN.out]; exact HNK.out)
              clear hb
              go_wp2
              go_roundg go
              case measure => omega
              case rel => exact ⟨j + 1, n, by omega, by go_num, rfl, HX, belowThen HB2.out HB3.out⟩
            | succ g2 =>
              have hk0 : (0 : Int) ≤ k := by omega
              have hk1 : (k : Int) < mm := by omega
              have hkC : k < C.length := by rw [HMM.out]; omega
              obtain ⟨b5, o5, eA, _, hx⟩ := HPR.out wr hb (by omega)
              obtain ⟨b6, o6, eB, _, hy⟩ := HQR.out wr hb (by rw [rwALen]; omega)
              have z := hx k hkC
              have y := hy k (by rw [rwALen]; exact hkC)
              subst eA
              subst eB
              have HBN : Hid (∀ q, Below wo.heap.size wo (wr.drewN q)) := Lib.hid fun q => belowDrewN HB3.out q
              have hnb : n ≤ 100 * (j + 1) := by rw [HNK.out]; exact HLN.out k (by omega)
              have HO8 := Lib.hid (HOP.out k hkC)
              have HS8 := Lib.hid (HSM.out k hkC)
              obtain ⟨⟨x0, x1, x2, x3, x4, x5, x6, x7⟩, hl⟩ : ∃ l, C[k] = l := ⟨_, rfl⟩
              obtain ⟨⟨y0, y1, y2, y3, y4, y5, y6, y7⟩, hr⟩ : ∃ r, (rwA C)[k]'(by rw [rwALen]; exact hkC) = r := ⟨_, rfl⟩
              rw [hl] at z HO8 HS8
              rw [hr] at y HO8 HS8
              obtain ⟨c0, c1, c2, c3, c4, c5, c6, c7⟩ := z
              obtain ⟨d0, d1, d2, d3, d4, d5, d6, d7⟩ := y
              simp only at c0 c1 c2 c3 c4 c5 c6 c7 d0 d1 d2 d3 d4 d5 d6 d7
              clear hb hx hy hl hr hkC
              cases hsp : spB C k
              · have e := HS8.out hsp
                have HX : Hid (n = (spG p.funcs j (k + 1)).length) := Lib.hid (by rw [HNO.out k hsp]; exact HNK.out)
                injection e with e0 e1 e2 e3 e4 e5 e6 e7
                subst e0; subst e1; subst e2; subst e3; subst e4; subst e5; subst e6; subst e7
                have HQ := Lib.hid (fun X => eqInstIs y0 y1 y2 y3 y4 y5 y6 y7 y0 y1 y2 y3 y4 y5 y6 y7 X)
                simp only [beq_self_eq_true, Bool.and_self] at HQ
                have hq := HQ.out
                clear hsp HO8 HS8
                go_wp2_with fail
                go_quiet (fail)
                go_wp2
                go_roundg g2
                case measure => omega
                case rel => exact ⟨k + 1, n, by omega, by go_num, rfl, HX, HBN.out _⟩
              · have e := HO8.out hsp
                have HX : Hid (n + 1 = (spG p.funcs j (k + 1)).length) := Lib.hid (by rw [HYES.out k hsp, ← HNK.out])
                obtain ⟨e8, e14⟩ := e
                simp only at e8 e14
                subst e8
                subst e14
                have HQ := Lib.hid (fun X => eqInstIs 8 x1 x2 x3 x4 x5 x6 x7 14 y1 y2 y3 y4 y5 y6 y7 X)
                rw [show ((8 : Int) == 14) = false from rfl] at HQ
                simp only [Bool.false_and] at HQ
                have hq := HQ.out
                clear hsp HO8 HS8
                go_wp2_with fail
                go_quiet (fail)
                go_wp2
                go_roundg g2
                case measure => omega
                case rel => exact ⟨k + 1, n + 1, by omega, by go_num, by go_num, HX, HBN.out _⟩
end Go.Proofs.YtkanamdfjegcbaaDoor
