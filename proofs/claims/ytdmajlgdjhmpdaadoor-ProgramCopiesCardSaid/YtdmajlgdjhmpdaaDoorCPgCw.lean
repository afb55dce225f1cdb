/-
  The law ProgramCopies returns true for every two programs, where the tables are laid.
-/
import Derived.Test.YtdmajlgdjhmpdaaDoorCPgCl
import Derived.Deep.RegionHeld3
namespace Go.Proofs.YtdmajlgdjhmpdaaDoor
open Go Go.RowKit

def LawOkP (w : World) (e : Ending) (w' : World) : Prop := e = .returned (.bool true) ∧ Below w.heap.size w w'
set_option maxRecDepth 100000 in
set_option maxHeartbeats 8000000 in
theorem lawCopiesP {a b : PgA} {p q : Prg} (w : World) (hP : PgW w a p) (hQ : PgW w b q) (hL : Laid7 w) : Calls Tryd.prog 3 #[a.val, b.val] w (LawOkP w) := by
  obtain ⟨W, hW⟩ : ∃ W, (w.alloc (.cells a.fs 27)).alloc (.cells b.fs 27) = W := ⟨_, rfl⟩
  have hbW : Below w.heap.size w W := by rw [← hW]; exact belowThen (belowAlloc _ _) (belowAlloc _ _)
  have hk1 : PBox W w.heap.size a := by rw [← hW]; exact (Blk.new w _ _).alloc _
  have hk2 : PBox W (w.heap.size + 1) b := by rw [← hW]; exact Blk.new1 w _ _ _
  have HBW := Lib.hid hbW
  have HW := Lib.hid hW
  have HK := Lib.hid (fun X (hX : Below W.heap.size W X) => (hk1.below hX).facts)
  have HK2 := Lib.hid (fun X (hX : Below W.heap.size W X) => (hk2.below hX).facts)
  have hpW := hP.below hbW
  have hqW := hQ.below hbW
  have hLW := hL.below hbW
  have H1 := Lib.hid (fun X (hX : Below W.heap.size W X) => rSmall X (hpW.below hX))
  have H2 := Lib.hid (fun X (hX : Below W.heap.size W X) => rSmall X (hqW.below hX))
  have HLV := Lib.hid (fun X (hX : Below W.heap.size W X) => livesP X (hLW.below hX))
  cases hsm : p.small
  · rw [hsm] at H1
    obtain ⟨A1, n1, c1, A2, n2, c2, A3, n3, c3, A4, n4, c4, A5, n5, c5⟩ := a
    obtain ⟨B1, m1, d1, B2, m2, d2, B3, m3, d3, B4, m4, d4, B5, m5, d5⟩ := b
    obtain ⟨f0, f1, f2, f3, f4⟩ := HK.out W (Below.refl _ _)
    simp only [PgA.val, PgA.fs] at *
    clear hsm hP hQ hL hk1 hk2 hbW hW hpW hqW hLW
    go_enter Tryd.func3, Tryd.ntmps3
    go_wp2_with fail
    rw [HW.out]
    go_wp2_with fail
    refine (H1.out _ (Below.refl _ _)).mono ?_
    rintro e w1 ⟨rfl, b1⟩
    clear f0 f1 f2 f3 f4
    go_wp2_with fail
    refine (HLV.out _ b1).mono ?_
    rintro e w2 ⟨rfl, b2⟩
    go_wp2
    go_ret
    exact ⟨rfl, belowThen HBW.out (belowThen b1 b2)⟩
  cases hsq : q.small
  · rw [hsm] at H1
    rw [hsq] at H2
    obtain ⟨A1, n1, c1, A2, n2, c2, A3, n3, c3, A4, n4, c4, A5, n5, c5⟩ := a
    obtain ⟨B1, m1, d1, B2, m2, d2, B3, m3, d3, B4, m4, d4, B5, m5, d5⟩ := b
    obtain ⟨f0, f1, f2, f3, f4⟩ := HK.out W (Below.refl _ _)
    simp only [PgA.val, PgA.fs] at *
    clear hsm hsq hP hQ hL hk1 hk2 hbW hW hpW hqW hLW
    go_enter Tryd.func3, Tryd.ntmps3
    go_wp2_with fail
    rw [HW.out]
    go_wp2_with fail
    refine (H1.out _ (Below.refl _ _)).mono ?_
    rintro e w1 ⟨rfl, b1⟩
    clear f0 f1 f2 f3 f4
    obtain ⟨f0, f1, f2, f3, f4⟩ := HK2.out w1 b1
    go_wp2_with fail
    refine (H2.out _ b1).mono ?_
    rintro e w2 ⟨rfl, b2⟩
    clear f0 f1 f2 f3 f4
    have B2' := belowThen b1 b2
    go_wp2_with fail
    refine (HLV.out _ B2').mono ?_
    rintro e w3 ⟨rfl, b3⟩
    go_wp2
    go_ret
    exact ⟨rfl, belowThen HBW.out (belowThen B2' b3)⟩
  rw [hsm] at H1
  rw [hsq] at H2
  have few := fewOf hsm
  have HC := Lib.hid (fun X (hX : Below W.heap.size W X) => iClone8 p a X (hpW.below hX) (by have := hP.l1; omega) (by have := hP.l2; omega) (by have := hP.l3; omega) (by have := hP.l4; omega) (by have := hP.l5; omega) (fun f hf => by have := shortOf hsm f hf; omega))
  have HD := Lib.hid (fun X (hX : Below W.heap.size W X) => rClone8 p a X (hpW.below hX) (by have := hP.l1; omega) (by have := hP.l2; omega) (by have := hP.l3; omega) (by have := hP.l4; omega) (by have := hP.l5; omega) (fun f hf => by have := shortOf hsm f hf; omega))
  have HPab := Lib.hid (fun X (hX : Below W.heap.size W X) => iEqual X (hpW.below hX) (hqW.below hX))
  have HRab := Lib.hid (fun X (hX : Below W.heap.size W X) => rEqual X (hpW.below hX) (hqW.below hX))
  have HS1 := Lib.hid (fun X (hX : Below W.heap.size W X) => iSize X (hpW.below hX) (sizeOf8 hsm))
  have HS2 := Lib.hid (fun X (hX : Below W.heap.size W X) => rSize8 X (hpW.below hX) (sizeOf8 hsm))
  have HPW := Lib.hid hpW
  obtain ⟨A1, n1, c1, A2, n2, c2, A3, n3, c3, A4, n4, c4, A5, n5, c5⟩ := a
  obtain ⟨B1, m1, d1, B2, m2, d2, B3, m3, d3, B4, m4, d4, B5, m5, d5⟩ := b
  obtain ⟨f0, f1, f2, f3, f4⟩ := HK.out W (Below.refl _ _)
  simp only [PgA.val, PgA.fs] at *
  clear few hsm hsq hP hQ hL hk1 hk2 hbW hW hpW hqW hLW
  go_enter Tryd.func3, Tryd.ntmps3
  go_wp2_with fail
  rw [HW.out]
  go_wp2_with fail
  refine (H1.out _ (Below.refl _ _)).mono ?_
  rintro e w1 ⟨rfl, b1⟩
  clear f0 f1 f2 f3 f4
  obtain ⟨f0, f1, f2, f3, f4⟩ := HK2.out w1 b1
  go_wp2_with fail
  refine (H2.out _ b1).mono ?_
  rintro e w2 ⟨rfl, b2⟩
  clear f0 f1 f2 f3 f4
  have b2' := belowThen b1 b2
  obtain ⟨f0, f1, f2, f3, f4⟩ := HK.out w2 b2'
  go_wp2_with fail
  refine (HC.out _ b2').mono ?_
  rintro e w3 ⟨c, rfl, b3, hc⟩
  clear f0 f1 f2 f3 f4
  have B3' := Lib.hid (belowThen b2' b3)
  obtain ⟨D1, k1, e1, D2, k2, e2, D3, k3, e3, D4, k4, e4, D5, k5, e5⟩ := c
  have HCc := Lib.hid hc
  have HB2 := Lib.hid b2'
  clear b1 b2 b2' b3 hc
  obtain ⟨Z1, hZ1⟩ : ∃ Z1, w3.alloc (.cells #[.slice D1 k1 e1, .slice D2 k2 e2, .slice D3 k3 e3, .slice D4 k4 e4, .slice D5 k5 e5] 27) = Z1 := ⟨_, rfl⟩
  have hZw : Below w3.heap.size w3 Z1 := by rw [← hZ1]; exact belowAlloc _ _
  have hZ : Below W.heap.size W Z1 := belowThen B3'.out hZw
  have hZG : PBox Z1 w3.heap.size ⟨D1, k1, e1, D2, k2, e2, D3, k3, e3, D4, k4, e4, D5, k5, e5⟩ := by rw [← hZ1]; exact Blk.new _ _ _
  have hcZ := HCc.out.below hZw
  have HE1 := Lib.hid (fun X (hX : Below Z1.heap.size Z1 X) => rEqual X (hcZ.pg.below hX) (HPW.out.below (belowThen hZ hX)))
  have HE2 := Lib.hid (fun X (hX : Below Z1.heap.size Z1 X) => HPab.out X (belowThen hZ hX))
  have HE3 := Lib.hid (fun X (hX : Below Z1.heap.size Z1 X) => HRab.out X (belowThen hZ hX))
  have HE4 := Lib.hid (fun X (hX : Below Z1.heap.size Z1 X) => iEqual X (HPW.out.below (belowThen hZ hX)) (hcZ.pg.below hX))
  have HE5 := Lib.hid (fun X (hX : Below Z1.heap.size Z1 X) => HS1.out X (belowThen hZ hX))
  have HE6 := Lib.hid (fun X (hX : Below Z1.heap.size Z1 X) => HS2.out X (belowThen hZ hX))
  have HDZ := Lib.hid (fun X (hX : Below Z1.heap.size Z1 X) => HD.out X (belowThen hZ hX))
  rw [eqPSelf] at HE1 HE4
  generalize eqP p q = r at HE2 HE3
  generalize (p.size : Int) = sz at HE5 HE6
  have HSS := Lib.hid (fun X (hX : Below Z1.heap.size Z1 X) => (by
    obtain ⟨a1, a2, a3, a4, a5⟩ := HK.out X (belowThen hZ hX)
    obtain ⟨b1, b2, b3, b4, b5⟩ := HK2.out X (belowThen hZ hX)
    obtain ⟨c1, c2, c3, c4, c5⟩ := (hZG.below hX).facts
    exact ⟨hX, a1, a2, a3, a4, a5, b1, b2, b3, b4, b5, c1, c2, c3, c4, c5⟩ : Below Z1.heap.size Z1 X ∧ X.cell? ⟨w.heap.size, 0, none⟩ = some (.slice A1 n1 c1) ∧ X.cell? ⟨w.heap.size, 1, none⟩ = some (.slice A2 n2 c2) ∧ X.cell? ⟨w.heap.size, 2, none⟩ = some (.slice A3 n3 c3) ∧ X.cell? ⟨w.heap.size, 3, none⟩ = some (.slice A4 n4 c4) ∧ X.cell? ⟨w.heap.size, 4, none⟩ = some (.slice A5 n5 c5)
      ∧ X.cell? ⟨w.heap.size + 1, 0, none⟩ = some (.slice B1 m1 d1) ∧ X.cell? ⟨w.heap.size + 1, 1, none⟩ = some (.slice B2 m2 d2) ∧ X.cell? ⟨w.heap.size + 1, 2, none⟩ = some (.slice B3 m3 d3) ∧ X.cell? ⟨w.heap.size + 1, 3, none⟩ = some (.slice B4 m4 d4) ∧ X.cell? ⟨w.heap.size + 1, 4, none⟩ = some (.slice B5 m5 d5)
      ∧ X.cell? ⟨w3.heap.size, 0, none⟩ = some (.slice D1 k1 e1) ∧ X.cell? ⟨w3.heap.size, 1, none⟩ = some (.slice D2 k2 e2) ∧ X.cell? ⟨w3.heap.size, 2, none⟩ = some (.slice D3 k3 e3) ∧ X.cell? ⟨w3.heap.size, 3, none⟩ = some (.slice D4 k4 e4) ∧ X.cell? ⟨w3.heap.size, 4, none⟩ = some (.slice D5 k5 e5)))
  have HZ := Lib.hid hZ
  have HZw := Lib.hid hZw
  have HZG := Lib.hid hZG
  have HcZ := Lib.hid hcZ
  have HS0 := HSS.out Z1.drew ((Below.refl _ Z1).drew)
  simp only [PgA.val, PgA.fs] at HE1 HE4
  clear hZ hZw hZG hcZ HPab HRab HS1 HS2 HC HD H1 H2
  go_wp2_with fail
  try rw [hZ1]
  clear hZ1
  go_region_held3 (fun X => Below Z1.heap.size Z1 X ∧ X.cell? ⟨w.heap.size, 0, none⟩ = some (.slice A1 n1 c1) ∧ X.cell? ⟨w.heap.size, 1, none⟩ = some (.slice A2 n2 c2) ∧ X.cell? ⟨w.heap.size, 2, none⟩ = some (.slice A3 n3 c3) ∧ X.cell? ⟨w.heap.size, 3, none⟩ = some (.slice A4 n4 c4) ∧ X.cell? ⟨w.heap.size, 4, none⟩ = some (.slice A5 n5 c5)
      ∧ X.cell? ⟨w.heap.size + 1, 0, none⟩ = some (.slice B1 m1 d1) ∧ X.cell? ⟨w.heap.size + 1, 1, none⟩ = some (.slice B2 m2 d2) ∧ X.cell? ⟨w.heap.size + 1, 2, none⟩ = some (.slice B3 m3 d3) ∧ X.cell? ⟨w.heap.size + 1, 3, none⟩ = some (.slice B4 m4 d4) ∧ X.cell? ⟨w.heap.size + 1, 4, none⟩ = some (.slice B5 m5 d5)
      ∧ X.cell? ⟨w3.heap.size, 0, none⟩ = some (.slice D1 k1 e1) ∧ X.cell? ⟨w3.heap.size, 1, none⟩ = some (.slice D2 k2 e2) ∧ X.cell? ⟨w3.heap.size, 2, none⟩ = some (.slice D3 k3 e3) ∧ X.cell? ⟨w3.heap.size, 3, none⟩ = some (.slice D4 k4 e4) ∧ X.cell? ⟨w3.heap.size, 4, none⟩ = some (.slice D5 k5 e5)) (first | assumption | exact HSS.out _ (by assumption)) (first
    | (go_at_call 7; refine (HE1.out _ (‹Below Z1.heap.size Z1 _ ∧ _›).1).mono ?_; rintro e u1 ⟨rfl, y1⟩; have q1 := belowThen (‹Below Z1.heap.size Z1 _ ∧ _›).1 y1; clear HE1)
    | (go_at_call 8; refine (HE2.out _ (‹Below Z1.heap.size Z1 _ ∧ _›).1).mono ?_; rintro e u2 ⟨rfl, y2⟩; have q2 := belowThen (‹Below Z1.heap.size Z1 _ ∧ _›).1 y2; clear HE2)
    | (go_at_call 7; refine (HE3.out _ (‹Below Z1.heap.size Z1 _ ∧ _›).1).mono ?_; rintro e u3 ⟨rfl, y3⟩; have q3 := belowThen (‹Below Z1.heap.size Z1 _ ∧ _›).1 y3; clear HE3)
    | (go_at_call 8; refine (HE4.out _ (‹Below Z1.heap.size Z1 _ ∧ _›).1).mono ?_; rintro e u4 ⟨rfl, y4⟩; have q4 := belowThen (‹Below Z1.heap.size Z1 _ ∧ _›).1 y4; clear HE4)
    | (go_at_call 9; refine (HE5.out _ (‹Below Z1.heap.size Z1 _ ∧ _›).1).mono ?_; rintro e u5 ⟨rfl, y5⟩; have q5 := belowThen (‹Below Z1.heap.size Z1 _ ∧ _›).1 y5; clear HE5)
    | (go_at_call 10; refine (HE6.out _ (‹Below Z1.heap.size Z1 _ ∧ _›).1).mono ?_; rintro e u6 ⟨rfl, y6⟩; have q6 := belowThen (‹Below Z1.heap.size Z1 _ ∧ _›).1 y6; clear HE6))
  have Q6 := Lib.hid q6
  clear q1 q2 q3 q4 q5 q6 y1 y2 y3 y4 y5 y6 HS0 HSS
  obtain ⟨f0, f1, f2, f3, f4⟩ := HK.out u6 (belowThen HZ.out Q6.out)
  go_wp2_with fail
  refine (HDZ.out _ Q6.out).mono ?_
  rintro e v7 ⟨dd, rfl, b7, hd⟩
  obtain ⟨E1, l1, g1, E2, l2, g2, E3, l3, g3, E4, l4, g4, E5, l5, g5⟩ := dd
  obtain ⟨Z2, hZ2⟩ : ∃ Z2, v7.alloc (.cells #[.slice E1 l1 g1, .slice E2 l2 g2, .slice E3 l3 g3, .slice E4 l4 g4, .slice E5 l5 g5] 27) = Z2 := ⟨_, rfl⟩
  have hv7 : Below v7.heap.size v7 Z2 := by rw [← hZ2]; exact belowAlloc _ _
  have hvG : PBox Z2 v7.heap.size ⟨E1, l1, g1, E2, l2, g2, E3, l3, g3, E4, l4, g4, E5, l5, g5⟩ := by rw [← hZ2]; exact Blk.new _ _ _
  have hZ12 := belowThen (belowThen Q6.out b7) hv7
  have hw32 : Below w3.heap.size w3 Z2 := belowThen HZw.out hZ12
  have hW2 : Below W.heap.size W Z2 := belowThen HZ.out hZ12
  have hCG : PBox Z2 w3.heap.size ⟨D1, k1, e1, D2, k2, e2, D3, k3, e3, D4, k4, e4, D5, k5, e5⟩ := HZG.out.below hZ12
  have hd2 := hd.below hv7
  obtain ⟨b4, o4, h4⟩ := at4Ex HCc.out
  have HL4 := Lib.hid HCc.out.pg.l4
  have HL1 := Lib.hid HCc.out.pg.l1
  have HL5 := Lib.hid HCc.out.pg.l5
  have hlo : W.heap.size ≤ w2.heap.size := HB2.out.size
  have hhi : w3.heap.size ≤ u6.heap.size := Nat.le_trans HZw.out.size Q6.out.size
  have hhi7 : w3.heap.size ≤ v7.heap.size := Nat.le_trans hhi b7.size
  -- what every world on the way gives
  have HBx := Lib.hid (fun Y (hY : Md w2.heap.size w3.heap.size b4 o4 Z2 Y) => (PBox.facts (show PBox Y w3.heap.size ⟨D1, k1, e1, D2, k2, e2, D3, k3, e3, D4, k4, e4, D5, k5, e5⟩ from (hY.out _ (.inr (Nat.le_refl _))).trans hCG)))
  have HPUT := Lib.hid (fun Y (hY : Md w2.heap.size w3.heap.size b4 o4 Z2 Y) t cur e (ht : Blk Y t e cur) h1 h2 he i v => hY.put hw32 h4 (t := t) (cur := cur) (e := e) ht h1 h2 he i v)
  have HFN := Lib.hid (fun Y (hY : Md w2.heap.size w3.heap.size b4 o4 Z2 Y) k (hk : k < p.funcs.length) => hY.fnAt hw32 (h4.fn (by have := HL4.out; simp only at this ⊢; omega)) hk HL4.out)
  have HADR := Lib.hid (fun (h : 0 < k4) => (h4.fn h).adr)
  have HLO4 := Lib.hid (fun (h : 0 < k4) => (h4.fn h).lo)
  have HROW := Lib.hid (fun Y (hY : Md w2.heap.size w3.heap.size b4 o4 Z2 Y) A m e (hf : FreshRow w3 w2.heap.size A m e) hm => hY.row hw32 hf hm)
  have HF1 := Lib.hid HCc.out.f1
  have HF5 := Lib.hid HCc.out.f5
  have HEND := Lib.hid (fun Y (hY : Md w2.heap.size w3.heap.size b4 o4 Z2 Y) => rEqual Y (HPW.out.below (hY.below hW2 hlo)) (hd2.keep (by rw [hY.size]; exact Nat.le_refl _) (fun b hb _ => hY.out b (.inr (Nat.le_trans hhi hb)))).pg)
  rw [eqPSelf] at HEND
  have HENDB := Lib.hid (fun Y (hY : Md w2.heap.size w3.heap.size b4 o4 Z2 Y) => hY.below hW2 hlo)
  have HBA := Lib.hid (fun Y (hY : Md w2.heap.size w3.heap.size b4 o4 Z2 Y) => HK.out Y (hY.below hW2 hlo))
  have HBD := Lib.hid (fun Y (hY : Md w2.heap.size w3.heap.size b4 o4 Z2 Y) => (PBox.facts (show PBox Y v7.heap.size ⟨E1, l1, g1, E2, l2, g2, E3, l3, g3, E4, l4, g4, E5, l5, g5⟩ from (hY.out _ (.inr hhi7)).trans hvG)))
  have hmd0 := Md.refl w2.heap.size w3.heap.size b4 o4 Z2
  have hle := HCc.out.pg
  have hle1 := hle.vars.le
  have hle5 := hle.thr.le
  have hmx1 := hle.vars.max
  have hmx5 := hle.thr.max
  have hle4 := hle.funcs.le
  have hmx4 := hle.funcs.max
  rw [HL1.out] at hle1
  rw [HL4.out] at hle4
  rw [HL5.out] at hle5
  simp only [PgA.val, PgA.fs] at HEND HADR hle1 hle5 hle4 hmx1 hmx5 hmx4 HL1 HL4 HL5 HF1 HF5
  simp only at HBx HBD HBA
  unfold maxLen at hmx1 hmx5 hmx4
  clear hle hd hd2 hCG hw32 hW2 hvG hv7 hZ12 b7 h4 f0 f1 f2 f3 f4 hlo hhi hhi7 HDZ Q6 HZG HcZ HZ HZw HB2 HPW HK HK2 HCc
  have HM0 := Lib.hid hmd0
  clear hmd0
  go_wp2_with fail
  go_loopw [7] (fun i Y => ∃ k : Nat, k ≤ k4 ∧ i = .int .i64 k ∧ Md w2.heap.size w3.heap.size b4 o4 Z2 Y) (fun i _ => k4 - (intOf i).toNat)
  case atStart => exact ⟨0, Nat.zero_le _, rfl, HM0.out⟩
  case round =>
    obtain ⟨k, hk, rfl, hY⟩ := hrel
    obtain ⟨x0, x1, x2, x3, x4⟩ := HBx.out wr hY
    by_cases hlt : k < k4
    · have hkl : k < p.funcs.length := by have := HL4.out; omega
      obtain ⟨cur, v0, B, m, d, hBk, hlt4, q1, q2, hmd, hdm, hfr⟩ := HFN.out wr hY k hkl
      have hadr := HADR.out (by omega)
      subst hadr
      have HQ2 := Lib.hid (fun X (hX : Md w2.heap.size w3.heap.size b4 o4 Z2 X) => ((hX.code k).trans ((hY.code k).symm.trans q2) : X.cell? ⟨b4, o4 + k * 2 + 1, none⟩ = some (.slice B m d)))
      have hz := hBk.frozen (o4 + k * 2)
      have HY2 := Lib.hid (fun v => hY.set (v := v) (i := o4 + k * 2) hBk (HLO4.out (by omega)) hlt4 (fun _ j => by omega))
      have HFR := Lib.hid hfr
      have hk0 : (0 : Int) ≤ k := by omega
      have hk1 : (k : Int) < k4 := by omega
      unfold maxLen at hdm
      clear hBk q2 hfr hY hkl
      go_wp2_with fail
      go_loopw [8] (fun i Y => ∃ j : Nat, j ≤ m ∧ i = .int .i64 j ∧ Md w2.heap.size w3.heap.size b4 o4 Z2 Y) (fun i _ => m - (intOf i).toNat)
      case atStart => exact ⟨0, Nat.zero_le _, rfl, HY2.out _⟩
      case round =>
        clear x0 x1 x2 x3 x4 q1 hz
        obtain ⟨j, hj, rfl, hX⟩ := hrel
        obtain ⟨x0, x1, x2, x3, x4⟩ := HBx.out _ hX
        have q2 := HQ2.out _ hX
        by_cases hlt2 : j < m
        · obtain ⟨g, o, cur2, ho, hB, hg1, hg2, hBg, hsz⟩ := HROW.out _ hX B (m * 8) _ HFR.out (by omega)
          subst hB
          obtain ⟨v9, q9⟩ := blkSome hBg (i := o + j * 8 + 5) (by omega)
          have hz9 := hBg.frozen (o + j * 8 + 5)
          have HX2 := Lib.hid (HPUT.out _ hX g cur2 _ hBg hg1 hg2 (by decide) (o + j * 8 + 5) (.int .i64 77))
          have hj0 : (0 : Int) ≤ j := by omega
          have hj1 : (j : Int) < m := by omega
          clear hBg hsz ho
          go_wp2
          go_roundw
          case rel => exact ⟨j + 1, by omega, by go_num, HX2.out⟩
          case measure => simp [intOf]; omega
        · go_wp2
          go_roundw
          case rel => exact ⟨k + 1, by omega, by go_num, hX⟩
          case measure => simp [intOf]; omega
    · go_wp2_with fail
      go_loopw [9] (fun i Y => ∃ k : Nat, k ≤ k1 ∧ i = .int .i64 k ∧ Md w2.heap.size w3.heap.size b4 o4 Z2 Y) (fun i _ => k1 - (intOf i).toNat)
      case atStart => exact ⟨0, Nat.zero_le _, rfl, hY⟩
      case round =>
        clear hY x0 x1 x2 x3 x4
        obtain ⟨k, hk, rfl, hY⟩ := hrel
        obtain ⟨x0, x1, x2, x3, x4⟩ := HBx.out wr hY
        by_cases hlt : k < k1
        · obtain ⟨g, o, cur2, ho, hB, hg1, hg2, hBg, hsz⟩ := HROW.out wr hY D1 (k1 * 2) _ HF1.out (by omega)
          subst hB
          obtain ⟨v9, q9⟩ := blkSome hBg (i := o + k * 2 + 1) (by omega)
          have hz9 := hBg.frozen (o + k * 2 + 1)
          have HX2 := Lib.hid (HPUT.out wr hY g cur2 _ hBg hg1 hg2 (by decide) (o + k * 2 + 1) (.int .i64 77))
          have hk0 : (0 : Int) ≤ k := by omega
          have hk1 : (k : Int) < k1 := by omega
          clear hBg hsz ho
          go_wp2
          go_roundw
          case rel => exact ⟨k + 1, by omega, by go_num, HX2.out⟩
          case measure => simp [intOf]; omega
        · go_wp2_with fail
          go_loopw [10] (fun i Y => ∃ k : Nat, k ≤ k5 ∧ i = .int .i64 k ∧ Md w2.heap.size w3.heap.size b4 o4 Z2 Y) (fun i _ => k5 - (intOf i).toNat)
          case atStart => exact ⟨0, Nat.zero_le _, rfl, hY⟩
          case round =>
            clear hY x0 x1 x2 x3 x4
            obtain ⟨k, hk, rfl, hY⟩ := hrel
            obtain ⟨x0, x1, x2, x3, x4⟩ := HBx.out wr hY
            by_cases hlt : k < k5
            · obtain ⟨g, o, cur2, ho, hB, hg1, hg2, hBg, hsz⟩ := HROW.out wr hY D5 (k5 * 2) _ HF5.out (by omega)
              subst hB
              obtain ⟨v9, q9⟩ := blkSome hBg (i := o + k * 2 + 1) (by omega)
              have hz9 := hBg.frozen (o + k * 2 + 1)
              have HX2 := Lib.hid (HPUT.out wr hY g cur2 _ hBg hg1 hg2 (by decide) (o + k * 2 + 1) (.int .i64 77))
              have hk0 : (0 : Int) ≤ k := by omega
              have hk1 : (k : Int) < k5 := by omega
              clear hBg hsz ho
              go_wp2
              go_roundw
              case rel => exact ⟨k + 1, by omega, by go_num, HX2.out⟩
              case measure => simp [intOf]; omega
            · obtain ⟨f0, f1, f2, f3, f4⟩ := HBA.out wr hY
              obtain ⟨r0, r1, r2, r3, r4⟩ := HBD.out wr hY
              go_wp2_with fail
              refine (HEND.out _ hY).mono ?_
              rintro e u9 ⟨rfl, bu⟩
              clear f0 f1 f2 f3 f4 r0 r1 r2 r3 r4 x0 x1 x2 x3 x4
              have bu2 := belowThen (HENDB.out wr hY) bu
              go_wp2_with fail
              refine (HLV.out _ bu2).mono ?_
              rintro e u10 ⟨rfl, bl⟩
              go_wp2
              go_ret
              exact ⟨rfl, belowThen HBW.out (belowThen bu2 bl)⟩
end Go.Proofs.YtdmajlgdjhmpdaaDoor
