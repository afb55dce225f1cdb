/-
  The law AwaitFinds returns true for every program, where the tables are laid, given what the specification's Condition gives.
-/
import Derived.Test.YtkanamdfjegcbaaDoorFAwL
import Derived.Test.YtkanamdfjegcbaaDoorFAwFr
namespace Go.Proofs.YtkanamdfjegcbaaDoor
open Go Go.RowKit

set_option maxRecDepth 100000 in
set_option maxHeartbeats 8000000 in
theorem lawFinds (HCO : CondOk) {a : PgA} {p : Prg} (w : World) (hP : PgW w a p) (hWf : p.Wf) (hL : Laid7 w) : Calls Tryd.prog 6 #[a.val] w (LawOkA w) := by
  obtain ⟨W, hW⟩ : ∃ W, w.alloc (.cells a.fs 54) = W := ⟨_, rfl⟩
  have hbW : Below w.heap.size w W := by rw [← hW]; exact belowAlloc w _
  have hk1 : PBox W w.heap.size a := by rw [← hW]; exact Blk.new w _ _
  have HBW := Lib.hid hbW
  have HW := Lib.hid hW
  have HK := Lib.hid (fun X (hX : Below W.heap.size W X) => (hk1.below hX).facts)
  have hpW := hP.below hbW
  have hLW := hL.below hbW
  have H1 := Lib.hid (rSmall W hpW)
  have HLV := Lib.hid (fun X (hX : Below W.heap.size W X) => aLives X (hLW.below hX))
  cases hsm : p.small
  · rw [hsm] at H1
    clear hsm hP hL hW hbW hk1 hpW hLW
    obtain ⟨A1, n1, c1, A2, n2, c2, A3, n3, c3, A4, n4, c4, A5, n5, c5⟩ := a
    simp only [PgA.val, PgA.fs] at *
    obtain ⟨f0, f1, f2, f3, f4⟩ := HK.out W (Below.refl _ _)
    go_enter Tryd.func6, Tryd.ntmps6
    go_wp2_with fail
    rw [HW.out]
    go_wp2_with fail
    refine H1.out.mono ?_
    rintro e w1 ⟨rfl, b1⟩
    clear f0 f1 f2 f3 f4
    go_wp2_with fail
    refine (HLV.out _ b1).mono ?_
    rintro e w2 ⟨rfl, b2⟩
    go_wp2
    go_ret
    exact ⟨rfl, belowThen HBW.out (belowThen b1 b2)⟩
  rw [hsm] at H1
  have HFI := Lib.hid (fun X (hX : Below W.heap.size W X) => iFind X (hpW.below hX) hWf hsm (hLW.below hX).ins (hLW.below hX).nm)
  have HFR := Lib.hid (fun X (hX : Below W.heap.size W X) => rFind14 HCO X (hpW.below hX) hWf hsm)
  unfold GivesN at HFI HFR
  obtain ⟨S, hS⟩ : ∃ S, spR p = S := ⟨_, rfl⟩
  obtain ⟨x, hx⟩ : ∃ x, p.chk.1 = x := ⟨_, rfl⟩
  rw [hS, hx] at HFI HFR
  obtain ⟨n, hn⟩ : ∃ n, S.length = n := ⟨_, rfl⟩
  have HN := Lib.hid hn
  clear hsm hP hL hS hx hn HCO hW hbW hk1 hpW hLW
  obtain ⟨A1, n1, c1, A2, n2, c2, A3, n3, c3, A4, n4, c4, A5, n5, c5⟩ := a
  simp only [PgA.val, PgA.fs] at *
  obtain ⟨f0, f1, f2, f3, f4⟩ := HK.out W (Below.refl _ _)
  go_enter Tryd.func6, Tryd.ntmps6
  go_wp2_with fail
  rw [HW.out]
  go_wp2_with fail
  refine H1.out.mono ?_
  rintro e w1 ⟨rfl, b1⟩
  have HB1 := Lib.hid b1
  have HF1 := Lib.hid (HFI.out w1 b1)
  clear f0 f1 f2 f3 f4
  obtain ⟨f0, f1, f2, f3, f4⟩ := HK.out w1 b1
  clear b1
  go_wp2_with fail
  refine HF1.out.mono ?_
  rintro e w2 ⟨v2, rfl, o2, b2⟩
  obtain ⟨As, cs, rfl, rs⟩ := o2.rd
  rw [HN.out]
  have HR1 := Lib.hid rs
  have hB2 := belowThen HB1.out b2
  have HB2 := Lib.hid hB2
  have HF2 := Lib.hid (HFR.out w2 hB2)
  clear f0 f1 f2 f3 f4
  obtain ⟨f0, f1, f2, f3, f4⟩ := HK.out w2 hB2
  clear b2 hB2 o2 rs HF1
  go_wp2_with fail
  refine HF2.out.mono ?_
  rintro e w3 ⟨v3, rfl, o3, b3⟩
  obtain ⟨At, ct, rfl, rt⟩ := o3.rd
  rw [HN.out]
  have HSA := Lib.hid (rSame14 S S n n HN.out HN.out As At cs ct w3 (HR1.out.below stabSn b3) rt)
  rw [decide_eq_true (rfl : S = S)] at HSA
  have HB3 := Lib.hid (belowThen HB2.out b3)
  clear b3 o3 rt HF2 f0 f1 f2 f3 f4
  go_wp2_with fail
  refine HSA.out.mono ?_
  rintro e w4 ⟨rfl, b4⟩
  have HB4 := Lib.hid (belowThen HB3.out b4)
  have HLV4 := Lib.hid (HLV.out w4 HB4.out)
  clear b4
  go_wp2_with fail
  refine HLV4.out.mono ?_
  rintro e w5 ⟨rfl, b5⟩
  go_wp2
  go_ret
  exact ⟨rfl, belowThen HBW.out (belowThen HB4.out b5)⟩
end Go.Proofs.YtkanamdfjegcbaaDoor
