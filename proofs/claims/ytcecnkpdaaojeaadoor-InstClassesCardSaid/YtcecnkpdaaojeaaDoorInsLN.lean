/-
  The laws InstNames and InstClasses return true for every operation, order and string, where the tables are laid; nothing that was in memory changes.
-/
import Derived.Test.YtcecnkpdaaojeaaDoorInsE
namespace Go.Proofs.YtcecnkpdaaojeaaDoor
open Go Go.RowKit

def LawOk7 (w : World) (e : Ending) (w' : World) : Prop := e = .returned (.bool true) ∧ Below w.heap.size w w'
theorem iVisN (o : Int) (r : Bool) (h : visB o = r) (w : World) : Calls Tryd.prog 47 #[.int .i64 o] w fun e w' => e = .returned (.bool r) ∧ w = w' := by subst h; exact iVis o w
theorem rVisN (o : Int) (r : Bool) (h : visB o = r) (w : World) : Calls Tryd.prog 48 #[.int .i64 o] w fun e w' => e = .returned (.bool r) ∧ w = w' := by subst h; exact rVis o w
theorem iDrnN (o : Int) (r : Bool) (h : drnB o = r) (w : World) : Calls Tryd.prog 49 #[.int .i64 o] w fun e w' => e = .returned (.bool r) ∧ w = w' := by subst h; exact iDrn o w
theorem rDrnN (o : Int) (r : Bool) (h : drnB o = r) (w : World) : Calls Tryd.prog 50 #[.int .i64 o] w fun e w' => e = .returned (.bool r) ∧ w = w' := by subst h; exact rDrn o w

set_option maxRecDepth 100000 in
set_option maxHeartbeats 1000000 in
theorem lawNames7 (op o : Int) (s : ByteArray) (w : World) (hL : Laid8 w) :
    Calls Tryd.prog 11 #[.int .i64 op, .int .i64 o, .string s] w (LawOk7 w) := by
  obtain ⟨k, b, hF⟩ := FndT.any mn 1 22 s
  obtain ⟨k2, b2, hG⟩ := FndT.any orn 0 2 s
  obtain ⟨v, hv⟩ : ∃ v, visB op = v := ⟨_, rfl⟩
  obtain ⟨d, hd⟩ : ∃ v, drnB op = v := ⟨_, rfl⟩
  obtain ⟨m, hm⟩ : ∃ v, mnOf op = v := ⟨_, rfl⟩
  obtain ⟨r, hr⟩ : ∃ v, ornOf o = v := ⟨_, rfl⟩
  have HF := Lib.hid hF
  have HG := Lib.hid hG
  have HV := Lib.hid hv
  have HD := Lib.hid hd
  have HM := Lib.hid hm
  have HR := Lib.hid hr
  have HL := Lib.hid hL
  clear hF hG hv hd hm hr hL
  go_enter Tryd.func11, Tryd.ntmps11
  go_wp2_with fail
  refine (iByMn s k b HF.out _ HL.out.l7.ins).mono ?_
  rintro e w' ⟨rfl, rfl⟩
  go_wp2_with fail
  refine (rByMn s k b HF.out _).mono ?_
  rintro e w1 ⟨rfl, b1⟩
  have HL := Lib.hid (HL.out.below b1)
  go_wp2_with fail
  refine (iByOr s k2 b2 HG.out _ HL.out.ord).mono ?_
  rintro e w' ⟨rfl, rfl⟩
  go_wp2_with fail
  refine (rByOr s k2 b2 HG.out _).mono ?_
  rintro e w2 ⟨rfl, b2'⟩
  have B2 := belowThen b1 b2'
  have HL := Lib.hid (HL.out.below b2')
  go_wp2_with fail
  refine (awakeOk _ HL.out.l7).mono ?_
  rintro e w3 ⟨rfl, b3⟩
  have B3 := belowThen B2 b3
  have HL := Lib.hid (HL.out.below b3)
  go_wp2_with fail
  refine (iVisN op v HV.out _).mono ?_
  rintro e w' ⟨rfl, rfl⟩
  go_wp2_with fail
  refine (rVisN op v HV.out _).mono ?_
  rintro e w' ⟨rfl, rfl⟩
  go_wp2_with fail
  refine (iDrnN op d HD.out _).mono ?_
  rintro e w' ⟨rfl, rfl⟩
  go_wp2_with fail
  refine (rDrnN op d HD.out _).mono ?_
  rintro e w' ⟨rfl, rfl⟩
  go_wp2_with fail
  refine (iMnem op m HM.out _ HL.out.l7.ins).mono ?_
  rintro e w' ⟨rfl, rfl⟩
  go_wp2_with fail
  refine (rMnem op m HM.out _).mono ?_
  rintro e w4 ⟨rfl, b4⟩
  have B4 := belowThen B3 b4
  have HL := Lib.hid (HL.out.below b4)
  go_wp2_with fail
  refine (iOrd o r HR.out _ HL.out.ord).mono ?_
  rintro e w' ⟨rfl, rfl⟩
  go_wp2_with fail
  refine (rOrd o r HR.out _).mono ?_
  rintro e w5 ⟨rfl, b5⟩
  have B5 := belowThen B4 b5
  go_wp2
  go_ret
  exact ⟨by simp, B5⟩
end Go.Proofs.YtcecnkpdaaojeaaDoor
