/-
  The law InstCheck returns true for every instruction, where the tables are laid; nothing that was in memory changes.
-/
import Derived.Test.YtcecnkpdaaojeaaDoorInsLN
namespace Go.Proofs.YtcecnkpdaaojeaaDoor
open Go Go.RowKit

theorem usesG (i : I8) (r : List Int) (k : Nat) (hk : r.length = k) (hr : i.uses = r) (hi : i.Wf) (w : World) (hT : InsT w) (hN : Nm w) :
    Calls Tryd.prog 41 #[i.val] w fun e w' => ∃ A c, e = .returned (.slice A k c) ∧ Rd w' A c r ∧ Below w.heap.size w w' := by subst hk; exact iUses i r hr hi w hT hN
theorem usesR (i : I8) (r : List Int) (k : Nat) (hk : r.length = k) (hr : i.uses = r) (w : World) :
    Calls Tryd.prog 42 #[i.val] w fun e w' => ∃ A c, e = .returned (.slice A k c) ∧ Rd w' A c r ∧ Below w.heap.size w w' := by subst hk; exact rUses i r hr w
set_option maxRecDepth 100000 in
set_option maxHeartbeats 4000000 in
theorem lawCheck (i : I8) (hi : i.Wf) (w : World) (hL : Laid7 w) :
    Calls Tryd.prog 10 #[i.val] w (LawOk7 w) := by
  obtain ⟨op, a, b, c, obj, n, fn, ord⟩ := i
  obtain ⟨W0, hW0, hbW0, hzW0, hbox0⟩ := boxNew w op a b c obj n fn ord
  obtain ⟨c0, c1, c2, c3, c4, c5, c6, c7⟩ := boxFactsW hbox0
  obtain ⟨d, hd⟩ : ∃ d, (I8.mk8 op a b c obj n fn ord).dfR = d := ⟨_, rfl⟩
  obtain ⟨p, hp⟩ : ∃ d, (I8.mk8 op a b c obj n fn ord).dfB = d := ⟨_, rfl⟩
  obtain ⟨x, hx⟩ : ∃ d, (I8.mk8 op a b c obj n fn ord).chk = d := ⟨_, rfl⟩
  obtain ⟨u, hu⟩ : ∃ d, (I8.mk8 op a b c obj n fn ord).uses = d := ⟨_, rfl⟩
  obtain ⟨k, hk⟩ : ∃ k, u.length = k := ⟨_, rfl⟩
  have hv : (I8.mk8 op a b c obj n fn ord).val = .agg #[.int .i64 op, .int .i64 a, .int .i64 b, .int .i64 c, .int .i64 obj, .int .i64 n, .int .i64 fn, .int .i64 ord] := rfl
  have HD := Lib.hid (iDefs _ d p hd hp hi)
  have HR := Lib.hid (rDefs _ d p hd hp)
  have HC := Lib.hid (iCheck _ x hx hi)
  have HE := Lib.hid (rCheck _ x hx)
  have HU := Lib.hid (usesG _ u k hk hu hi)
  have HV := Lib.hid (usesR _ u k hk hu)
  have HI := Lib.hid (fun A B c d w => intsEq7 u k k hk hk A B c d w)
  have HL := Lib.hid (hL.below hbW0)
  have HM := Lib.hid hbox0
  rw [hv] at HD HR HC HE HU HV ⊢
  clear hbox0 hd hp hx hu hk hi hL hv
  go_enter Tryd.func10, Tryd.ntmps10
  go_wp2_with fail
  refine (HD.out _ HL.out.ins HL.out.nm).mono ?_
  rintro e w1 ⟨rfl, b1⟩
  have B1 := hbW0.trans (b1.mono hbW0.size)
  have HM := Lib.hid (HM.out.below' b1)
  have HL := Lib.hid (HL.out.below b1)
  obtain ⟨c0, c1, c2, c3, c4, c5, c6, c7⟩ := boxFactsW HM.out
  go_wp2_with fail
  refine (HR.out _).mono ?_
  rintro e W ⟨rfl, b2⟩
  have B2 := B1.trans (b2.mono B1.size)
  have HM := Lib.hid (HM.out.below' b2)
  have HL := Lib.hid (HL.out.below b2)
  obtain ⟨c0, c1, c2, c3, c4, c5, c6, c7⟩ := boxFactsW HM.out
  have HKP : Hid (∀ Y, Below W.heap.size W Y → Below W.heap.size W Y ∧ Y.cell? ⟨w.heap.size, 0, none⟩ = some (.int .i64 op) ∧ Y.cell? ⟨w.heap.size, 1, none⟩ = some (.int .i64 a) ∧ Y.cell? ⟨w.heap.size, 2, none⟩ = some (.int .i64 b) ∧ Y.cell? ⟨w.heap.size, 3, none⟩ = some (.int .i64 c) ∧ Y.cell? ⟨w.heap.size, 4, none⟩ = some (.int .i64 obj) ∧ Y.cell? ⟨w.heap.size, 5, none⟩ = some (.int .i64 n) ∧ Y.cell? ⟨w.heap.size, 6, none⟩ = some (.int .i64 fn) ∧ Y.cell? ⟨w.heap.size, 7, none⟩ = some (.int .i64 ord)) := Lib.hid fun Y h => ⟨h, boxFactsW (HM.out.below' h)⟩
  have hdd : (d == d) = true := by simp
  have hpp : (p == p) = true := by simp
  have hxx : (x == x) = true := by simp
  have hbd : Below W.heap.size W W.drew := (Below.refl _ W).drew
  go_wp2_with fail
  go_region_held3 (fun w' => Below W.heap.size W w' ∧ w'.cell? ⟨w.heap.size, 0, none⟩ = some (.int .i64 op) ∧ w'.cell? ⟨w.heap.size, 1, none⟩ = some (.int .i64 a) ∧ w'.cell? ⟨w.heap.size, 2, none⟩ = some (.int .i64 b) ∧ w'.cell? ⟨w.heap.size, 3, none⟩ = some (.int .i64 c) ∧ w'.cell? ⟨w.heap.size, 4, none⟩ = some (.int .i64 obj) ∧ w'.cell? ⟨w.heap.size, 5, none⟩ = some (.int .i64 n) ∧ w'.cell? ⟨w.heap.size, 6, none⟩ = some (.int .i64 fn) ∧ w'.cell? ⟨w.heap.size, 7, none⟩ = some (.int .i64 ord))
    (first
      | assumption
      | exact HKP.out _ hbd
      | exact HKP.out _ (belowThen (‹Below W.heap.size W _ ∧ _›).1 bk))
    (first
      | (go_at_call 38; refine (awakeOk _ (HL.out.below (‹Below W.heap.size W _ ∧ _›).1)).mono ?_; rintro e w3 ⟨rfl, bk⟩)
      | (go_at_call 39; refine (HC.out _ (HL.out.below (‹Below W.heap.size W _ ∧ _›).1).ins (HL.out.below (‹Below W.heap.size W _ ∧ _›).1).nm).mono ?_; rintro e w4 ⟨rfl, bk⟩)
      | (go_at_call 40; refine (HE.out _).mono ?_; rintro e w5 ⟨rfl, bk⟩)
      | (go_at_call 41; refine (HU.out _ (HL.out.below (‹Below W.heap.size W _ ∧ _›).1).ins (HL.out.below (‹Below W.heap.size W _ ∧ _›).1).nm).mono ?_; rintro e w6 ⟨A6, c6', rfl, r6, bk⟩; have R6 := Lib.hid r6; clear r6; (try have R7 := Lib.hid (R7.out.below bk)))
      | (go_at_call 42; refine (HV.out _).mono ?_; rintro e w7 ⟨A7, c7', rfl, r7, bk⟩; have R7 := Lib.hid r7; clear r7; (try have R6 := Lib.hid (R6.out.below bk)))
      | (go_at_call 21; refine (HI.out A6 A7 c6' c7' _ R6.out R7.out).mono ?_; rintro e w8 ⟨rfl, bk⟩))
  all_goals (
    have hb8 := belowThen B2 (‹Below W.heap.size W w8 ∧ _›).1
    go_wp2
    go_ret
    exact ⟨by simp, hb8⟩)
end Go.Proofs.YtcecnkpdaaojeaaDoor
