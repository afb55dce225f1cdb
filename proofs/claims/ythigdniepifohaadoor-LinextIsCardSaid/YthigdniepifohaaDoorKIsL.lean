/-
  The law LinextIs.
-/
import Derived.Test.YthigdniepifohaaDoorKRf5
import Derived.BigQuiet
import Derived.Test.YthigdniepifohaaDoorKLkLaid
import Derived.Test.YthigdniepifohaaDoorCards
import Derived.SevenTiedAt
import Derived.ShutString
import Derived.ChangeMaps5
import Derived.Carry
namespace Go.Proofs.YthigdniepifohaaDoor
open Go Go.RowKit

/-- A call gives a list and an error. -/
def GivesF5 (L : List Int) (q : Nat) (E : Int) (w : World) (e : Ending) (w' : World) : Prop := ∃ A c, e = .returned (.tuple #[.slice A q c, .int .i64 E]) ∧ Rd w' A c L ∧ Below w.heap.size w w'
theorem firstBoth (N : Int) (hN : N ≤ 64) (l : Prs) (n : Nat) (hn : l.length = n) (hs : n ≤ 65536) (A : Option Addr) (c : Nat) (w : World) (ha : Rp w A c l) (hT : Tbl w) : ∃ (L : List Int) (q : Nat) (E : Int), L.length = q ∧
    (∀ X, Below w.heap.size w X → Calls Tryd.prog 12 #[relV N A n c] X (GivesF5 L q E X)) ∧ (∀ X, Below w.heap.size w X → Calls Tryd.prog 13 #[relV N A n c] X (GivesF5 L q E X)) := by
  cases hc : acyR N l with
  | false =>
    refine ⟨[], 0, errA N l, rfl, fun X hX => (iFirstNo N l n hn hs hc A c X (ha.below hX)).mono ?_, fun X hX => (rFirstNo N l n hn hc A c X (ha.below hX)).mono ?_⟩
    · rintro e w' ⟨rfl, hb⟩
      exact ⟨none, 0, rfl, Rd.nil, hb⟩
    · rintro e w' ⟨rfl, hb⟩
      exact ⟨none, 0, rfl, Rd.nil, hb⟩
  | true =>
    have h0 : 0 ≤ N := by
      have := acyOk hc
      unfold okR at this
      exact (of_decide_eq_true this).1
    obtain ⟨m, rfl⟩ : ∃ m : Nat, N = m := ⟨N.toNat, by omega⟩
    refine ⟨nI (fstL m (hasP l) m 0), _, 0, rfl, fun X hX => (iFirstOk m (by omega) l n hn hs hc A c X (ha.below hX) (hT.below hX)).mono ?_, fun X hX => (rFirstOk m (by omega) l n hn hc A c X (ha.below hX)).mono ?_⟩
    · rintro e w' ⟨v, rfl, ho, hb⟩
      obtain ⟨A1, c1, rfl, hr, _⟩ := OwnI.rd ho
      exact ⟨A1, c1, rfl, hr, hb⟩
    · rintro e w' ⟨v, rfl, ho, hb⟩
      obtain ⟨A1, c1, rfl, hr, _⟩ := ho.rd
      exact ⟨A1, c1, rfl, hr, hb⟩
set_option maxRecDepth 100000 in
set_option maxHeartbeats 8000000 in
theorem lawIs (N : Int) (l : Prs) (n : Nat) (hn : l.length = n) (o : List Int) (m : Nat) (hm : o.length = m) (A : Option Addr) (c : Nat) (B : Option Addr) (d : Nat) (w : World) (ha : Rp w A c l) (ho : Rd w B d o) (hT : Tbl w) :
    Calls Tryd.prog 3 #[relV N A n c, .slice B m d] w fun e w' => e = .returned (.bool true) ∧ Below w.heap.size w w' := by
  obtain ⟨W, hW⟩ : ∃ W, w.alloc (.cells #[.int .i64 N, .slice A n c] 24) = W := ⟨_, rfl⟩
  have hbW : Below w.heap.size w W := by rw [← hW]; exact belowAlloc w _
  have HB : Hid (BoxR W w.heap.size N (.slice A n c)) := by rw [← hW]; exact Lib.hid (BoxR.new w N _)
  obtain ⟨k0, k1, _, _⟩ := HB.out.facts
  have HK := Lib.hid (fun X (hX : Below W.heap.size W X) => (HB.out.below hX).facts)
  have HAW := Lib.hid (fun X (hX : Below W.heap.size W X) => awOk X ((hT.below hbW).below hX))
  have HFW := Lib.hid (lFew N n 12 A c W)
  have HI := Lib.hid (fun X (hX : Below W.heap.size W X) => iIs N l n hn A c o m hm B d X ((ha.below hbW).below hX) ((hT.below hbW).below hX) ((ho.below hbW).below hX))
  have HJ := Lib.hid (fun X (hX : Below W.heap.size W X) => rIs N l n hn A c o m hm B d X ((ha.below hbW).below hX) ((ho.below hbW).below hX))
  rw [isEq] at HJ
  generalize isB N l o = r at HI HJ
  have hle := ho.le
  have hmx := ho.max
  rw [hm] at hle
  unfold maxLen at hmx
  have haW := ha.below hbW
  have hTW := hT.below hbW
  have HBW := Lib.hid hbW
  have HW := Lib.hid hW
  clear hbW hW ha ho hT
  cases hf : fewB N n 12 with
  | false =>
    rw [hf] at HFW
    clear hf
    go_enter Tryd.func3, Tryd.ntmps3
    go_wp2_with fail
    rw [HW.out]
    refine HFW.out.mono ?_
    rintro e w1 ⟨rfl, b1⟩
    go_wp2_with fail
    refine (HAW.out w1 b1).mono ?_
    rintro e w2 ⟨rfl, b2⟩
    go_wp2
    go_ret
    exact ⟨rfl, belowThen HBW.out (belowThen b1 b2)⟩
  | true =>
    rw [hf] at HFW
    unfold fewB at hf
    simp only [Bool.and_eq_true, decide_eq_true_eq] at hf
    by_cases h30 : 30 < m
    · have h31 : decide ((30 : Int) < m) = true := decide_eq_true (by omega)
      clear hf
      go_enter Tryd.func3, Tryd.ntmps3
      go_wp2_with fail
      rw [HW.out]
      refine HFW.out.mono ?_
      rintro e w1 ⟨rfl, b1⟩
      go_wp2_with fail
      all_goals first
        | (exfalso; omega)
        | skip
      refine (HAW.out w1 b1).mono ?_
      rintro e w2 ⟨rfl, b2⟩
      go_wp2
      go_ret
      exact ⟨rfl, belowThen HBW.out (belowThen b1 b2)⟩
    · have h31 : decide ((30 : Int) < m) = false := decide_eq_false (by omega)
      obtain ⟨L, q, E, hq, hF1, hF2⟩ := firstBoth N (by omega) l n hn (by omega) A c W haW hTW
      have HF1 := Lib.hid hF1
      have HF2 := Lib.hid hF2
      have HQ := Lib.hid hq
      clear hf hq hF1 hF2 haW hTW
      go_enter Tryd.func3, Tryd.ntmps3
      go_wp2_with fail
      rw [HW.out]
      refine HFW.out.mono ?_
      rintro e w1 ⟨rfl, b1⟩
      clear k0 k1
      obtain ⟨k0, k1, _, _⟩ := HK.out w1 b1
      go_wp2_with fail
      all_goals first
        | (exfalso; omega)
        | skip
      refine (HF1.out w1 b1).mono ?_
      rintro e w2 ⟨A1, c1, rfl, r1, b2⟩
      have B2 := belowThen b1 b2
      clear k0 k1
      obtain ⟨k0, k1, _, _⟩ := HK.out w2 B2
      go_wp2_with fail
      refine (HF2.out w2 B2).mono ?_
      rintro e w3 ⟨A2, c2, rfl, r2, b3⟩
      have B3 := belowThen B2 b3
      have HR1 := Lib.hid (r1.below b3)
      have HR2 := Lib.hid r2
      have HS := Lib.hid (fun X (hX : Below w3.heap.size w3 X) => (⟨hX, (HK.out X (belowThen B3 hX)).1, (HK.out X (belowThen B3 hX)).2.1⟩ : Below w3.heap.size w3 X ∧ X.cell? ⟨w.heap.size, 0, none⟩ = some (.int .i64 N) ∧ X.cell? ⟨w.heap.size, 1, none⟩ = some (.slice A n c)))
      have HS0 := HS.out w3.drew ((Below.refl _ w3).drew)
      have C1 := Lib.hid (fun X (hX : Below w3.heap.size w3 X) => HAW.out X (belowThen B3 hX))
      have C2 := Lib.hid (fun X (hX : Below w3.heap.size w3 X) => HI.out X (belowThen B3 hX))
      have C3 := Lib.hid (fun X (hX : Below w3.heap.size w3 X) => HJ.out X (belowThen B3 hX))
      have C4 := Lib.hid (fun X (hX : Below w3.heap.size w3 X) => intsEq L q q HQ.out HQ.out A1 A2 c1 c2 X (HR1.out.below hX) (HR2.out.below hX))
      have HB3 := Lib.hid B3
      clear b1 b2 b3 B2 B3 r1 r2 k0 k1
      go_wp2_with fail
      go_region_held3 (fun X => Below w3.heap.size w3 X ∧ X.cell? ⟨w.heap.size, 0, none⟩ = some (.int .i64 N) ∧ X.cell? ⟨w.heap.size, 1, none⟩ = some (.slice A n c)) (first | assumption | exact HS.out _ (by assumption)) (first
        | (go_at_call 11; refine (C1.out _ (‹Below w3.heap.size w3 _ ∧ _›).1).mono ?_; rintro e u1 ⟨rfl, y1⟩; have q1 := belowThen (‹Below w3.heap.size w3 _ ∧ _›).1 y1; clear C1)
        | (go_at_call 14; refine (C2.out _ (‹Below w3.heap.size w3 _ ∧ _›).1).mono ?_; rintro e u2 ⟨rfl, y2⟩; have q2 := belowThen (‹Below w3.heap.size w3 _ ∧ _›).1 y2; clear C2)
        | (go_at_call 15; refine (C3.out _ (‹Below w3.heap.size w3 _ ∧ _›).1).mono ?_; rintro e u3 ⟨rfl, y3⟩; have q3 := belowThen (‹Below w3.heap.size w3 _ ∧ _›).1 y3; clear C3)
        | (go_at_call 16; refine (C4.out _ (‹Below w3.heap.size w3 _ ∧ _›).1).mono ?_; rintro e u4 ⟨rfl, y4⟩; have q4 := belowThen (‹Below w3.heap.size w3 _ ∧ _›).1 y4; clear C4))
      have hfin : Below w3.heap.size w3 u4 := q4
      go_wp2
      go_ret
      exact ⟨rfl, belowThen HBW.out (belowThen HB3.out hfin)⟩
end Go.Proofs.YthigdniepifohaaDoor

namespace Go.Proofs.YthigdniepifohaaDoor.linextIs
open Go Go.ChangeShapes Go.WideShapes Go.ChangeAt Go.WideMaps Go.WideElems Go.RowKit Go.ChangeMaps

set_option maxRecDepth 100000 in
theorem lifted (os : Os) (started : os.Started) (H : Type) (enc : TypeId × Value → H) :
    ReturnsInHanded {} Tryd.checked os 3 .any (fun w args => (Rows.linextIsSpec.pre enc Tryd.prog Tryd.f3 [] false w args ∧ laidMetH Tryd.prog laidT w) ∧ sizedMet enc Tryd.prog Tryd.f3 (OpenSpec.ofChange Rows.linextIsSpec) false w args)
      (Rows.linextIsSpec.post enc Tryd.prog Tryd.f3 false true false false) := by
  refine returnsInHanded_of_change_and (C := Tryd.checked) (X := fun w _ => laidMetH Tryd.prog laidT w) (fun _ _ _ hh h => h.of_heap hh) ownKnob0 started (by kernel_rfl) Tryd.func3
    (ChangeSpec.witness_shaped (enc := enc) (C := Tryd.checked) (os := os) (X := fun w _ => laidMetH Tryd.prog laidT w) false (World.doorLaid Tryd.prog 400 os) #[.agg #[.int .i64 0, .slice none 0 0], .slice none 0 0] 8 rfl (World.shaped_of_RefB (by kernel_rfl) (by kernel_rfl)) (by kernel_rfl) (by kernel_rfl) (by kernel_rfl) (doorT os _)) ?_
  intro W base args ds gs before hval0 hW _ _ hL _
  have hval : ∀ (j : Nat) t v, Tryd.f3.params[j]? = some t → args[j]? = some v → Value.okWide Tryd.prog W .any base t v := hval0
  have hW' := hW
  obtain ⟨p, q, hA0, hV, rfl, hfz, hnd⟩ := hW
  have hA : DataW.TrodAll enc Tryd.prog W 0 (fun _ => true) true Tryd.f3.params.toList args.toList ds p := hA0
  rw [Tryd.params3] at hA hval
  obtain ⟨v0, vs0, d0, ds0, p0, q0, hargs, rfl, rfl, h0, r0⟩ := trodAll_cons hA
  obtain ⟨v1, vs1, d1, ds1, p1, q1, rfl, rfl, rfl, h1, r1⟩ := trodAll_cons r0
  obtain ⟨rfl, rfl, rfl⟩ := trodAll_nil r1
  obtain rfl : args = #[v0, v1] := by cases args; simp_all
  obtain ⟨rfl, rfl⟩ := trodVars_none hV
  have g0 := h0
  have g1 := h1
  obtain ⟨N0, A0, n0, c0, l0, rfl, e0, rp0⟩ := openRel (hval 0 24 v0 rfl rfl) h0
  obtain ⟨A1, n1, c1, a1, rfl, e1, rd1⟩ := openSl (hval 1 25 v1 rfl rfl) h1
  clear hA0 hval0
  simp only [List.append_nil] at hW'
  refine (lawIs N0 l0 n0 e0 a1 n1 e1 A0 c0 A1 c1 W rp0 rd1 (metT hL)).mono fun e W' ⟨he, hb⟩ => ?_
  subst he
  exact ⟨_, rfl, _, _, _, [], _, [], hW', trodAll_cons_mk (shut_bool Tryd.underlying4 _) trodAll_mk0, trodAll_cons_mk (Below.trod laidOut0 (by kernel_rfl) (of_decide_eq_true (by kernel_rfl)) g0 hb (fun y hy => by simpa using hW'.lt y (by simp [hy]))) (trodAll_cons_mk (Below.trod laidOut0 (by kernel_rfl) (of_decide_eq_true (by kernel_rfl)) g1 hb (fun y hy => by simpa using hW'.lt y (by simp [hy]))) (trodAll_mk0)), rfl, hb.frame _, fun h => by cases h⟩

theorem over : Rows.linextIsRow.holds Tryd.pinned (OpenSpec.ofChange Rows.linextIsSpec) :=
  OpenClaim.holds_of_wide 3 Tryd.f3 rfl rfl rfl rfl rfl rfl rfl ⟨rfl, rfl, rfl, rfl, rfl⟩ rfl rfl rfl rfl rfl (by kernel_rfl) Tryd.func3 (by kernel_rfl)
    (of_decide_eq_true (by kernel_rfl)) (by unfold Func.isWrapper; first | (rw [if_pos (by decide +kernel)]; kernel_rfl) | (rw [if_neg (by decide +kernel)]; exact ⟨rfl, rfl⟩))
    (fun os started H enc _ => lifted os started H enc)

theorem proved : Rows.LinextIsCardSaid :=
  Claim7.holds_tied_plain_at .later [] [.data] true Rows.linextIsCard.stood.harness false
    over (fun _ h => by cases h) (by kernel_rfl) (fun _ h => by cases h) linextIs_row_tie rfl ⟨rfl, rfl⟩ (by kernel_rfl) rfl
    (fun f fn hf hfn => by
      obtain rfl : f = 3 := Option.some.inj ((show Tryd.prog.funcNamed Rows.linextIsRow.func = some 3 by kernel_rfl).symm.trans hf) |>.symm
      obtain rfl : fn = Tryd.f3 := (Option.some.inj (Tryd.func3.symm.trans hfn)).symm
      exact ⟨by kernel_rfl, fun j t ht => by
        rw [Tryd.params3] at ht
        have hm : t ∈ [24, 25] := by simpa using Array.mem_of_getElem? ht
        have hall : ([24, 25].all fun u => !Tryd.prog.wantsStandIn u) = true := by kernel_rfl
        exact (show Tryd.prog.wantsStandIn t = false by simpa using List.all_eq_true.1 hall t hm)⟩)
    (by kernel_rfl)
#print axioms proved
end Go.Proofs.YthigdniepifohaaDoor.linextIs
