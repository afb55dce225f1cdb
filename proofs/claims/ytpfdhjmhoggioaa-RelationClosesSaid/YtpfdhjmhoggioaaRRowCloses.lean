/-
  The law RelationCloses holds: for every input it returns true and leaves its arguments as they were; no condition.
-/
import Derived.Test.YtpfdhjmhoggioaaREx
import Derived.Test.YtpfdhjmhoggioaaRRefQ
import Derived.Deep.RegionHeld3
import Derived.Test.YtpfdhjmhoggioaaROpen
import Derived.Test.YtpfdhjmhoggioaaRows
import Derived.Carry
namespace Go.Proofs.Ytpfdhjmhoggioaa
open Go.RowKit Go.Maps

set_option maxRecDepth 100000 in
set_option maxHeartbeats 4000000 in
theorem lawClosesBig (N : Int) (n : Nat) (h : 300 < n) (A : Option Addr) (c : Nat) (w : World) :
    Calls Try.prog 5 #[relV N A n c] w fun e w' => e = .returned (.bool true) ∧ Below w.heap.size w w' := by
  have hbW := belowAlloc w (.cells #[.int .i64 N, .slice A n c] 24)
  have q1 : decide ((n : Int) > 300) = true := decide_eq_true (by omega)
  go_enter Try.func5, Try.ntmps5
  go_wp2_with fail
  refine (lExample _).mono ?_
  rintro e w1 ⟨rfl, b1⟩
  go_wp2
  go_ret
  exact ⟨rfl, belowThen hbW b1⟩

set_option maxRecDepth 100000 in
set_option maxHeartbeats 4000000 in
theorem lawClosesWith (N : Int) (l : Prs) (n : Nat) (hn : l.length = n) (hs : ¬ 300 < n) (L : List Int) (q : Bool)
    (hI : ∀ A c w, Rp w A c l → Calls Try.prog 22 #[relV N A n c] w (GivesC L q w))
    (hR : ∀ A c w, Rp w A c l → Calls Try.prog 23 #[relV N A n c] w (GivesC L q w))
    (A : Option Addr) (c : Nat) (w : World) (ha : Rp w A c l) :
    Calls Try.prog 5 #[relV N A n c] w fun e w' => e = .returned (.bool true) ∧ Below w.heap.size w w' := by
  obtain ⟨W, hW⟩ : ∃ W, w.alloc (.cells #[.int .i64 N, .slice A n c] 24) = W := ⟨_, rfl⟩
  have HB0 : Hid (BoxR W w.heap.size N (.slice A n c)) := by rw [← hW]; exact Lib.hid (BoxR.new w N _)
  have hbW : Below w.heap.size w W := by rw [← hW]; exact belowAlloc w _
  have HA := Lib.hid (ha.below hbW); clear ha
  have HI := Lib.hid hI; clear hI
  have HR := Lib.hid hR; clear hR
  obtain ⟨k, hk⟩ : ∃ k, L.length = k := ⟨_, rfl⟩
  have hIn : ∀ (A B : Option Addr) (c d : Nat) (w : World), Rd w A c L → Rd w B d L → Calls Try.prog 24 #[.slice A L.length c, .slice B L.length d] w fun e w' => e = .returned (.bool true) ∧ Below w.heap.size w w' := fun A B c d w ha hb => (rInts L L true (eqB_yes rfl) A B c d w ha hb).mono fun e w' ⟨h, n, hn⟩ => ⟨h, hn ▸ belowN w n⟩
  rw [hk] at hIn
  have HIN := Lib.hid hIn
  have HK := Lib.hid hk
  clear hIn hk
  obtain ⟨r, hr⟩ : ∃ r, acyR N l = r := ⟨_, rfl⟩
  have HAI := Lib.hid (iAcyclic N l n hn (by omega))
  rw [hr] at HAI
  have HAR := Lib.hid (rAcyclic N l n hn r hr)
  obtain ⟨K, hK⟩ : ∃ K, nrmN N l = K := ⟨_, rfl⟩
  obtain ⟨C, hC⟩ : ∃ C, cloL N l = C := ⟨_, rfl⟩
  have hl : C.length ≤ 4096 := by
    rw [← hC]; unfold cloL
    split
    · rename_i hv'
      obtain ⟨m, rfl, hm⟩ := okNat hv'
      have h1 := lenNrm (Int.toNat m) (tcT (Int.toNat m) (hasP l))
      have h2 := Nat.mul_le_mul hm hm
      simp only [Int.toNat_natCast] at h1 ⊢
      omega
    · simp
  obtain ⟨nl, hnl⟩ : ∃ nl, C.length = nl := ⟨_, rfl⟩
  rw [hnl] at hl
  have HCI := Lib.hid (iClosure N l n hn (by omega))
  have HCR := Lib.hid (rClosure N l n hn)
  rw [hK, hC] at HCI HCR
  have HSA := Lib.hid (lSame K K C C nl nl hnl hnl true (by rw [sameIff]; exact ⟨rfl, rfl⟩) (by omega))
  have HNL := Lib.hid hnl
  have qq : (q == q) = true := by simp
  have qr : (r == r) = true := by simp
  have q1 : decide ((n : Int) > 300) = false := by simp; omega
  clear hn hr hK hC hnl
  obtain ⟨c0, c1, _, _⟩ := HB0.out.facts
  go_enter Try.func5, Try.ntmps5
  go_wp2_with fail
  refine (HI.out A c _ HA.out).mono ?_
  rintro e w2 ⟨A2, d2, rfl, hr2, b2⟩
  rw [HK.out]
  have HR2 := Lib.hid hr2; clear hr2
  have HB0 := Lib.hid (HB0.out.below b2)
  have HA := Lib.hid (HA.out.below b2)
  have hb2 := belowThen hbW b2
  obtain ⟨c0, c1, _, _⟩ := HB0.out.facts
  go_wp2_with fail
  refine (HR.out A c _ HA.out).mono ?_
  rintro e w3 ⟨A3, d3, rfl, hr3, b3⟩
  rw [HK.out]
  have HR3 := Lib.hid hr3; clear hr3
  have HR2 := Lib.hid (HR2.out.below b3)
  have HB0 := Lib.hid (HB0.out.below b3)
  have HA := Lib.hid (HA.out.below b3)
  have hb3 := belowThen hb2 b3
  obtain ⟨c0, c1, _, _⟩ := HB0.out.facts
  have hl0 := HB0.out.lt
  have HKP := Lib.hid (show ∀ w', Below w3.heap.size w3 w' → w'.cell? ⟨w.heap.size, 0, none⟩ = some (.int .i64 N) ∧ w'.cell? ⟨w.heap.size, 1, none⟩ = some (.slice A n c) ∧ Below w3.heap.size w3 w' from fun w' b =>
    ⟨(b.cell (by exact hl0)).trans c0, (b.cell (by exact hl0)).trans c1, b⟩)
  have hbd : Below w3.heap.size w3 w3.drew := (Below.refl _ w3).drew
  clear c0 c1
  go_wp2_with fail
  go_region_held3 (fun w' => w'.cell? ⟨w.heap.size, 0, none⟩ = some (.int .i64 N) ∧ w'.cell? ⟨w.heap.size, 1, none⟩ = some (.slice A n c) ∧ Below w3.heap.size w3 w')
    (first
      | assumption
      | exact HKP.out _ hbd
      | exact HKP.out _ (belowThen (‹_ ∧ _ ∧ Below w3.heap.size w3 _›).2.2 bk))
    (first
      | (go_at_call 24; refine (HIN.out A2 A3 d2 d3 _ (HR2.out.below (‹_ ∧ _ ∧ Below w3.heap.size w3 _›).2.2) (HR3.out.below (‹_ ∧ _ ∧ Below w3.heap.size w3 _›).2.2)).mono ?_; rintro e w4 ⟨rfl, bk⟩)
      | (go_at_call 25; refine (HAI.out A c _ (HA.out.below (‹_ ∧ _ ∧ Below w3.heap.size w3 _›).2.2)).mono ?_; rintro e w5 ⟨rfl, bk⟩)
      | (go_at_call 26; refine (HAR.out A c _ (HA.out.below (‹_ ∧ _ ∧ Below w3.heap.size w3 _›).2.2)).mono ?_; rintro e w6 ⟨rfl, bk⟩)
      | (go_at_call 27; refine (HCI.out A c _ (HA.out.below (‹_ ∧ _ ∧ Below w3.heap.size w3 _›).2.2)).mono ?_; rintro e w7 ⟨A7, d7, rfl, hr7, bk⟩; rw [HNL.out]; have HR7 := Lib.hid hr7; clear hr7)
      | (go_at_call 28; refine (HCR.out A c _ (HA.out.below (‹_ ∧ _ ∧ Below w3.heap.size w3 _›).2.2)).mono ?_; rintro e w8 ⟨A8, d8, rfl, hr8, bk⟩; rw [HNL.out]; have HR8 := Lib.hid hr8; clear hr8; have HR7 := Lib.hid (HR7.out.below bk))
      | (go_at_call 13; refine (HSA.out A7 A8 d7 d8 _ HR7.out HR8.out).mono ?_; rintro e w9 ⟨rfl, bk⟩)
      | (go_at_call 8; refine (lExample _).mono ?_; rintro e w10 ⟨rfl, bk⟩))
  have hb8 := belowThen hb3 (‹_ ∧ _ ∧ Below w3.heap.size w3 w10›).2.2
  go_wp2
  go_ret
  exact ⟨rfl, hb8⟩
theorem lawCloses (N : Int) (l : Prs) (n : Nat) (hn : l.length = n) (A : Option Addr) (c : Nat) (w : World) (ha : Rp w A c l) :
    Calls Try.prog 5 #[relV N A n c] w fun e w' => e = .returned (.bool true) ∧ Below w.heap.size w w' := by
  by_cases hbig : 300 < n
  · exact lawClosesBig N n hbig A c w
  cases hv : okR N l with
  | false => exact lawClosesWith N l n hn hbig [] false (fun A c w h => iCycleNo N l n hn hv A c w h) (fun A c w h => rCycleNo N l n hn hv A c w h) A c w ha
  | true =>
    obtain ⟨m, rfl, hm⟩ := okNat hv
    exact lawClosesWith m l n hn hbig _ _ (fun A c w h => iCycleYes m hm l n hn (by omega) hv _ rfl A c w h) (fun A c w h => rCycleYes m hm l n hn hv _ rfl A c w h) A c w ha
end Go.Proofs.Ytpfdhjmhoggioaa

namespace Go.Proofs.Ytpfdhjmhoggioaa.relationCloses
open Go Go.ChangeShapes Go.WideShapes Go.ChangeAt Go.RowKit

set_option maxRecDepth 100000 in
theorem lifted (os : Os) (started : os.Started) (H : Type) (enc : TypeId × Value → H) :
    ReturnsInHanded {} Try.checked os 5 .any (Rows.relationClosesSpec.pre6 enc Try.prog Try.f5 Rows.relationClosesRow.domain false) (Rows.relationClosesSpec.post enc Try.prog Try.f5 false true false false) := by
  refine returnsInHanded_of_change (C := Try.checked) ownKnob0 started (by kernel_rfl) Try.func5
    (ChangeSpec.witness6 (enc := enc) (C := Try.checked) false ⟨#[], #[.agg #[.int .i64 0, .slice none 0 0]], []⟩ 8 (by kernel_rfl) (by kernel_rfl) (by kernel_rfl) (by kernel_rfl)) ?_
  intro W base args ds gs before hval0 hW _ _
  have hval : ∀ (j : Nat) t v, Try.f5.params[j]? = some t → args[j]? = some v → Value.okWide Try.prog W .any base t v := hval0
  have hW' := hW
  obtain ⟨p, q, hA0, hV, rfl, _, _⟩ := hW
  have hA : DataW.TrodAll enc Try.prog W 0 (fun _ => true) true Try.f5.params.toList args.toList ds p := hA0
  rw [Try.params5] at hA hval
  obtain ⟨v0, vs0, d0, ds0, p0, q0, hargs, rfl, rfl, h0, s0⟩ := trodAll_cons hA
  obtain ⟨rfl, rfl, rfl⟩ := trodAll_nil s0
  obtain rfl : args = #[v0] := by cases args; simp_all
  obtain ⟨rfl, rfl⟩ := trodVars_none hV
  have g0 := h0
  obtain ⟨N0, A0, n0, c0, l0, rfl, e0, r0⟩ := openRel (hval 0 24 v0 rfl rfl) h0
  clear hA0 hval0
  simp only [List.append_nil] at hW'
  refine (lawCloses N0 l0 n0 e0 A0 c0 W r0).mono fun e W' ⟨he, hb⟩ => ?_
  subst he
  exact ⟨_, rfl, _, _, _, [], _, [], hW', trodAll_cons_mk (shut_bool Try.underlying4 _) trodAll_mk0, trodAll_cons_mk (Below.trod laidOut0 (by kernel_rfl) (of_decide_eq_true (by kernel_rfl)) g0 hb (fun y hy => by simpa using hW'.lt y (by simp [hy]))) (trodAll_mk0), rfl, hb.frame _, fun h => by cases h⟩

theorem proved : Rows.RelationClosesSaid :=
  OpenClaim.holds_of_wide 5 Try.f5 rfl rfl rfl rfl rfl rfl rfl ⟨rfl, rfl, rfl, rfl, rfl⟩ rfl rfl rfl rfl rfl (by kernel_rfl) Try.func5 (by kernel_rfl)
    (of_decide_eq_true (by kernel_rfl)) (by unfold Func.isWrapper; first | (rw [if_pos (by decide +kernel)]; kernel_rfl) | (rw [if_neg (by decide +kernel)]; exact ⟨rfl, rfl⟩))
    (fun os started H enc _ => lifted os started H enc)
#print axioms proved
end Go.Proofs.Ytpfdhjmhoggioaa.relationCloses
