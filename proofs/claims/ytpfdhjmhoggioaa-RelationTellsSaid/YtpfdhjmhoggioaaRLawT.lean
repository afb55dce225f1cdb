/-
  The law RelationTells: its walk.
-/
import Derived.Test.YtpfdhjmhoggioaaREx
import Derived.Test.YtpfdhjmhoggioaaRRefO
import Derived.Deep.RegionHeld3
namespace Go.Proofs.Ytpfdhjmhoggioaa
open Go.RowKit Go.Maps

set_option maxRecDepth 100000 in
set_option maxHeartbeats 4000000 in
theorem lawTells (N : Int) (l : Prs) (n : Nat) (hn : l.length = n) (x y : Int) (A : Option Addr) (c : Nat) (w : World) (ha : Rp w A c l) :
    Calls Try.prog 3 #[relV N A n c, .int .i64 x, .int .i64 y] w fun e w' => e = .returned (.bool true) ∧ Below w.heap.size w w' := by
  obtain ⟨W, hW⟩ : ∃ W, w.alloc (.cells #[.int .i64 N, .slice A n c] 24) = W := ⟨_, rfl⟩
  have HB0 : Hid (BoxR W w.heap.size N (.slice A n c)) := by rw [← hW]; exact Lib.hid (BoxR.new w N _)
  have hbW : Below w.heap.size w W := by rw [← hW]; exact belowAlloc w _
  have HA := Lib.hid (ha.below hbW); clear ha
  have HN := Lib.hid hn; clear hn
  obtain ⟨c0, c1, _, _⟩ := HB0.out.facts
  by_cases hbig : 300 < n
  · have q1 : decide ((n : Int) > 300) = true := decide_eq_true (by omega)
    go_enter Try.func3, Try.ntmps3
    go_wp2_with fail
    refine (lExample _).mono ?_
    rintro e w1 ⟨rfl, b1⟩
    go_wp2
    go_ret
    exact ⟨rfl, belowThen hbW b1⟩
  · have q1 : decide ((n : Int) > 300) = false := by simp; omega
    obtain ⟨v, hv⟩ : ∃ v, okR N l = v := ⟨_, rfl⟩
    obtain ⟨h, hh⟩ : ∃ h, hasR N l x y = h := ⟨_, rfl⟩
    obtain ⟨K, hK⟩ : ∃ K, nrmN N l = K := ⟨_, rfl⟩
    obtain ⟨L, hL⟩ : ∃ L, nrmL N l = L := ⟨_, rfl⟩
    have hl : L.length ≤ 4096 := by
      rw [← hL]; unfold nrmL
      split
      · rename_i hv'
        obtain ⟨m, rfl, hm⟩ := okNat hv'
        have h1 := lenNrm (Int.toNat m) (hasP l)
        have h2 := Nat.mul_le_mul hm hm
        simp only [Int.toNat_natCast] at h1 ⊢
        omega
      · simp
    obtain ⟨nl, hnl⟩ : ∃ nl, L.length = nl := ⟨_, rfl⟩
    rw [hnl] at hl
    have HVI := Lib.hid (iValid N l n HN.out v hv)
    have HVR := Lib.hid (rValid N l n HN.out v hv)
    have HHI := Lib.hid (iHas N l n HN.out x y)
    rw [hh] at HHI
    have HHR := Lib.hid (rHas N l n HN.out x y h hh)
    have HNI := Lib.hid (iNormalTop N l n HN.out (by omega))
    have HNR := Lib.hid (rNormal N l n HN.out)
    rw [hK, hL] at HNI HNR
    have HSA := Lib.hid (lSame K K L L nl nl hnl hnl true (by rw [sameIff]; exact ⟨rfl, rfl⟩) (by omega))
    have HNL := Lib.hid hnl
    have hvv : (v == v) = true := by simp
    have hhh : (h == h) = true := by simp
    clear hv hh hK hL hnl
    have hl0 := HB0.out.lt
    have HKP := Lib.hid (show ∀ w', Below W.heap.size W w' → w'.cell? ⟨w.heap.size, 0, none⟩ = some (.int .i64 N) ∧ w'.cell? ⟨w.heap.size, 1, none⟩ = some (.slice A n c) ∧ Below W.heap.size W w' from fun w' b =>
      ⟨(b.cell (by exact hl0)).trans c0, (b.cell (by exact hl0)).trans c1, b⟩)
    have hbd : Below W.heap.size W W.drew := (Below.refl _ W).drew
    go_enter Try.func3, Try.ntmps3
    go_wp2_with fail
    clear c0 c1
    go_region_held3 (fun w' => w'.cell? ⟨w.heap.size, 0, none⟩ = some (.int .i64 N) ∧ w'.cell? ⟨w.heap.size, 1, none⟩ = some (.slice A n c) ∧ Below W.heap.size W w')
      (first
        | assumption
        | exact HKP.out _ hbd
        | exact HKP.out _ (belowThen (‹_ ∧ _ ∧ Below W.heap.size W _›).2.2 bk))
      (first
        | (go_at_call 9; refine (HVI.out A c _ (HA.out.below (‹_ ∧ _ ∧ Below W.heap.size W _›).2.2)).mono ?_; rintro e w1 ⟨rfl, bk⟩)
        | (go_at_call 10; refine (HVR.out A c _ (HA.out.below (‹_ ∧ _ ∧ Below W.heap.size W _›).2.2)).mono ?_; rintro e w2 ⟨rfl, bk⟩)
        | (go_at_call 11; refine (HHI.out A c _ (HA.out.below (‹_ ∧ _ ∧ Below W.heap.size W _›).2.2)).mono ?_; rintro e w3 ⟨rfl, bk⟩)
        | (go_at_call 12; refine (HHR.out A c _ (HA.out.below (‹_ ∧ _ ∧ Below W.heap.size W _›).2.2)).mono ?_; rintro e w4 ⟨rfl, bk⟩)
        | (go_at_call 14; refine (HNI.out A c _ (HA.out.below (‹_ ∧ _ ∧ Below W.heap.size W _›).2.2)).mono ?_; rintro e w5 ⟨A5, d5, rfl, hr5, bk⟩; rw [HNL.out]; have HR5 := Lib.hid hr5; clear hr5)
        | (go_at_call 15; refine (HNR.out A c _ (HA.out.below (‹_ ∧ _ ∧ Below W.heap.size W _›).2.2)).mono ?_; rintro e w6 ⟨A6, d6, rfl, hr6, bk⟩; rw [HNL.out]; have HR6 := Lib.hid hr6; clear hr6; have HR5 := Lib.hid (HR5.out.below bk))
        | (go_at_call 13; refine (HSA.out A5 A6 d5 d6 _ HR5.out HR6.out).mono ?_; rintro e w7 ⟨rfl, bk⟩)
        | (go_at_call 8; refine (lExample _).mono ?_; rintro e w8 ⟨rfl, bk⟩))
    have hb8 := belowThen hbW (‹_ ∧ _ ∧ Below W.heap.size W w8›).2.2
    go_wp2
    go_ret
    exact ⟨rfl, hb8⟩
end Go.Proofs.Ytpfdhjmhoggioaa
