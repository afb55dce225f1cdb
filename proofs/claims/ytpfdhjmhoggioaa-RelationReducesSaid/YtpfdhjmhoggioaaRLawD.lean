/-
  The law RelationReduces: its walk.
-/
import Derived.Test.YtpfdhjmhoggioaaREx
import Derived.Test.YtpfdhjmhoggioaaRRefD
import Derived.Deep.RegionHeld3
namespace Go.Proofs.Ytpfdhjmhoggioaa
open Go.RowKit Go.Maps

set_option maxRecDepth 100000 in
set_option maxHeartbeats 4000000 in
theorem lawReducesBig (N : Int) (n : Nat) (h : 300 < n) (A : Option Addr) (c : Nat) (w : World) :
    Calls Try.prog 6 #[relV N A n c] w fun e w' => e = .returned (.bool true) ∧ Below w.heap.size w w' := by
  have hbW := belowAlloc w (.cells #[.int .i64 N, .slice A n c] 24)
  have q1 : decide ((n : Int) > 300) = true := decide_eq_true (by omega)
  go_enter Try.func6, Try.ntmps6
  go_wp2_with fail
  refine (lExample _).mono ?_
  rintro e w1 ⟨rfl, b1⟩
  go_wp2
  go_ret
  exact ⟨rfl, belowThen hbW b1⟩

set_option maxRecDepth 100000 in
set_option maxHeartbeats 4000000 in
theorem lawReducesWith (N : Int) (l : Prs) (n : Nat) (hs : ¬ 300 < n) (K : Int) (L : Prs) (k : Int) (hl : L.length ≤ 4096)
    (hI : ∀ A c w, Rp w A c l → Calls Try.prog 29 #[relV N A n c] w (GivesE K L k w))
    (hR : ∀ A c w, Rp w A c l → Calls Try.prog 30 #[relV N A n c] w (GivesE K L k w))
    (A : Option Addr) (c : Nat) (w : World) (ha : Rp w A c l) :
    Calls Try.prog 6 #[relV N A n c] w fun e w' => e = .returned (.bool true) ∧ Below w.heap.size w w' := by
  obtain ⟨W, hW⟩ : ∃ W, w.alloc (.cells #[.int .i64 N, .slice A n c] 24) = W := ⟨_, rfl⟩
  have HB0 : Hid (BoxR W w.heap.size N (.slice A n c)) := by rw [← hW]; exact Lib.hid (BoxR.new w N _)
  have hbW : Below w.heap.size w W := by rw [← hW]; exact belowAlloc w _
  have HA := Lib.hid (ha.below hbW); clear ha
  have HI := Lib.hid hI; clear hI
  have HR := Lib.hid hR; clear hR
  obtain ⟨nl, hnl⟩ : ∃ nl, L.length = nl := ⟨_, rfl⟩
  rw [hnl] at hl
  have HSA := Lib.hid (lSame K K L L nl nl hnl hnl true (by rw [sameIff]; exact ⟨rfl, rfl⟩) (by omega))
  have HNL := Lib.hid hnl; clear hnl
  have q1 : decide ((n : Int) > 300) = false := by simp; omega
  have qk : (k == k) = true := by simp
  obtain ⟨c0, c1, _, _⟩ := HB0.out.facts
  go_enter Try.func6, Try.ntmps6
  go_wp2_with fail
  refine (HI.out A c _ HA.out).mono ?_
  rintro e w2 ⟨A2, d2, rfl, hr2, b2⟩
  rw [HNL.out]
  obtain ⟨X, hX⟩ : ∃ X, w2.alloc (.cells #[.int .i64 K, .slice A2 nl d2] 24) = X := ⟨_, rfl⟩
  have bX : Below w2.heap.size w2 X := by rw [← hX]; exact belowAlloc _ _
  have HB2 : Hid (BoxR X w2.heap.size K (.slice A2 nl d2)) := by rw [← hX]; exact Lib.hid (BoxR.new w2 K _)
  have HR2 := Lib.hid (hr2.below bX); clear hr2
  have HB0 := Lib.hid ((HB0.out.below b2).below bX)
  have HA := Lib.hid ((HA.out.below b2).below bX)
  have hb2 := belowThen (belowThen hbW b2) bX
  obtain ⟨c0, c1, _, _⟩ := HB0.out.facts
  go_wp2_with fail
  refine (HR.out A c _ HA.out).mono ?_
  rintro e w3 ⟨A3, d3, rfl, hr3, b3⟩
  rw [HNL.out]
  obtain ⟨Y, hY⟩ : ∃ Y, w3.alloc (.cells #[.int .i64 K, .slice A3 nl d3] 24) = Y := ⟨_, rfl⟩
  have bY : Below w3.heap.size w3 Y := by rw [← hY]; exact belowAlloc _ _
  have HB3 : Hid (BoxR Y w3.heap.size K (.slice A3 nl d3)) := by rw [← hY]; exact Lib.hid (BoxR.new w3 K _)
  have HR3 := Lib.hid (hr3.below bY); clear hr3
  have HB2 := Lib.hid ((HB2.out.below b3).below bY)
  have HR2 := Lib.hid ((HR2.out.below b3).below bY)
  have hb3 := belowThen (belowThen hb2 b3) bY
  have hl2 := HB2.out.lt
  have hl3 := HB3.out.lt
  obtain ⟨c0, c1, _, _⟩ := HB2.out.facts
  obtain ⟨c2, c3, _, _⟩ := HB3.out.facts
  go_wp2_with (first
    | (go_at_call 13; refine (HSA.out A2 A3 d2 d3 _ HR2.out HR3.out).mono ?_; rintro e w7 ⟨rfl, b7⟩)
    | (go_at_call 8; refine (lExample _).mono ?_; rintro e w8 ⟨rfl, b8⟩)
    | fail)
  go_ret
  exact ⟨rfl, belowThen (belowThen hb3 b7) b8⟩
theorem lawReduces (N : Int) (l : Prs) (n : Nat) (hn : l.length = n) (A : Option Addr) (c : Nat) (w : World) (ha : Rp w A c l) :
    Calls Try.prog 6 #[relV N A n c] w fun e w' => e = .returned (.bool true) ∧ Below w.heap.size w w' := by
  by_cases hbig : 300 < n
  · exact lawReducesBig N n hbig A c w
  cases hv : okR N l with
  | false => exact lawReducesWith N l n hbig 0 [] 1 (by simp) (fun A c w h => iReductionArg N l n hn hv A c w h) (fun A c w h => rReductionArg N l n hn hv A c w h) A c w ha
  | true =>
    cases hc : acyR N l with
    | false => exact lawReducesWith N l n hbig 0 [] 20 (by simp) (fun A c w h => iReductionCycle N l n hn (by omega) hv hc A c w h) (fun A c w h => rReductionCycle N l n hn hv hc A c w h) A c w ha
    | true =>
      obtain ⟨m, rfl, hm⟩ := okNat hv
      have h1 := lenNrm m (redT m (tcT m (hasP l)))
      have h2 := Nat.mul_le_mul hm hm
      exact lawReducesWith m l n hbig m _ 0 (by omega) (fun A c w h => iReductionYes m l n hm hn (by omega) hv hc _ rfl A c w h) (fun A c w h => rReductionYes m l n hm hn hv hc _ rfl A c w h) A c w ha
end Go.Proofs.Ytpfdhjmhoggioaa
