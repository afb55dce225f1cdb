/-
  The contract of acyclic: what stands before each number, or the error.
-/
import Derived.Test.YtjioiaeiggjneaaDoorKLinP
import Derived.Test.YtjioiaeiggjneaaDoorKRAcT
namespace Go.Proofs.YtjioiaeiggjneaaDoor
open Go.RowKit

/-- The error that all functions have in common. -/
noncomputable def errA (N : Int) (l : Prs) : Int := if okR N l = true then (if acyR N l = true then 0 else 20) else 1
/-- What acyclic gives. -/
def GivesA (w : World) (e : Ending) (N : Int) (l : Prs) : Prop :=
  (acyR N l = true → ∃ g, e = .returned (.tuple #[.slice (some ⟨g, 0, none⟩) N.toNat N.toNat, .int .i64 0]) ∧ Bef w (some ⟨g, 0, none⟩) N.toNat N.toNat (hasP l)) ∧
  (acyR N l = false → e = .returned (.tuple #[.slice none 0 0, .int .i64 (errA N l)]))
theorem acyOk {N : Int} {l : Prs} (h : acyR N l = true) : okR N l = true := by
  unfold acyR at h
  rw [Bool.and_eq_true] at h
  exact h.1
set_option maxRecDepth 100000 in
theorem iAcyc (N : Int) (l : Prs) (n : Nat) (hn : l.length = n) (hs : n ≤ 65536) (A : Option Addr) (c : Nat) (w : World) (ha : Rp w A c l) :
    Calls Tryd.prog 15 #[relV N A n c] w fun e w' => GivesA w' e N l ∧ Below w.heap.size w w' := by
  obtain ⟨W, hW⟩ : ∃ W, w.alloc (.cells #[.int .i64 N, .slice A n c] 24) = W := ⟨_, rfl⟩
  have HB0 : Hid (BoxR W w.heap.size N (.slice A n c)) := by rw [← hW]; exact Lib.hid (BoxR.new w N _)
  have hbW : Below w.heap.size w W := by rw [← hW]; exact belowAlloc w _
  have HA := Lib.hid (ha.below hbW)
  have HS := Lib.hid hs; clear ha hs
  obtain ⟨z0, z1, _, _⟩ := HB0.out.facts
  cases hr : okR N l with
  | false =>
    have HV := Lib.hid (iValid N l n hn _ hr A c W HA.out)
    have HE : Hid (∀ v w', v = Value.tuple #[.slice none 0 0, .int .i64 1] → Below w.heap.size w w' → GivesA w' (.returned v) N l ∧ Below w.heap.size w w') := Lib.hid fun v w' e hb => by
      have ha0 : acyR N l = false := by unfold acyR; rw [hr]; rfl
      refine ⟨⟨(by rw [ha0]; exact fun h => absurd h (by decide)), fun _ => ?_⟩, hb⟩
      unfold errA; rw [hr, e]; rfl
    clear hr hn
    go_enter Tryd.func15, Tryd.ntmps15
    go_wp2_with fail
    refine HV.out.mono ?_
    rintro e w1 ⟨rfl, hb1⟩
    go_wp2
    go_ret2
    exact HE.out _ _ rfl (belowThen hbW hb1)
  | true =>
    have HV := Lib.hid (iValid N l n hn _ hr A c W HA.out)
    obtain ⟨m, hm⟩ : ∃ m : Nat, N = (m : Int) := ⟨N.toNat, by have := (okIff.1 hr).1; omega⟩
    subst hm
    have hm64 : m ≤ 64 := by have := (okIff.1 hr).2.1; omega
    cases hc : acyR m l with
    | false =>
      have HC := Lib.hid (fun w' (h : Rp w' A c l) => iAcyclic m l n hn HS.out A c w' h)
      have HE : Hid (∀ v w', v = Value.tuple #[.slice none 0 0, .int .i64 20] → Below w.heap.size w w' → GivesA w' (.returned v) m l ∧ Below w.heap.size w w') := Lib.hid fun v w' e hb => by
        refine ⟨⟨(by rw [hc]; exact fun h => absurd h (by decide)), fun _ => ?_⟩, hb⟩
        unfold errA; rw [hr, hc, e]; rfl
      rw [hc] at HC
      clear hr hn hc
      go_enter Tryd.func15, Tryd.ntmps15
      go_wp2_with fail
      refine HV.out.mono ?_
      rintro e w1 ⟨rfl, hb1⟩
      have HB1 : Hid (BoxR w1 w.heap.size m (.slice A n c)) := Lib.hid (HB0.out.below hb1)
      obtain ⟨c0, c1, _, _⟩ := HB1.out.facts
      go_wp2_with fail
      refine (HC.out _ (HA.out.below hb1)).mono ?_
      rintro e w2 ⟨rfl, hb2⟩
      go_wp2
      go_ret2
      exact HE.out _ _ rfl (belowThen (belowThen hbW hb1) hb2)
    | true =>
      have HC := Lib.hid (fun w' (h : Rp w' A c l) => iAcyclic m l n hn HS.out A c w' h)
      have HP := Lib.hid (fun w' (h : Rp w' A c l) => iPreds m hm64 l n hn hr A c w' h)
      have HE : Hid (∀ g v w', v = Value.tuple #[.slice (some ⟨g, 0, none⟩) m m, .int .i64 0] → Bef w' (some ⟨g, 0, none⟩) m m (hasP l) → Below w.heap.size w w' → GivesA w' (.returned v) m l ∧ Below w.heap.size w w') := Lib.hid fun g v w' e hB hb =>
        ⟨⟨fun _ => ⟨g, by rw [e]; rfl, hB⟩, (by rw [hc]; exact fun h => absurd h (by decide))⟩, hb⟩
      rw [hc] at HC
      clear hr hn hc
      go_enter Tryd.func15, Tryd.ntmps15
      go_wp2_with fail
      refine HV.out.mono ?_
      rintro e w1 ⟨rfl, hb1⟩
      have HB1 : Hid (BoxR w1 w.heap.size m (.slice A n c)) := Lib.hid (HB0.out.below hb1)
      obtain ⟨c0, c1, _, _⟩ := HB1.out.facts
      go_wp2_with fail
      refine (HC.out _ (HA.out.below hb1)).mono ?_
      rintro e w2 ⟨rfl, hb2⟩
      have HB2 : Hid (BoxR w2 w.heap.size m (.slice A n c)) := Lib.hid (HB1.out.below hb2)
      obtain ⟨d0, d1, _, _⟩ := HB2.out.facts
      go_wp2_with fail
      refine (HP.out _ ((HA.out.below hb1).below hb2)).mono ?_
      rintro e w3 ⟨g, rfl, hB, hb3⟩
      have HBF := Lib.hid hB; clear hB
      go_wp2
      go_ret2
      exact HE.out g _ _ rfl HBF.out (belowThen (belowThen (belowThen hbW hb1) hb2) hb3)
end Go.Proofs.YtjioiaeiggjneaaDoor
