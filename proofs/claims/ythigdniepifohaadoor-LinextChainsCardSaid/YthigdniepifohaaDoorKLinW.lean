/-
  The contracts of allow and Is.
-/
import Derived.Test.YthigdniepifohaaDoorKLinA
import Derived.Test.YthigdniepifohaaDoorKLinX
import Derived.Test.YthigdniepifohaaDoorKLinF
import Derived.Test.YthigdniepifohaaDoorKOwnI
namespace Go.Proofs.YthigdniepifohaaDoor
open Go.RowKit

/-- Each integer of the list can follow those ahead of it. -/
def okI (N : Nat) (f : Nat → Nat → Bool) : Nat → List Int → Bool
  | _, [] => true
  | s, a :: t => decide (0 ≤ a) && (nxtS N f s).testBit a.toNat && okI N f (addS s a.toNat) t
/-- The integers are a linear extension. -/
def allowB (N : Nat) (f : Nat → Nat → Bool) (o : List Int) : Bool := decide (o.length = N) && okI N f 0 o
theorem okIDrop {N : Nat} {f : Nat → Nat → Bool} {s k : Nat} {o : List Int} (hk : k < o.length) : okI N f s (o.drop k) = (decide (0 ≤ o[k]) && (nxtS N f s).testBit o[k].toNat && okI N f (addS s o[k].toNat) (o.drop (k + 1))) := by
  rw [List.drop_eq_getElem_cons hk, okI]
set_option maxRecDepth 100000 in
set_option maxHeartbeats 2000000 in
theorem iAllow (N : Nat) (hN : N ≤ 64) (f : Nat → Nat → Bool) (A : Option Addr) (c : Nat) (o : List Int) (n : Nat) (hn : o.length = n) (B : Option Addr) (d : Nat) (w : World) (hb : Bef w A c N f) (hT : Tbl w) (ho : Rd w B d o) :
    Calls Tryd.prog 39 #[.slice A N c, .slice B n d] w fun e w' => e = .returned (.bool (allowB N f o)) ∧ Below w.heap.size w w' := by
  by_cases he : n = N
  · subst he
    have hla := ho.le
    have hca := ho.max
    unfold maxLen at hca
    rw [hn] at hla
    have HN := Lib.hid hn
    have HO := Lib.hid ho
    have HB := Lib.hid hb
    have HT := Lib.hid hT
    have HR := Lib.hid (show allowB n f o = okI n f 0 (o.drop 0) by unfold allowB; rw [hn, decide_eq_true rfl, Bool.true_and, List.drop_zero])
    clear hn ho hb hT
    go_enter Tryd.func39, Tryd.ntmps39
    go_wp2
    go_loopw [5, 15] (fun vs vk wr => ∃ (k s : Nat), k ≤ n ∧ vs = .int .u64 s ∧ vk = .int .i64 k ∧ Hid (allowB n f o = okI n f s (o.drop k)) ∧ Hid (s < B64) ∧ Hid (Below w.heap.size w wr)) (fun _ v _ => n - (intOf v).toNat)
    case atStart => exact ⟨0, 0, Nat.zero_le _, rfl, rfl, HR, Lib.hid (by decide), Lib.hid (Below.refl _ _)⟩
    case round =>
      clear HR
      obtain ⟨k, s, hk, rfl, rfl, HR, HS, HBR⟩ := hrel
      by_cases hlt : k < n
      · have hkl : k < o.length := by rw [HN.out]; exact hlt
        obtain ⟨ad, rfl, _, hc⟩ := (HO.out.below HBR.out).one hkl
        have HE := Lib.hid (HR.out.trans (okIDrop hkl))
        obtain ⟨a, ha⟩ : ∃ a, o[k] = a := ⟨_, rfl⟩
        rw [ha] at hc HE
        have HNX := Lib.hid (iNext n hN f A c s wr (HB.out.below HBR.out) (HT.out.below HBR.out))
        have HM := Lib.hid (nxtSLt hN f s)
        by_cases hok : (decide (0 ≤ a) && (nxtS n f s).testBit a.toNat) = true
        · have HH := Lib.hid (fun w' => iHasS (nxtS n f s) a HM.out true hok w')
          rw [hok, Bool.true_and] at HE
          rw [Bool.and_eq_true, decide_eq_true_iff, nxtSBit, decide_eq_true_iff] at hok
          obtain ⟨b, hb⟩ : ∃ b : Nat, a = (b : Int) := ⟨a.toNat, by omega⟩
          have hbn : b < n := by have := (nxtMem.1 hok.2).1; rw [hb] at this; exact this
          have HW := Lib.hid (fun w' => iWith s b HS.out (by omega) w')
          have HL := Lib.hid (addLt HS.out (show b < 64 by omega))
          rw [hb] at HE HH hc
          clear hok ha hb hk
          go_wp2_with fail
          refine HNX.out.mono ?_
          rintro e w2 ⟨rfl, hb2⟩
          have HB2 := Lib.hid (belowThen HBR.out hb2)
          clear hc hb2
          go_wp2_with fail
          refine (HH.out _).mono ?_
          rintro e w3 ⟨rfl, rfl⟩
          go_wp2_with fail
          refine (HW.out _).mono ?_
          rintro e w3 ⟨rfl, rfl⟩
          go_wp2
          exact ⟨⟨k + 1, _, by omega, rfl, by go_num, HE, HL, HB2⟩, by simp [intOf]; omega⟩
        · have hok : (decide (0 ≤ a) && (nxtS n f s).testBit a.toNat) = false := by simpa using hok
          have HH := Lib.hid (fun w' => iHasS (nxtS n f s) a HM.out false hok w')
          rw [hok, Bool.false_and] at HE
          clear hok ha hk
          go_wp2_with fail
          refine HNX.out.mono ?_
          rintro e w2 ⟨rfl, hb2⟩
          have HB2 := Lib.hid (belowThen HBR.out hb2)
          clear hc hb2
          go_wp2_with fail
          refine (HH.out _).mono ?_
          rintro e w3 ⟨rfl, rfl⟩
          go_wp2
          go_ret
          exact ⟨retB HE.out.symm, HB2.out⟩
      · obtain rfl : k = n := by omega
        have HE := Lib.hid (show true = allowB k f o by rw [HR.out, List.drop_of_length_le (by rw [HN.out]; exact Nat.le_refl _)]; rfl)
        go_wp2
        go_ret
        exact ⟨retB HE.out, HBR.out⟩
  · have HE : Hid (false = allowB N f o) := Lib.hid (by unfold allowB; rw [hn, decide_eq_false he]; rfl)
    have h1 : (n != N) = true := by simpa using he
    have h2 : ((n : Int) != (N : Int)) = true := by simp; omega
    clear hn ho hb hT
    go_enter Tryd.func39, Tryd.ntmps39
    go_wp2
    go_ret
    exact ⟨retB HE.out, Below.refl _ _⟩
/-- The integers are a linear extension of a valid relation. -/
def isB (N : Int) (l : Prs) (o : List Int) : Bool := okR N l && allowB N.toNat (hasP l) o
set_option maxRecDepth 100000 in
theorem iIs (N : Int) (l : Prs) (n : Nat) (hn : l.length = n) (A : Option Addr) (c : Nat) (o : List Int) (m : Nat) (hm : o.length = m) (B : Option Addr) (d : Nat) (w : World) (ha : Rp w A c l) (hT : Tbl w) (ho : Rd w B d o) :
    Calls Tryd.prog 14 #[relV N A n c, .slice B m d] w fun e w' => e = .returned (.bool (isB N l o)) ∧ Below w.heap.size w w' := by
  obtain ⟨W, hW⟩ : ∃ W, w.alloc (.cells #[.int .i64 N, .slice A n c] 24) = W := ⟨_, rfl⟩
  have HB0 : Hid (BoxR W w.heap.size N (.slice A n c)) := by rw [← hW]; exact Lib.hid (BoxR.new w N _)
  have hbW : Below w.heap.size w W := by rw [← hW]; exact belowAlloc w _
  obtain ⟨z0, z1, _, _⟩ := HB0.out.facts
  have HA := Lib.hid (ha.below hbW)
  have HO := Lib.hid (ho.below hbW)
  have HT := Lib.hid (hT.below hbW)
  clear ha ho hT
  cases hr : okR N l with
  | false =>
    have HV := Lib.hid (iValid N l n hn _ hr A c W HA.out)
    have HE : Hid (false = isB N l o) := Lib.hid (by unfold isB; rw [hr]; rfl)
    clear hr hn hm
    go_enter Tryd.func14, Tryd.ntmps14
    go_wp2_with fail
    refine HV.out.mono ?_
    rintro e w1 ⟨rfl, hb1⟩
    go_wp2
    go_ret
    exact ⟨retB HE.out, belowThen hbW hb1⟩
  | true =>
    have HV := Lib.hid (iValid N l n hn _ hr A c W HA.out)
    obtain ⟨k, hk⟩ : ∃ k : Nat, N = (k : Int) := ⟨N.toNat, by have := (okIff.1 hr).1; omega⟩
    subst hk
    have hk64 : k ≤ 64 := by have := (okIff.1 hr).2.1; omega
    have HE : Hid (allowB k (hasP l) o = isB k l o) := Lib.hid (by unfold isB; rw [hr]; rfl)
    have HP := Lib.hid (fun w' (h : Rp w' A c l) => iPreds k hk64 l n hn hr A c w' h)
    have HL := Lib.hid (fun A c w' hb hT ho => iAllow k hk64 (hasP l) A c o m hm B d w' hb hT ho)
    clear hr hn hm
    go_enter Tryd.func14, Tryd.ntmps14
    go_wp2_with fail
    refine HV.out.mono ?_
    rintro e w1 ⟨rfl, hb1⟩
    have HB1 : Hid (BoxR w1 w.heap.size k (.slice A n c)) := Lib.hid (HB0.out.below hb1)
    obtain ⟨c0, c1, _, _⟩ := HB1.out.facts
    go_wp2_with fail
    refine (HP.out _ (HA.out.below hb1)).mono ?_
    rintro e w2 ⟨g, rfl, hB, hb2⟩
    have HBF := Lib.hid hB; clear hB
    go_wp2_with fail
    refine (HL.out _ _ _ HBF.out ((HT.out.below hb1).below hb2) ((HO.out.below hb1).below hb2)).mono ?_
    rintro e w3 ⟨rfl, hb3⟩
    go_wp2
    go_ret
    exact ⟨retB HE.out, belowThen (belowThen (belowThen hbW hb1) hb2) hb3⟩
end Go.Proofs.YthigdniepifohaaDoor
