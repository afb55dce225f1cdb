/-
  The contracts of allow and Is.
-/
import Derived.Test.YtjioiaeiggjneaaDoorKLinA
import Derived.Test.YtjioiaeiggjneaaDoorKLinX
import Derived.Test.YtjioiaeiggjneaaDoorKLinF
import Derived.Test.YtjioiaeiggjneaaDoorKOwnI
namespace Go.Proofs.YtjioiaeiggjneaaDoor
open Go.RowKit

/-- Each integer of the list can follow those ahead of it. -/
def okI (N : Nat) (f : Nat → Nat → Bool) : Nat → List Int → Bool
  | _, [] => true
  | s, a :: t => decide (0 ≤ a) && (nxtS N f s).testBit a.toNat && okI N f (addS s a.toNat) t
/-- The integers are a linear extension. -/
def allowB (N : Nat) (f : Nat → Nat → Bool) (o : List Int) : Bool := decide (o.length = N) && okI N f 0 o
theorem okIDrop {N : Nat} {f : Nat → Nat → Bool} {s k : Nat} {o : List Int} (hk : k < o.length) : okI N f s (o.drop k) = (decide (0 ≤ o[k]) && (nxtS N f s).testBit o[k].toNat && okI N f (addS s o[k].toNat) (o.drop (k + 1))) := by
  rw [List.drop_eq_getElem_cons hk, okI]
set_option maxRecDepth 100000 in
set_option maxHeartbeats 2000000 in
theorem iAllow (N : Nat) (hN : N ≤ 64) (f : Nat → Nat → Bool) (A : Option Addr) (c : Nat) (o : List Int) (n : Nat) (hn : o.length = n) (B : Option Addr) (d : Nat) (w : World) (hb : Bef w A c N f) (hT : Tbl w) (ho : Rd w B d o) :
    Calls Tryd.prog 16 #[.slice A N c, .slice B n d] w fun e w' => e = .returned (.bool (allowB N f o)) ∧ Below w.heap.size w w' := by
  by_cases he : n = N
  · subst he
    have hla := ho.le
    have hca := ho.max
    unfold maxLen at hca
    rw [hn] at hla
    have HN := Lib.hid hn
    have HO := Lib.hid ho
    have HB := Lib.hid hb
    have HT := Lib.hid hT
    have HR := Lib.hid (show allowB n f o = okI n f 0 (o.drop 0) by unfold allowB; rw [hn, decide_eq_true rfl, Bool.true_and, List.drop_zero])
    clear hn ho hb hT
    go_enter Tryd.func16, Tryd.ntmps16
    go_wp2
    go_loopw [5, 15] (fun vs vk wr => ∃ (k s : Nat), k ≤ n ∧ vs = .int .u64 s ∧ vk = .int .i64 k ∧ Hid (allowB n f o = okI n f s (o.drop k)) ∧ Hid (s < B64) ∧ Hid (Below w.heap.size w wr)) (fun _ v _ => n - (intOf v).toNat)
    case atStart => exact ⟨0, 0, Nat.zero_le _, rfl, rfl, HR, Lib.hid (by decide), Lib.hid (Below.refl _ _)⟩
    case round =>
      clear HR
      obtain ⟨k, s, hk, rfl, rfl, HR, HS, HBR⟩ := hrel
      by_cases hlt : k < n
      · have hkl : k < o.length := by rw [HN.out]; exact hlt
        obtain ⟨ad, rfl, _, hc⟩ := (HO.out.below HBR.out).one hkl
        have HE := Lib.hid (HR.out.trans (okIDrop hkl))
        obtain ⟨a, ha⟩ : ∃ a, o[k] = a := ⟨_, rfl⟩
        rw [ha] at hc HE
        have HNX := Lib.hid (iNext n hN f A c s wr (HB.out.below HBR.out) (HT.out.below HBR.out))
        have HM := Lib.hid (nxtSLt hN f s)
        by_cases hok : (decide (0 ≤ a) && (nxtS n f s).testBit a.toNat) = true
        · have HH := Lib.hid (fun w' => iHasS (nxtS n f s) a HM.out true hok w')
          rw [hok, Bool.true_and] at HE
          rw [Bool.and_eq_true, decide_eq_true_iff, nxtSBit, decide_eq_true_iff] at hok
          obtain ⟨b, hb⟩ : ∃ b : Nat, a = (b : Int) := ⟨a.toNat, by omega⟩
          have hbn : b < n := by have := (nxtMem.1 hok.2).1; rw [hb] at this; exact this
          have HW := Lib.hid (fun w' => iWith s b HS.out (by omega) w')
          have HL := Lib.hid (addLt HS.out (show b < 64 by omega))
          rw [hb] at HE HH hc
          clear hok ha hb hk
          go_wp2_with fail
          refine HNX.out.mono ?_
          rintro e w2 ⟨rfl, hb2⟩
          have HB2 := Lib.hid (belowThen HBR.out hb2)
          clear hc hb2
          go_wp2_with fail
          refine (HH.out _).mono ?_
          rintro e w3 ⟨rfl, rfl⟩
          go_wp2_with fail
          refine (HW.out _).mono ?_
          rintro e w3 ⟨rfl, rfl⟩
          go_wp2
          exact ⟨⟨k + 1, _, by omega, rfl, by go_num, HE, HL, HB2⟩, by simp [intOf]; omega⟩
        · have hok : (decide (0 ≤ a) && (nxtS n f s).testBit a.toNat) = false := by simpa using hok
          have HH := Lib.hid (fun w' => iHasS (nxtS n f s) a HM.out false hok w')
          rw [hok, Bool.false_and] at HE
          clear hok ha hk
          go_wp2_with fail
          refine HNX.out.mono ?_
          rintro e w2 ⟨rfl, hb2⟩
          have HB2 := Lib.hid (belowThen HBR.out hb2)
          clear hc hb2
          go_wp2_with fail
          refine (HH.out _).mono ?_
          rintro e w3 ⟨rfl, rfl⟩
          go_wp2
          go_ret
          exact ⟨retB HE.out.symm, HB2.out⟩
      · obtain rfl : k = n := by omega
        have HE := Lib.hid (show true = allowB k f o by rw [HR.out, List.drop_of_length_le (by rw [HN.out]; exact Nat.le_refl _)]; rfl)
        go_wp2
        go_ret
        exact ⟨retB HE.out, HBR.out⟩
  · have HE : Hid (false = allowB N f o) := Lib.hid (by unfold allowB; rw [hn, decide_eq_false he]; rfl)
    have h1 : (n != N) = true := by simpa using he
    have h2 : ((n : Int) != (N : Int)) = true := by simp; omega
    clear hn ho hb hT
    go_enter Tryd.func16, Tryd.ntmps16
    go_wp2
    go_ret
    exact ⟨retB HE.out, Below.refl _ _⟩
/-- The integers are a linear extension of a valid relation. -/
def isB (N : Int) (l : Prs) (o : List Int) : Bool := okR N l && allowB N.toNat (hasP l) o
end Go.Proofs.YtjioiaeiggjneaaDoor
