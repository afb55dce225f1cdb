/-
  The contracts of Subsets of the program, and of the reference's comparison of two slices of slices.
-/
import Derived.Test.YthfllfdgndaddaaChoices
import Derived.WalkSpells
namespace Go.Proofs.Ythfllfdgndaddaa
open Go.RowKit

theorem choAll : ∀ k, ChoSaid k
  | 0 => fun F0 ls vs va vc c rest base n cr R w full kz hkz hfull hb hva hls hvc _ _ _ _ hc _ _ hf => by
    obtain rfl : kz = 0 := hkz
    exact choZero F0 ls vs va vc c rest base n cr R w full hfull hb hva hls hvc (by omega) hf
  | k + 1 => choSucc k (choAll k)

/-- The call returns a slice of slices that holds ls, and a number; nothing that was in memory has changed. -/
def GivesLs (ls : List (List Int)) (err : Int) (w : World) (e : Ending) (w' : World) : Prop :=
  ∃ v vs, e = .returned (.tuple #[v, .int .i64 err]) ∧ OwnL w' w.heap.size v vs ∧ IsL w' w.heap.size (fun _ => True) vs ls ∧ Below w.heap.size w w'

theorem shl12 {m : Nat} (h : m ≤ 12) : ∃ N : Nat, wrap64 (2 ^ m) = (N : Int) ∧ N ≤ 4096 := by
  have h1 : (2 : Nat) ^ m ≤ 2 ^ 12 := Nat.pow_le_pow_right (by omega) h
  refine ⟨2 ^ m, ?_, by omega⟩
  have e : ((2 : Int) ^ m) = ((2 ^ m : Nat) : Int) := by rw [Int.natCast_pow]; rfl
  rw [e]
  clear e
  generalize (2 : Nat) ^ m = N at *
  exact IntWalk.wrap64_in _ (by omega)
theorem upToBound {s : List Int} {k : Nat} (h : s.length ≤ 12) (hk : k ≤ 13) : (upTo s k).length ≤ 1000000 := by
  have h1 := lenUpTo s k k (Nat.le_refl _)
  have h2 : (2 : Nat) ^ s.length ≤ 2 ^ 12 := Nat.pow_le_pow_right (by omega) h
  have h3 : k * 2 ^ s.length ≤ 13 * 2 ^ 12 := Nat.mul_le_mul hk h2
  omega

set_option maxHeartbeats 1000000 in
theorem iSubsetsNo (l : List Int) (n : Nat) (hn : l.length = n) (hs : n ≤ 65536) (hbig : 12 < (mk l).length) (A : Option Addr) (c : Nat) (w : World) (ha : Rd w A c l) :
    Calls Try.prog 29 #[.slice A n c] w (GivesLs [] 4 w) := by
  have HA := Lib.hid ha; clear ha
  have HN := Lib.hid hn; clear hn
  have HL := lenMk l
  rw [HN.out] at HL
  obtain ⟨s, hsm⟩ : ∃ s, mk l = s := ⟨_, rfl⟩
  rw [hsm] at hbig HL
  have HS := Lib.hid hsm; clear hsm
  go_enter Try.func29, Try.ntmps29
  go_wp2_with fail
  refine (iSetOfN l n HN.out s HS.out hs A c _ HA.out).mono ?_
  rintro e w1 ⟨A1, c1, rfl, r1, b1⟩
  go_wp2
  go_ret2
  exact ⟨_, [], rfl, OwnL.nil _ _, trivial, b1⟩

set_option maxHeartbeats 1000000 in
theorem iSubsetsYes (l s : List Int) (hs' : mk l = s) (n : Nat) (hn : l.length = n) (hs : n ≤ 65536) (hbig : s.length ≤ 12) (A : Option Addr) (c : Nat) (w : World) (ha : Rd w A c l) :
    Calls Try.prog 29 #[.slice A n c] w (GivesLs (upTo s (s.length + 1)) 0 w) := by
  have HA := Lib.hid ha; clear ha
  have HN := Lib.hid hn; clear hn
  have HS := Lib.hid hs'; clear hs'
  go_enter Try.func29, Try.ntmps29
  go_wp2_with fail
  refine (iSetOfN l n HN.out s HS.out hs A c _ HA.out).mono ?_
  rintro e w1 ⟨A1, c1, rfl, r1, b1⟩
  obtain ⟨m, hm⟩ : ∃ m, s.length = m := ⟨_, rfl⟩
  rw [hm] at hbig ⊢
  have HM := Lib.hid hm; clear hm
  have R1 := Lib.hid r1; clear r1
  obtain ⟨N, hNC, hN⟩ := shl12 hbig
  have HNC := Lib.hid hNC; clear hNC
  obtain ⟨i0, hi, hz0, hz1, hz2⟩ := info_parts infoSl
  have hb2 : i0.bytes * N ≤ 281474976710656 := by rw [hz2]; omega
  have hb3 : N ≤ maxLen := by unfold maxLen; omega
  go_wp2_with (first
    | (at_make; refine wpList_make_own _ rfl _ _ 30 rfl w1.heap.size 22 i0 (.slice none 0 0) 1 Try.underlying30 hi hz0 hz1 .i64 .i64 _ N rfl rfl HNC.out hb2 hb3 (Nat.le_refl _) ?_; intro w2 o2 g2)
    | fail)
  have c2 : Chg w1 w2 (fun _ => True) := Chg.ofGrown g2 fun _ _ => by simp
  have REL0 : Hid (OwnL w2 w1.heap.size (.slice (some ⟨w1.heap.size, 0, none⟩) 0 N) [] ∧ IsL w2 w1.heap.size (fun _ => True) [] (upTo s 0) ∧ Below w1.heap.size w1 w2) := ⟨o2, trivial, c2.below fun _ _ => trivial⟩
  clear o2 g2 c2
  go_loopw [5, 19] (fun v i wr => ∃ (j : Nat) (vs : List Value), j ≤ m + 1 ∧ i = .int .i64 j ∧ Hid (OwnL wr w1.heap.size v vs ∧ IsL wr w1.heap.size (fun _ => True) vs (upTo s j) ∧ Below w1.heap.size w1 wr)) (fun _ i _ => m + 1 - (intOf i).toNat)
  case atStart => exact ⟨0, [], Nat.zero_le _, rfl, REL0⟩
  case round =>
    clear REL0
    obtain ⟨j, vs, hj, rfl, REL⟩ := hrel
    by_cases hlt : j < m + 1
    · have hb12 : s.length ≤ 12 := by rw [HM.out]; exact hbig
      have hbr := REL.out.2.2.size
      go_wp2_with fail
      refine (choAll j (fun _ => True) (upTo s j) vs _ (.slice none 0 0) [] s w1.heap.size m c1 A1 _ (upTo s (j + 1)) (j : Int) rfl (by rw [chsNil]; rfl) hbr REL.out.1 REL.out.2.1 (OwnI.nil _ _) (fun g _ => by simp [Value.ownBlock]) (R1.out.below REL.out.2.2) HM.out (by omega) (by simp; omega) (by omega)
        (fun ad e hl => ⟨by simp [Value.ownBlock], fun hg => ?_⟩) (upToBound hb12 (by omega))).mono ?_
      · have h1 := (World.ownsRow.lt REL.out.1 _ hg).1
        obtain ⟨ad', e', hlt', _⟩ := Rds.at_ R1.out (by simpa using hl)
        rw [e] at e'; injection e' with e'; subst e'
        omega
      rintro e w3 ⟨v3, vs3, rfl, r3⟩
      have R3 : Hid (OwnL w3 w1.heap.size v3 vs3 ∧ IsL w3 w1.heap.size (fun _ => True) vs3 (upTo s (j + 1)) ∧ Below w1.heap.size w1 w3) := by
        refine ⟨r3.all, r3.els.mono fun _ _ => trivial, (Chg.below ((Chg.ofBelow REL.out.2.2 fun _ => True).trans r3.chg fun i hi _ => ⟨by simp [Value.ownBlock], fun hg => ?_⟩) fun _ _ => trivial)⟩
        have h1 := (World.ownsRow.lt REL.out.1 _ hg).1
        omega
      clear r3
      go_wp2
      go_roundw
      case rel => exact ⟨j + 1, vs3, by omega, by go_num, R3⟩
      case measure => simp [intOf]; omega
    · obtain rfl : j = m + 1 := by omega
      go_wp2
      go_ret2
      rw [HM.out]
      exact ⟨_, vs, rfl, ownMono REL.out.1 b1.size, REL.out.2.1.base' b1.size, belowThen b1 REL.out.2.2⟩
end Go.Proofs.Ythfllfdgndaddaa
