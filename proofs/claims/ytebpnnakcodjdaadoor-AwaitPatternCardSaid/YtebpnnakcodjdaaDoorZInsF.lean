/-
  The contracts of the specification's functions that tell which fields an operation uses.
-/
import Derived.Test.YtebpnnakcodjdaaDoorZInsC
import Derived.IntWalk
namespace Go.Proofs.YtebpnnakcodjdaaDoor
open Go.RowKit

def strs (l : List ByteArray) : List Value := l.map Value.string
theorem rFields (w : World) :
    Calls Tryd.prog 71 #[] w fun e w' => ∃ A c, e = .returned (.slice A 22 c) ∧ Rds w' A c (strs fdTab) ∧ Below w.heap.size w w' := by
  have h1 := Rds.lit w (strs fdTab) 9 (by decide)
  have h2 := belowAlloc w (.cells (strs fdTab).toArray 9)
  go_enter Tryd.func71, Tryd.ntmps71
  go_wp2
  go_ret
  exact ⟨_, 22, rfl, h1, h2⟩
theorem strsAt {w : World} {A : Option Addr} {c : Nat} {l : List ByteArray} (h : Rds w A c (strs l)) {k : Nat} (hk : k < l.length) : ∃ ad, A = some ad ∧ w.cell? (ad.add k) = some (.string l[k]) := by
  obtain ⟨ad, e, _, hc⟩ := h.one (k := k) (by simpa [strs] using hk)
  exact ⟨ad, e, by simpa [strs] using hc⟩
theorem fdSize : ∀ m, m < 22 → (fd m).size ≤ 5 := by decide

theorem usYes {s : ByteArray} {b : Bool} {x : UInt8} {c : Nat} (h : b = decide (x ∈ s.data.toList)) (hc : x.toNat = c) {j : Nat} (hj : j < s.size) (he : ((s[j].toNat : Int) == (c : Int)) = true) : b = true := by
  rw [h, decide_eq_true_iff]
  have : s[j] = x := by
    have h1 : s[j].toNat = x.toNat := by rw [hc]; have h := beq_iff_eq.1 he; omega
    exact UInt8.toNat_inj.1 h1
  rw [← this]
  exact List.getElem_mem (l := s.data.toList) hj
theorem usNo {s : ByteArray} {b : Bool} {x : UInt8} {c : Nat} (h : b = decide (x ∈ s.data.toList)) (hc : x.toNat = c) (hn : ∀ y, y < s.size → ∀ hy : y < s.size, ((s[y].toNat : Int) == (c : Int)) = false) : b = false := by
  rw [h, decide_eq_false_iff_not]
  intro hm
  obtain ⟨j, hj, e⟩ := List.getElem_of_mem hm
  have hj' : j < s.size := hj
  have h1 := hn j hj' hj'
  have e' : s[j] = x := e
  rw [e', hc] at h1
  simp at h1

set_option maxHeartbeats 1000000 in
theorem rHasAt (m f : Nat) (hm : m < 22) (hf : f < 7) (c : Nat) (hc : (lt7.getD f 0).toNat = c) (w : World) :
    Calls Tryd.prog 62 #[.int .i64 ((m : Int) + 1), .int .u8 (c : Int)] w fun e w' => e = .returned (.bool (us (m + 1) f)) ∧ Below w.heap.size w w' := by
  have HU := Lib.hid (usHas m hm f hf)
  have h22 : m < fdTab.length := hm
  have hsz := fdSize m hm
  have hgt : fdTab[m] = fd m := by
    unfold fd
    rw [List.getD_eq_getElem?_getD, List.getElem?_eq_getElem h22]
    rfl
  have HG := Lib.hid hgt; clear hgt
  have HC := Lib.hid hc; clear hc
  have hwr : IntKind.i64.wrap ((m : Int) + 1 - 1) = m := by rw [show (m : Int) + 1 - 1 = m by omega]; exact IntWalk.i64_in _ (by omega)
  go_enter Tryd.func62, Tryd.ntmps62
  go_wp2_with fail
  refine (rFields _).mono ?_
  rintro e w1 ⟨A, cp, rfl, hr, hb⟩
  obtain ⟨ad, rfl, hcell⟩ := strsAt hr h22
  rw [HG.out] at hcell
  clear hr
  generalize hs : fd m = s at *
  go_wp2_with fail
  go_loop [4, 6] (fun r i => ∃ j : Nat, j ≤ s.size ∧ r = .bool false ∧ i = .int .i64 j ∧ Hid (∀ x, x < j → ∀ hx : x < s.size, ((s[x].toNat : Int) == (c : Int)) = false)) (fun _ i => s.size - (intOf i).toNat)
  case atStart => exact ⟨0, Nat.zero_le _, rfl, rfl, Lib.hid fun x hx => by omega⟩
  case round =>
    obtain ⟨j, hj, rfl, rfl, HD⟩ := hrel
    by_cases hlt : j < s.size
    · go_wp2
      · go_ret
        have h : ((s[j].toNat : Int) == (c : Int)) = true := by assumption
        exact ⟨retB (usYes HU.out HC.out hlt h).symm, hb⟩
      · have h : ((s[j].toNat : Int) == (c : Int)) = false := by assumption
        refine ⟨⟨j + 1, by omega, rfl, by go_num, Lib.hid fun x hx hx2 => ?_⟩, by simp [intOf]; omega⟩
        by_cases e : x = j
        · subst e; exact h
        · exact HD.out x (by omega) hx2
    · obtain rfl : j = s.size := by omega
      go_wp2
      go_ret
      exact ⟨retB (usNo HU.out HC.out HD.out).symm, hb⟩
end Go.Proofs.YtebpnnakcodjdaaDoor
