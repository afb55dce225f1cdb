/-
  The contracts of slices.Grow at the nil slice, slices.Concat and join at slices of bytes: the parts one after another, in a row of the call's own.
-/
import Derived.Test.YtcbipokohjajoaaBy
import Derived.Outline
import Derived.LoopTactic
import Derived.WalkKit
import Derived.Lib.Hide
import Derived.Lib.AppendZeros
namespace Go.Proofs.Ytcbipokohjajoaa
open Go.RowKit

/-- The slices vs read as the bytes ls. -/
def RdBs (w : World) : List Value → List (List UInt8) → Prop
  | [], [] => True
  | v :: vs, l :: ls => (∃ A c, v = .slice A l.length c ∧ Rb w A c l) ∧ RdBs w vs ls
  | _, _ => False
theorem RdBs.len {w : World} : ∀ {vs : List Value} {ls : List (List UInt8)}, RdBs w vs ls → vs.length = ls.length
  | [], [], _ => rfl
  | _ :: _, _ :: _, h => by rw [List.length_cons, List.length_cons, RdBs.len h.2]
theorem RdBs.below {w w' : World} (hb : Below w.heap.size w w') : ∀ {vs : List Value} {ls : List (List UInt8)}, RdBs w vs ls → RdBs w' vs ls
  | [], [], _ => trivial
  | _ :: _, _ :: _, h => by obtain ⟨⟨A, c, e, hr⟩, h2⟩ := h; exact ⟨⟨A, c, e, hr.below hb⟩, RdBs.below hb h2⟩
theorem RdBs.at_ {w : World} : ∀ {vs : List Value} {ls : List (List UInt8)}, RdBs w vs ls → ∀ {i : Nat} (hi : i < ls.length), ∃ A c, vs[i]? = some (.slice A ls[i].length c) ∧ Rb w A c ls[i]
  | v :: _, _ :: _, h, 0, _ => by obtain ⟨⟨A, c, e, hr⟩, _⟩ := h; exact ⟨A, c, by rw [e]; rfl, hr⟩
  | _ :: vs, _ :: ls, h, i + 1, hi => by
    obtain ⟨A, c, h1, h2⟩ := RdBs.at_ (vs := vs) (ls := ls) h.2 (i := i) (by simpa using hi)
    exact ⟨A, c, by simpa using h1, by simpa using h2⟩
  | [], [], _, _, hi => absurd hi (by simp)
theorem flatNext {ls : List (List UInt8)} {k : Nat} (h : k < ls.length) : (ls.take (k + 1)).flatten = (ls.take k).flatten ++ ls[k] := by
  rw [List.take_succ_eq_append_getElem h, List.flatten_append]; simp
theorem flatLe : ∀ (ls : List (List UInt8)) (k : Nat), (ls.take k).flatten.length ≤ ls.flatten.length
  | [], k => by simp
  | l :: ls, 0 => by simp
  | l :: ls, k + 1 => by simp only [List.take_succ_cons, List.flatten_cons, List.length_append]; have := flatLe ls k; omega
theorem flatAll {ls : List (List UInt8)} {k : Nat} (h : ls.length ≤ k) : (ls.take k).flatten = ls.flatten := by rw [List.take_of_length_le h]

theorem iGrow (n : Nat) (h : n ≤ 500000) (w : World) : Calls Try.prog 46 #[.slice none 0 0, .int .i64 n] w (GivesO [] w) := by
  rcases Nat.eq_zero_or_pos n with h0 | h0
  · subst h0
    go_enter Try.func46, Try.ntmps46
    go_wp2
    go_ret
    exact GivesO.of (OwnB.nil _ _) (Below.refl _ _)
  · obtain ⟨i0, hi, hz0, hz1, hz2⟩ := info_parts infoB
    have happ := Lib.run_append_nil_zeros (P := Try.prog) w 22 3 22 5 i0 (.int .u8 0) .i64 .i64 Try.underlying22 Try.underlying3 hi hz0 n (by omega) (by omega) (by omega) (by rw [hz2]; omega)
    generalize hcap : grownCap w n 0 5 = cap2 at happ
    have hcapge : n ≤ cap2 := by rw [← hcap]; exact grownCap_ge w _ 0 5
    have hcaple : cap2 ≤ maxLen := by rw [← hcap]; exact grownCap_le_maxLen w _ 0 5 (by unfold maxLen; omega)
    generalize hZ : (Builtin.zeroCells (Value.int .u8 0).cells n ++ Builtin.zeroCells (Value.int .u8 0).cells (cap2 - n)) = Z at happ
    have hZs : Z.size = cap2 := by rw [← hZ]; simp [size_zeroCells, Value.cells]; omega
    have hn : ¬ (n : Int) < 0 := by omega
    have hp : (n : Int) > 0 := by omega
    have hO := Lib.hid (World.ownsRow_made (e := 5) w.drew (base := w.heap.size) (size := 1) Z cap2 (by simp) hcaple (by omega))
    clear hcap hZ hz0 hz1 hz2 hi
    unfold maxLen at hcaple
    go_enter Try.func46, Try.ntmps46
    go_wp2_with (at_builtin; refine Lib.wpList_append_run _ rfl _ _ _ _ rfl _ _ rfl rfl _ _ happ ?_)
    go_ret
    exact GivesO.of hO.out (by exact ((Below.refl _ w).drew).alloc (by simp) _)

set_option maxHeartbeats 400000 in
theorem iConcat (ls : List (List UInt8)) (vs : List Value) (n : Nat) (hn : vs.length = n) (hs : ls.flatten.length ≤ 500000) (hc : n ≤ 65536) (A : Option Addr) (c : Nat) (w : World) (ha : Rds w A c vs) (hb : RdBs w vs ls) :
    Calls Try.prog 45 #[.slice A n c] w (GivesO ls.flatten w) := by
  subst hn
  have hlen := hb.len
  obtain ⟨n, hn⟩ : ∃ n, vs.length = n := ⟨_, rfl⟩
  rw [hn] at hlen hc ⊢
  have HN := Lib.hid hn; clear hn
  have HL := Lib.hid hlen; clear hlen
  have HA := Lib.hid ha; clear ha
  have HB := Lib.hid hb; clear hb
  obtain ⟨R, hR⟩ : ∃ R, ls.flatten = R := ⟨_, rfl⟩
  rw [hR] at hs ⊢
  have HR := Lib.hid hR; clear hR
  go_enter Try.func45, Try.ntmps45
  go_wp2
  go_loop [3, 11] (fun s i => ∃ k m : Nat, k ≤ n ∧ i = .int .i64 k ∧ s = .int .i64 m ∧ m ≤ 500000 ∧ Hid ((ls.take k).flatten.length = m)) (fun _ i => n - (intOf i).toNat)
  case atStart => exact ⟨0, 0, Nat.zero_le _, rfl, rfl, by omega, Lib.hid (by simp)⟩
  case round =>
    obtain ⟨k, m, hk, rfl, rfl, hm, HM⟩ := hrel
    by_cases hlt : k < n
    · have hkl : k < ls.length := by have := HL.out; omega
      obtain ⟨A', c', e1, r1⟩ := HB.out.at_ hkl
      obtain ⟨ad, rfl, _, hcell⟩ := HA.out.at_ (by have := HN.out; omega)
      have hcw := hcell k _ e1
      have hx : (ls.take (k + 1)).flatten.length = m + ls[k].length := by rw [flatNext hkl, List.length_append, HM.out]
      have hle := flatLe ls (k + 1)
      rw [hx, HR.out] at hle
      have HX := Lib.hid hx; clear hx e1 r1 hcell
      generalize ls[k].length = q at *
      go_wp2
      go_round
      case rel => exact ⟨k + 1, m + q, by omega, by go_num, by go_num, by omega, HX⟩
      case measure => simp [intOf]; omega
    · have hm0 : m ≤ 500000 := hm
      clear HM
      go_wp2_with fail
      refine (iGrow m hm0 w).mono ?_
      rintro e w1 ⟨AG, qG, cG, rfl, hqG, og, hb1⟩
      obtain rfl : 0 = qG := hqG.out
      have HO := Lib.hid og; clear og
      have hz1 := hb1.size
      go_wp2
      go_loopw [6, 27] (fun vo i wr => ∃ k : Nat, k ≤ n ∧ i = .int .i64 k ∧ OwnB wr w.heap.size vo (ls.take k).flatten ∧ Below w.heap.size w wr) (fun _ i _ => n - (intOf i).toNat)
      case atStart => exact ⟨0, Nat.zero_le _, rfl, by simpa using HO.out, hb1⟩
      case round =>
        obtain ⟨j, hj, rfl, os, hb2⟩ := hrel
        have hz2 := hb2.size
        by_cases hlt2 : j < n
        · have hkl : j < ls.length := by have := HL.out; omega
          obtain ⟨A', c', e1, r1⟩ := HB.out.at_ hkl
          obtain ⟨ad, rfl, hbl, hcell⟩ := HA.out.at_ (by have := HN.out; omega)
          have hcw := (hb2.cell (p := ad.add j) (by rw [addBlock]; exact hbl)).trans (hcell j _ e1)
          have HX := Lib.hid (flatNext hkl)
          have hle := flatLe ls (j + 1)
          rw [HX.out, HR.out, List.length_append] at hle
          have HR1 := Lib.hid (r1.below hb2); clear r1 hcell e1
          generalize ls[j] = q at *
          obtain ⟨nq, hnq⟩ : ∃ nq, q.length = nq := ⟨_, rfl⟩
          rw [hnq] at hcw
          have HNQ := Lib.hid hnq; clear hnq
          have HO2 := Lib.hid os; clear os
          go_wp2_with (at_builtin; refine appB _ rfl (.tmp 31) (.tmp 32) rfl w.heap.size _ _ rfl HO2.out A' nq c' q rfl HNQ.out.symm HR1.out (by omega) hz2 ?_; intro v2 w2 o2 b2)
          go_roundw
          case rel => exact ⟨j + 1, by omega, by go_num, by rw [HX.out]; exact o2, hb2.trans b2⟩
          case measure => simp [intOf]; omega
        · have HX := Lib.hid (show (ls.take j).flatten = R by rw [flatAll (by have := HL.out; omega), HR.out])
          rw [HX.out] at os
          go_wp2
          go_ret
          exact GivesO.of os hb2
theorem iJoin (ls : List (List UInt8)) (vs : List Value) (n : Nat) (hn : vs.length = n) (hs : ls.flatten.length ≤ 500000) (hc : n ≤ 65536) (A : Option Addr) (c : Nat) (w : World) (ha : Rds w A c vs) (hb : RdBs w vs ls) :
    Calls Try.prog 36 #[.slice A n c] w (GivesO ls.flatten w) := by
  have HC := Lib.hid (iConcat ls vs n hn hs hc A c w ha hb)
  obtain ⟨R, hR⟩ : ∃ R, ls.flatten = R := ⟨_, rfl⟩
  rw [hR] at HC ⊢
  clear hR ha hb hn hs
  go_enter Try.func36, Try.ntmps36
  go_wp2_with fail
  refine HC.out.mono ?_
  rintro e w1 ⟨A, q, c, rfl, hq, h1, h2⟩
  go_wp2
  go_ret
  exact ⟨A, q, c, rfl, hq, h1, h2⟩
end Go.Proofs.Ytcbipokohjajoaa
