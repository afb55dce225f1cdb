/-
  The contracts of the reference's functions Has, insert and Make on sets of integers.
-/
import Derived.Test.YtnnpkbonbemeaaaDoorUOwn
import Derived.Test.YtnnpkbonbemeaaaDoorProg
import Derived.Test.YtnnpkbonbemeaaaDoorRows
import Derived.Deep.QuietTactic
import Derived.BigQuiet
import Derived.Outline
import Derived.LoopTactic
import Derived.Test.YtnnpkbonbemeaaaDoorUPure
namespace Go.Proofs.YtnnpkbonbemeaaaDoor
open Go.RowKit

set_option maxHeartbeats 400000 in
theorem rHas (l : List Int) (n : Int) (r : Bool) (hr : memB l n = r) (A : Option Addr) (c : Nat) (w : World) (ha : Rd w A c l) :
    Calls Tryd.prog 140 #[.slice A l.length c, .int .i64 n] w fun e w' => e = .returned (.bool r) ∧ w = w' := by
  have hla := ha.le
  have hca := ha.max
  unfold maxLen at hca
  have HA := Lib.hid ha; clear ha
  have HR := Lib.hid hr; clear hr
  go_enter Tryd.func140, Tryd.ntmps140
  go_wp2
  go_loop [5] (fun i => ∃ k : Nat, k ≤ l.length ∧ i = .int .i64 k ∧ Hid (∀ x ∈ l.take k, x ≠ n)) (fun i => l.length - (intOf i).toNat)
  case atStart => exact ⟨0, Nat.zero_le _, rfl, Lib.hid (by simp)⟩
  case round =>
    obtain ⟨k, hk, rfl, HT⟩ := hrel
    by_cases hlt : k < l.length
    · obtain ⟨ad, rfl, _, hc⟩ := HA.out.one hlt
      by_cases hx : l[k] = n
      · have HX := Lib.hid (HR.out.symm.trans (memB_yes hlt hx))
        rw [hx] at hc
        clear hx
        have hyy : (n == n) = true := by simp
        go_wp2
        go_ret
        exact ⟨retB HX.out.symm, rfl⟩
      · have HX := Lib.hid (neTakeSucc hlt HT.out hx)
        generalize l[k] = x at *
        have hyy : (x == n) = false := by simpa using hx
        go_wp2
        go_round
        case rel => exact ⟨k + 1, by omega, by go_num, HX⟩
        case measure => simp [intOf]; omega
    · have HX := Lib.hid (HR.out.symm.trans (memB_no (by omega) HT.out))
      go_wp2
      go_ret
      exact ⟨retB HX.out.symm, rfl⟩

set_option maxHeartbeats 400000 in
theorem rInsert (l : List Int) (n : Int) (r : List Int) (hr : ins n l = r) (hs : l.length ≤ 65536) (A : Option Addr) (c : Nat) (w : World) (ha : Rd w A c l) :
    Calls Tryd.prog 141 #[.slice A l.length c, .int .i64 n] w (GivesL r w) := by
  have hla := ha.le
  have hca := ha.max
  unfold maxLen at hca
  have HA := Lib.hid ha; clear ha
  have HR := Lib.hid hr; clear hr
  have hO := Lib.hid (OwnI.made w w.heap.size (Nat.le_refl _))
  go_enter Tryd.func141, Tryd.ntmps141
  go_wp2
  go_loop [5] (fun i => ∃ k : Nat, k ≤ l.length ∧ i = .int .i64 k ∧ Hid (∀ x ∈ l.take k, x < n)) (fun i => l.length - (intOf i).toNat)
  case atStart => exact ⟨0, Nat.zero_le _, rfl, Lib.hid (by simp)⟩
  case round =>
    obtain ⟨k, hk, rfl, HT⟩ := hrel
    by_cases hgo : ∃ h : k < l.length, l[k] < n
    · obtain ⟨hlt, hx⟩ := hgo
      obtain ⟨ad, rfl, _, hc⟩ := HA.out.one hlt
      have HX := Lib.hid (ltTakeSucc hlt HT.out hx)
      generalize l[k] = x at *
      go_wp2
      go_round
      case rel => exact ⟨k + 1, by omega, by go_num, HX⟩
      case measure => simp [intOf]; omega
    · have HX := Lib.hid (HR.out.symm.trans (insAt HT.out (fun h hh => hgo ⟨h, hh⟩) hk).symm)
      have HK := Lib.hid ((HA.out.below ((Below.refl _ w).alloc (Nat.le_refl _) (.cells #[] 3))).take k hk)
      have hkl : (l.take k).length = k := by rw [List.length_take]; omega
      have HKL := Lib.hid hkl; clear hkl
      by_cases hlt : k < l.length
      · obtain ⟨ad, rfl, _, hc⟩ := HA.out.one hlt
        have hx : ¬ l[k] < n := fun hh => hgo ⟨hlt, hh⟩
        generalize l[k] = x at *
        have hck : ¬ c = k := by omega
        have HD := HA.out.drop k hk
        rw [if_neg hck] at HD
        have HD' := Lib.hid HD; clear HD
        go_wp2_with (first
          | (at_builtin; refine appI _ rfl (.tmp 21) (.tmp 24) rfl w.heap.size _ [] rfl hO.out _ k c (l.take k) rfl HKL.out.symm HK.out (by simp; omega) (by simp) ?_; intro v1 w1 o1 _ b1; have B1 := stepA0 b1)
          | (at_builtin; refine appI _ rfl (.tmp 26) (.tmp 28) rfl w.heap.size _ _ rfl (o1.alloc _) (some ⟨w1.heap.size, 0, none⟩) 1 1 [n] rfl rfl (Rd.lit w1 [n] 3 (by simp)) (by simp; omega) (by have := B1.size; simp; omega) ?_; intro v2 w2 o2 _ b2; have B2 := stepA B1 b2)
          | (at_builtin; refine appI _ rfl (.tmp 30) (.tmp 33) rfl w.heap.size _ _ rfl o2 _ _ _ (l.drop k) rfl (by simp; done) (HD'.out.below B2) (by simp; omega) B2.size ?_; intro v3 w3 o3 _ b3; have B3 := B2.trans b3))
        rw [List.nil_append, ← HX.out] at o3
        obtain ⟨A3, c3, rfl, r3, _⟩ := o3.rd
        go_ret
        exact ⟨A3, c3, rfl, r3, B3⟩
      · have hkl : k = l.length := by omega
        subst hkl
        clear hgo
        have hz : (l.length - l.length : Nat) = 0 := by omega
        have HY := Lib.hid (show r = l.take l.length ++ [n] ++ [] by rw [HX.out, List.drop_length]; done)
        by_cases hck : c = l.length
        · have HD := HA.out.drop l.length hk
          rw [if_pos hck] at HD
          subst hck
          rw [Nat.sub_self, List.drop_length] at HD
          have HD' := Lib.hid HD; clear HD
          go_wp2_with (first
            | (at_builtin; refine appI _ rfl (.tmp 21) (.tmp 24) rfl w.heap.size _ [] rfl hO.out _ l.length l.length (l.take l.length) rfl HKL.out.symm HK.out (by simp; omega) (by simp) ?_; intro v1 w1 o1 _ b1; have B1 := stepA0 b1)
            | (at_builtin; refine appI _ rfl (.tmp 26) (.tmp 28) rfl w.heap.size _ _ rfl (o1.alloc _) (some ⟨w1.heap.size, 0, none⟩) 1 1 [n] rfl rfl (Rd.lit w1 [n] 3 (by simp)) (by simp; omega) (by have := B1.size; simp; omega) ?_; intro v2 w2 o2 _ b2; have B2 := stepA B1 b2)
            | (at_builtin; refine appI _ rfl (.tmp 30) (.tmp 33) rfl w.heap.size _ _ rfl o2 _ _ _ [] rfl (by simp; done) (HD'.out.below B2) (by simp; omega) B2.size ?_; intro v3 w3 o3 _ b3; have B3 := B2.trans b3))
          rw [List.nil_append, ← HY.out] at o3
          obtain ⟨A3, c3, rfl, r3, _⟩ := o3.rd
          go_ret
          exact ⟨A3, c3, rfl, r3, B3⟩

        · have HD := HA.out.drop l.length hk
          rw [if_neg hck] at HD
          rw [List.drop_length] at HD
          have HD' := Lib.hid HD; clear HD
          go_wp2_with (first
            | (at_builtin; refine appI _ rfl (.tmp 21) (.tmp 24) rfl w.heap.size _ [] rfl hO.out _ l.length c (l.take l.length) rfl HKL.out.symm HK.out (by simp; omega) (by simp) ?_; intro v1 w1 o1 _ b1; have B1 := stepA0 b1)
            | (at_builtin; refine appI _ rfl (.tmp 26) (.tmp 28) rfl w.heap.size _ _ rfl (o1.alloc _) (some ⟨w1.heap.size, 0, none⟩) 1 1 [n] rfl rfl (Rd.lit w1 [n] 3 (by simp)) (by simp; omega) (by have := B1.size; simp; omega) ?_; intro v2 w2 o2 _ b2; have B2 := stepA B1 b2)
            | (at_builtin; refine appI _ rfl (.tmp 30) (.tmp 33) rfl w.heap.size _ _ rfl o2 _ _ _ [] rfl (by simp; done) (HD'.out.below B2) (by simp; omega) B2.size ?_; intro v3 w3 o3 _ b3; have B3 := B2.trans b3))
          rw [List.nil_append, ← HY.out] at o3
          obtain ⟨A3, c3, rfl, r3, _⟩ := o3.rd
          go_ret
          exact ⟨A3, c3, rfl, r3, B3⟩


set_option maxHeartbeats 400000 in
theorem rMake (l : List Int) (r : List Int) (hr : mk l = r) (hs : l.length ≤ 65536) (A : Option Addr) (c : Nat) (w : World) (ha : Rd w A c l) :
    Calls Tryd.prog 120 #[.slice A l.length c] w (GivesL r w) := by
  have hla := ha.le
  have hca := ha.max
  unfold maxLen at hca
  have HA := Lib.hid ha; clear ha
  have HR := Lib.hid hr; clear hr
  go_enter Tryd.func120, Tryd.ntmps120
  go_wp2
  go_loopw [3, 4] (fun o i wr => ∃ (k : Nat) (A' : Option Addr) (c' : Nat) (s : List Int), k ≤ l.length ∧ i = .int .i64 k ∧ o = .slice A' s.length c' ∧ Hid (mk (l.take k) = s) ∧ Rd wr A' c' s ∧ Below w.heap.size w wr) (fun _ i _ => l.length - (intOf i).toNat)
  case atStart => exact ⟨0, some ⟨w.heap.size, 0, none⟩, 0, [], Nat.zero_le _, rfl, rfl, Lib.hid rfl, Rd.lit w [] 3 (by simp), (Below.refl _ _).alloc (Nat.le_refl _) _⟩
  case round =>
    obtain ⟨k, A', c', s, hk, rfl, rfl, HT, rs, hb⟩ := hrel
    have hsl : s.length ≤ k := by
      have := lenMk (l.take k); rw [HT.out, List.length_take] at this; omega
    by_cases hlt : k < l.length
    · obtain ⟨ad, rfl, _, hc⟩ := (HA.out.below hb).one hlt
      have HM := Lib.hid ((mkSucc hlt).trans (by rw [HT.out]))
      rcases hx : memB s l[k] with _ | _
      · have HX := Lib.hid (HM.out.trans (addNo hx))
        have HY := Lib.hid hx; clear hx
        generalize l[k] = x at *
        go_wp2_with fail
        refine (rHas s x false HY.out A' c' _ rs).mono ?_
        rintro e w' ⟨rfl, rfl⟩
        go_wp2_with fail
        refine (rInsert s x (ins x s) rfl (by omega) A' c' _ rs).mono ?_
        rintro e w1 ⟨A1, c1, rfl, r1, b1⟩
        go_wp2
        go_roundw
        case rel => exact ⟨k + 1, A1, c1, _, by omega, by go_num, rfl, HX, r1, belowThen hb b1⟩
        case measure => simp [intOf]; omega
      · have HX := Lib.hid (HM.out.trans (addYes hx))
        have HY := Lib.hid hx; clear hx
        generalize l[k] = x at *
        go_wp2_with fail
        refine (rHas s x true HY.out A' c' _ rs).mono ?_
        rintro e w' ⟨rfl, rfl⟩
        go_wp2
        go_roundw
        case rel => exact ⟨k + 1, A', c', _, by omega, by go_num, rfl, HX, rs, hb⟩
        case measure => simp [intOf]; omega
    · have hkl : k = l.length := by omega
      have e : r = s := by rw [← HR.out, ← HT.out, hkl, List.take_length]
      have HE := Lib.hid e; clear e
      clear hkl
      go_wp2
      go_ret
      rw [HE.out]
      exact ⟨A', c', rfl, rs, hb⟩

theorem rMakeN (l : List Int) (n : Nat) (hn : n = l.length) (r : List Int) (hr : mk l = r) (hs : l.length ≤ 65536) (A : Option Addr) (c : Nat) (w : World) (ha : Rd w A c l) :
    Calls Tryd.prog 120 #[.slice A n c] w (GivesL r w) := by
  subst hn; exact rMake l r hr hs A c w ha

end Go.Proofs.YtnnpkbonbemeaaaDoor
