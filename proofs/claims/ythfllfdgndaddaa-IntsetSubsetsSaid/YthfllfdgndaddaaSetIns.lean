/-
  The contracts of the reference's functions that make sets.
-/
import Derived.Test.YthfllfdgndaddaaSetReads
import Derived.Test.YthfllfdgndaddaaOwnI
namespace Go.Proofs.Ythfllfdgndaddaa
open Go.RowKit

set_option maxHeartbeats 400000 in
theorem rInsert (l : List Int) (n : Int) (r : List Int) (hr : ins n l = r) (hs : l.length ≤ 65536) (A : Option Addr) (c : Nat) (w : World) (ha : Rd w A c l) :
    Calls Try.prog 35 #[.slice A l.length c, .int .i64 n] w (GivesL r w) := by
  have hla := ha.le
  have hca := ha.max
  unfold maxLen at hca
  have HA := Lib.hid ha; clear ha
  have HR := Lib.hid hr; clear hr
  have hO := Lib.hid (OwnI.made w w.heap.size (Nat.le_refl _))
  go_enter Try.func35, Try.ntmps35
  go_wp2
  go_loop [5] (fun i => ∃ k : Nat, k ≤ l.length ∧ i = .int .i64 k ∧ Hid (∀ x ∈ l.take k, x < n)) (fun i => l.length - (intOf i).toNat)
  case atStart => exact ⟨0, Nat.zero_le _, rfl, Lib.hid (by simp)⟩
  case round =>
    obtain ⟨k, hk, rfl, HT⟩ := hrel
    by_cases hgo : ∃ h : k < l.length, l[k] < n
    · obtain ⟨hlt, hx⟩ := hgo
      obtain ⟨ad, rfl, _, hc⟩ := HA.out.one hlt
      have HX := Lib.hid (ltTakeSucc hlt HT.out hx)
      generalize l[k] = x at *
      go_wp2
      go_round
      case rel => exact ⟨k + 1, by omega, by go_num, HX⟩
      case measure => simp [intOf]; omega
    · have HX := Lib.hid (HR.out.symm.trans (insAt HT.out (fun h hh => hgo ⟨h, hh⟩) hk).symm)
      have HK := Lib.hid ((HA.out.below ((Below.refl _ w).alloc (Nat.le_refl _) (.cells #[] 3))).take k hk)
      have hkl : (l.take k).length = k := by rw [List.length_take]; omega
      have HKL := Lib.hid hkl; clear hkl
      by_cases hlt : k < l.length
      · obtain ⟨ad, rfl, _, hc⟩ := HA.out.one hlt
        have hx : ¬ l[k] < n := fun hh => hgo ⟨hlt, hh⟩
        generalize l[k] = x at *
        have hck : ¬ c = k := by omega
        have HD := HA.out.drop k hk
        rw [if_neg hck] at HD
        have HD' := Lib.hid HD; clear HD
        go_wp2_with (first
          | (at_builtin; refine appI _ rfl (.tmp 21) (.tmp 24) rfl w.heap.size _ [] rfl hO.out _ k c (l.take k) rfl HKL.out.symm HK.out (by simp; omega) (by simp) ?_; intro v1 w1 o1 _ b1; have B1 := stepA0 b1)
          | (at_builtin; refine appI _ rfl (.tmp 26) (.tmp 28) rfl w.heap.size _ _ rfl (o1.alloc _) (some ⟨w1.heap.size, 0, none⟩) 1 1 [n] rfl rfl (Rd.lit w1 [n] 3 (by simp)) (by simp; omega) (by have := B1.size; simp; omega) ?_; intro v2 w2 o2 _ b2; have B2 := stepA B1 b2)
          | (at_builtin; refine appI _ rfl (.tmp 30) (.tmp 33) rfl w.heap.size _ _ rfl o2 _ _ _ (l.drop k) rfl (by simp; done) (HD'.out.below B2) (by simp; omega) B2.size ?_; intro v3 w3 o3 _ b3; have B3 := B2.trans b3))
        rw [List.nil_append, ← HX.out] at o3
        obtain ⟨A3, c3, rfl, r3, _⟩ := o3.rd
        go_ret
        exact ⟨A3, c3, rfl, r3, B3⟩
      · have hkl : k = l.length := by omega
        subst hkl
        clear hgo
        have hz : (l.length - l.length : Nat) = 0 := by omega
        have HY := Lib.hid (show r = l.take l.length ++ [n] ++ [] by rw [HX.out, List.drop_length]; done)
        by_cases hck : c = l.length
        · have HD := HA.out.drop l.length hk
          rw [if_pos hck] at HD
          subst hck
          rw [Nat.sub_self, List.drop_length] at HD
          have HD' := Lib.hid HD; clear HD
          go_wp2_with (first
            | (at_builtin; refine appI _ rfl (.tmp 21) (.tmp 24) rfl w.heap.size _ [] rfl hO.out _ l.length l.length (l.take l.length) rfl HKL.out.symm HK.out (by simp; omega) (by simp) ?_; intro v1 w1 o1 _ b1; have B1 := stepA0 b1)
            | (at_builtin; refine appI _ rfl (.tmp 26) (.tmp 28) rfl w.heap.size _ _ rfl (o1.alloc _) (some ⟨w1.heap.size, 0, none⟩) 1 1 [n] rfl rfl (Rd.lit w1 [n] 3 (by simp)) (by simp; omega) (by have := B1.size; simp; omega) ?_; intro v2 w2 o2 _ b2; have B2 := stepA B1 b2)
            | (at_builtin; refine appI _ rfl (.tmp 30) (.tmp 33) rfl w.heap.size _ _ rfl o2 _ _ _ [] rfl (by simp; done) (HD'.out.below B2) (by simp; omega) B2.size ?_; intro v3 w3 o3 _ b3; have B3 := B2.trans b3))
          rw [List.nil_append, ← HY.out] at o3
          obtain ⟨A3, c3, rfl, r3, _⟩ := o3.rd
          go_ret
          exact ⟨A3, c3, rfl, r3, B3⟩

        · have HD := HA.out.drop l.length hk
          rw [if_neg hck] at HD
          rw [List.drop_length] at HD
          have HD' := Lib.hid HD; clear HD
          go_wp2_with (first
            | (at_builtin; refine appI _ rfl (.tmp 21) (.tmp 24) rfl w.heap.size _ [] rfl hO.out _ l.length c (l.take l.length) rfl HKL.out.symm HK.out (by simp; omega) (by simp) ?_; intro v1 w1 o1 _ b1; have B1 := stepA0 b1)
            | (at_builtin; refine appI _ rfl (.tmp 26) (.tmp 28) rfl w.heap.size _ _ rfl (o1.alloc _) (some ⟨w1.heap.size, 0, none⟩) 1 1 [n] rfl rfl (Rd.lit w1 [n] 3 (by simp)) (by simp; omega) (by have := B1.size; simp; omega) ?_; intro v2 w2 o2 _ b2; have B2 := stepA B1 b2)
            | (at_builtin; refine appI _ rfl (.tmp 30) (.tmp 33) rfl w.heap.size _ _ rfl o2 _ _ _ [] rfl (by simp; done) (HD'.out.below B2) (by simp; omega) B2.size ?_; intro v3 w3 o3 _ b3; have B3 := B2.trans b3))
          rw [List.nil_append, ← HY.out] at o3
          obtain ⟨A3, c3, rfl, r3, _⟩ := o3.rd
          go_ret
          exact ⟨A3, c3, rfl, r3, B3⟩

end Go.Proofs.Ythfllfdgndaddaa
