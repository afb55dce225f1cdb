/-
  The contract of the reference's Cycle.
-/
import Derived.Test.YtpfdhjmhoggioaaRRefS
import Derived.Test.YtpfdhjmhoggioaaRCyc
namespace Go.Proofs.Ytpfdhjmhoggioaa
open Go.RowKit Go.Maps

set_option maxRecDepth 100000 in
set_option maxHeartbeats 4000000 in
theorem rCycleNo (N : Int) (l : Prs) (n : Nat) (hn : l.length = n) (hv : okR N l = false) (A : Option Addr) (c : Nat) (w : World) (ha : Rp w A c l) :
    Calls Try.prog 23 #[relV N A n c] w (GivesC [] false w) := by
  obtain ⟨W, hW⟩ : ∃ W, w.alloc (.cells #[.int .i64 N, .slice A n c] 24) = W := ⟨_, rfl⟩
  have HB0 : Hid (BoxR W w.heap.size N (.slice A n c)) := by rw [← hW]; exact Lib.hid (BoxR.new w N _)
  have hbW : Below w.heap.size w W := by rw [← hW]; exact belowAlloc w _
  have HA := Lib.hid (ha.below hbW); clear ha
  have HN := Lib.hid hn; clear hn
  obtain ⟨c0, c1, _, _⟩ := HB0.out.facts
  have HV := Lib.hid hv; clear hv
  go_enter Try.func23, Try.ntmps23
  go_wp2_with fail
  refine (rValid N l n HN.out false HV.out A c _ HA.out).mono ?_
  rintro e w1 ⟨rfl, b1⟩
  go_wp2
  go_ret2
  exact ⟨none, 0, rfl, Rd.nil, hbW.trans (b1.mono hbW.size)⟩

/-- The best start below s, in the two variables of the reference's loop. -/
def BestR (N : Nat) (f : Nat → Nat → Bool) (s : Nat) (wr : World) (g0 : Nat) (b : Int) (v : Value) : Prop :=
  (bst N f s = none ∧ b = -1 ∧ v = .slice none 0 0) ∨ (∃ m : Nat, bst N f s = some m ∧ b = (m : Int) ∧ m < N ∧ ∃ g, v = .slice (some ⟨g, 0, none⟩) N N ∧ RowI wr g N (fun x => dst N f x m) ∧ g0 ≤ g)
theorem BestR.below {N : Nat} {f : Nat → Nat → Bool} {s : Nat} {wr wr' : World} {g0 : Nat} {b : Int} {v : Value} (h : BestR N f s wr g0 b v) (hb : Below wr.heap.size wr wr') : BestR N f s wr' g0 b v := by
  rcases h with h | ⟨m, h1, h2, h3, g, h4, h5, h6⟩
  · exact .inl h
  · exact .inr ⟨m, h1, h2, h3, g, h4, h5.chg (Chg.ofBelow hb fun _ => True) trivial, h6⟩

set_option maxRecDepth 100000 in
set_option maxHeartbeats 4000000 in
theorem rCycleYes (N : Nat) (hN : N ≤ 64) (l : Prs) (n : Nat) (hn : l.length = n) (hv : okR N l = true) (f : Nat → Nat → Bool) (hf : hasP l = f) (A : Option Addr) (c : Nat) (w : World) (ha : Rp w A c l) :
    Calls Try.prog 23 #[relV N A n c] w (GivesC (ni (cyc N f)) (!acyB N f) w) := by
  obtain ⟨M, hM⟩ : ∃ M, N * N = M := ⟨_, rfl⟩
  have hM2 : M ≤ 4096 := by have h := Nat.mul_le_mul hN hN; omega
  have HT := Lib.hid (fun w' ha' => rTable N hN l n hn hv M hM A c w' ha')
  rw [hf] at HT
  have HD := Lib.hid (fun t ht g w' hr => rDist N hN f M hM t ht g w' hr)
  have HN := Lib.hid hn
  have HV := Lib.hid hv
  clear hn hv hf
  obtain ⟨W, hW⟩ : ∃ W, w.alloc (.cells #[.int .i64 N, .slice A n c] 24) = W := ⟨_, rfl⟩
  have HB0 : Hid (BoxR W w.heap.size N (.slice A n c)) := by rw [← hW]; exact Lib.hid (BoxR.new w N _)
  have hbW : Below w.heap.size w W := by rw [← hW]; exact belowAlloc w _
  have HA := Lib.hid (ha.below hbW); clear ha
  obtain ⟨c0, c1, _, _⟩ := HB0.out.facts
  go_enter Try.func23, Try.ntmps23
  go_wp2_with fail
  refine (rValid N l n HN.out true HV.out A c _ HA.out).mono ?_
  rintro e w1 ⟨rfl, b1⟩
  have HB0 := Lib.hid (HB0.out.below b1)
  have HA := Lib.hid (HA.out.below b1)
  have hb1 := belowThen hbW b1
  obtain ⟨c0, c1, _, _⟩ := HB0.out.facts
  go_wp2_with fail
  refine (HT.out _ HA.out).mono ?_
  rintro e w2 ⟨gx, rfl, hrx, hgx, b2⟩
  have HX := Lib.hid hrx; clear hrx
  have HB0 := Lib.hid (HB0.out.below b2)
  have hb2 := belowThen hb1 b2
  obtain ⟨c0, c1, _, _⟩ := HB0.out.facts
  go_wp2
  have hl0 := HB0.out.lt
  have hgx2 := HX.out.lt
  have HB0W := Lib.hid (fun w' (b : Below w2.heap.size w2 w') => (HB0.out.below b).facts)
  clear c0 c1
  go_loopw [5, 6, 7] (fun v5 v6 v7 wr => ∃ (a : Nat) (b : Int), v7 = .int .i64 a ∧ v5 = .int .i64 b ∧ a ≤ N ∧ Hid (BestR N f a wr w2.heap.size b v6) ∧ Below w2.heap.size w2 wr) (fun _ _ v7 _ => N - (intOf v7).toNat)
  case atStart => exact ⟨0, -1, rfl, rfl, Nat.zero_le _, Lib.hid (.inl ⟨rfl, rfl, rfl⟩), Below.refl _ _⟩
  case round =>
    obtain ⟨a, b, rfl, rfl, haN, HBR, hbr⟩ := hrel
    obtain ⟨c0, c1, _, _⟩ := HB0W.out _ hbr
    by_cases hlt : a < N
    · go_wp2_with fail
      refine (HD.out a hlt gx _ (HX.out.chg (Chg.ofBelow hbr fun _ => True) trivial)).mono ?_
      rintro e w5 ⟨gd, rfl, hd, hgd, b5⟩
      have hcs := hd.cell hlt
      have hb5 := belowThen hbr b5
      have HBR5 := Lib.hid (HBR.out.below b5); clear HBR
      have HG := Lib.hid hd; clear hd
      have hgd2 : w2.heap.size ≤ gd := Nat.le_trans hbr.size hgd
      have HYES := Lib.hid (show bst N f (a + 1) = some a → ∀ q, BestR N f (a + 1) (w5.drewN q) w2.heap.size a (.slice (some ⟨gd, 0, none⟩) N N) from fun h q => .inr ⟨a, h, rfl, hlt, gd, rfl, HG.out.chg (Chg.drewN w5 q fun _ => True) trivial, hgd2⟩)
      rcases HBR5.out with ⟨hbs, rfl, rfl⟩ | ⟨m, hbs, rfl, hmN, gb, rfl, hrb, hgb⟩
      · have hstep : bst N f (a + 1) = if 0 < dst N f a a then some a else none := by rw [bst, hbs]
        obtain ⟨D, hD⟩ : ∃ D, dst N f a a = D := ⟨_, rfl⟩
        rw [hD] at hcs hstep
        clear hD hbs
        rcases Nat.eq_zero_or_pos D with rfl | hp
        · have HN5 := Lib.hid (show BestR N f (a + 1) w5 w2.heap.size (-1) (.slice none 0 0) from .inl ⟨by rw [hstep]; rfl, rfl, rfl⟩)
          clear hstep
          go_wp2
          go_quiet (fail)
          all_goals go_wp2
          all_goals go_roundw
          case rel => exact ⟨a + 1, -1, by go_num, rfl, by omega, Lib.hid (HN5.out.below (belowN _ _)), belowDrewN hb5 _⟩
          case measure => simp [intOf]; omega
        · have HN5 := Lib.hid (HYES.out (by rw [hstep, if_pos hp]))
          have q1 : decide ((D : Int) > 0) = true := by simp; omega
          clear hstep
          go_wp2
          go_quiet (fail)
          all_goals go_wp2
          all_goals go_roundw
          case rel => exact ⟨a + 1, a, by go_num, rfl, by omega, Lib.hid (HN5.out _), belowDrewN hb5 _⟩
          case measure => simp [intOf]; omega
      · have hstep : bst N f (a + 1) = if 0 < dst N f a a ∧ dst N f a a < dst N f m m then some a else some m := by rw [bst, hbs]
        have hcb := hrb.cell hmN
        have HKEEP := Lib.hid (show bst N f (a + 1) = some m → ∀ q, BestR N f (a + 1) (w5.drewN q) w2.heap.size m (.slice (some ⟨gb, 0, none⟩) N N) from fun h q => .inr ⟨m, h, rfl, hmN, gb, rfl, hrb.chg (Chg.drewN w5 q fun _ => True) trivial, hgb⟩)
        obtain ⟨D, hD⟩ : ∃ D, dst N f a a = D := ⟨_, rfl⟩
        obtain ⟨E, hE⟩ : ∃ E, dst N f m m = E := ⟨_, rfl⟩
        rw [hD] at hcs hstep
        rw [hE] at hcb hstep
        have q0 : decide ((m : Int) < 0) = false := by simp
        clear hD hE hbs hrb
        rcases Nat.eq_zero_or_pos D with rfl | hp
        · have HN5 := Lib.hid (HKEEP.out (by rw [hstep, if_neg (by omega)]))
          clear hstep
          go_wp2
          go_quiet (fail)
          all_goals go_wp2
          all_goals go_roundw
          case rel => exact ⟨a + 1, m, by go_num, rfl, by omega, Lib.hid (HN5.out _), belowDrewN hb5 _⟩
          case measure => simp [intOf]; omega
        · have q1 : decide ((D : Int) > 0) = true := by simp; omega
          by_cases hde : D < E
          · have HN5 := Lib.hid (HYES.out (by rw [hstep, if_pos ⟨hp, hde⟩]))
            have q2 : decide ((D : Int) < (E : Int)) = true := by simp; omega
            clear hstep
            go_wp2
            go_quiet (fail)
            all_goals go_wp2
            all_goals go_roundw
            case rel => exact ⟨a + 1, a, by go_num, rfl, by omega, Lib.hid (HN5.out _), belowDrewN hb5 _⟩
            case measure => simp [intOf]; omega
          · have HN5 := Lib.hid (HKEEP.out (by rw [hstep, if_neg fun h => hde h.2]))
            have q2 : decide ((D : Int) < (E : Int)) = false := by simp; omega
            clear hstep
            go_wp2
            go_quiet (fail)
            all_goals go_wp2
            all_goals go_roundw
            case rel => exact ⟨a + 1, m, by go_num, rfl, by omega, Lib.hid (HN5.out _), belowDrewN hb5 _⟩
            case measure => simp [intOf]; omega
    · obtain rfl : a = N := by omega
      have hbw := belowThen hb2 hbr
      rcases HBR.out with ⟨hbs, rfl, rfl⟩ | ⟨m, hbs, rfl, hmN, gb, rfl, hrb, hgb⟩
      · have e1 : cyc a f = [] := by unfold cyc; rw [hbs]
        have e2 : acyB a f = true := acyIff.2 (bstAcy.1 hbs)
        have E1 := Lib.hid e1
        have E2 := Lib.hid e2
        clear e1 e2 hbs HBR
        go_wp2
        go_ret2
        show GivesC _ _ _ _ _
        rw [E1.out, E2.out]
        exact ⟨none, 0, rfl, Rd.nil, hbw⟩
      · obtain ⟨k, hk⟩ : ∃ k, dst a f m m = k + 1 := ⟨dst a f m m - 1, by have := (bstSome hbs).2; omega⟩
        have e1 : cyc a f = m :: wlk a f m k m := by unfold cyc; rw [hbs]; show m :: wlk a f m (dst a f m m - 1) m = _; rw [hk, Nat.add_sub_cancel]
        have e2 : acyB a f = false := by
          cases e : acyB a f
          · rfl
          · have := bstAcy.2 (acyIff.1 e)
            rw [hbs] at this; cases this
        have E1 := Lib.hid e1
        have E2 := Lib.hid e2
        have hkN : k + 1 ≤ a := by rw [← hk]; exact dstMax hmN
        have hcb := hrb.cell hmN
        rw [hk] at hcb
        have HK := Lib.hid hk
        have HRB := Lib.hid hrb
        have q0 : decide ((m : Int) < 0) = false := by simp
        have hw0 : IntKind.i64.wrap (((k + 1 : Nat) : Int) - 1) = (k : Int) := by rw [IntKind.wrap_i64]; omega
        have hw1 : IntKind.i64.wrap ((k : Int) + 1 - 1) = (k : Int) := by rw [IntKind.wrap_i64]; omega
        have hcl : ∀ o : Obj, (wr.alloc o).cell? ⟨gb, m, none⟩ = some (.int .i64 ((k + 1 : Nat) : Int)) := fun o => ((belowAlloc wr o).cell hrb.lt).trans hcb
        clear e1 e2 hbs hrb hk
        go_wp2
        have HO0 := Lib.hid (OwnI.litC wr wr.heap.size m (Nat.le_refl _))
        have HRL := Lib.hid (Rd.lit wr [(m : Int)] 3 (by simp))
        obtain ⟨X, hX⟩ : ∃ X, wr.alloc (.cells #[.int .i64 m] 3) = X := ⟨_, rfl⟩
        have bX : Below wr.heap.size wr X := by rw [← hX]; exact belowAlloc _ _
        rw [hX] at HO0 ⊢
        clear hX hcl HRL
        obtain ⟨wq, hwq⟩ : ∃ x, x = wr := ⟨wr, rfl⟩
        subst hwq
        go_loopw [9, 10, 11] (fun v9 v10 v11 wx => ∃ (x q : Nat) (pre : List Nat), v10 = .int .i64 x ∧ v11 = .int .i64 q ∧ x < a ∧ q ≤ k ∧ Hid (dst a f x m = q + 1) ∧ Hid (pre ++ wlk a f m q x = m :: wlk a f m k m) ∧ Hid (OwnI wx wq.heap.size v9 (ni pre)) ∧ Hid (pre.length + q = k + 1) ∧ Below wq.heap.size wq wx) (fun _ _ v11 _ => (intOf v11).toNat)
        case atStart => exact ⟨m, k, [m], rfl, rfl, hmN, Nat.le_refl _, HK, Lib.hid rfl, HO0, Lib.hid (by simp; omega), bX⟩
        case round =>
          clear HO0 bX HK
          obtain ⟨x, q, pre, rfl, rfl, hxN, hqk, HDQ, HPRE, HO, HLN, hbx⟩ := hrel
          obtain ⟨wx, hwx⟩ : ∃ x, x = wr := ⟨wr, rfl⟩
          subst hwx
          have hb2x := belowThen hbr hbx
          rcases Nat.eq_zero_or_pos q with rfl | hq
          · have hpre : pre = m :: wlk a f m k m := by have h := HPRE.out; rwa [wlk, List.append_nil] at h
            rw [hpre] at HO
            obtain ⟨A9, c9, rfl, hr9, _⟩ := HO.out.rd
            have HR9 := Lib.hid hr9; clear hr9 hpre
            have hbF := belowThen hbw hbx
            go_wp2
            go_ret2
            show GivesC _ _ _ _ _
            rw [E1.out, E2.out]
            exact ⟨A9, c9, rfl, HR9.out, hbF⟩
          · obtain ⟨e, rfl⟩ : ∃ e, q = e + 1 := ⟨q - 1, by omega⟩
            obtain ⟨n1, n2, n3, n4⟩ := nxtIs (by omega) HDQ.out
            have hwl : pre ++ nxt a f m (e + 1) x :: wlk a f m e (nxt a f m (e + 1) x) = m :: wlk a f m k m := by have h := HPRE.out; rwa [wlk] at h
            obtain ⟨y, hy⟩ : ∃ y, nxt a f m (e + 1) x = y := ⟨_, rfl⟩
            rw [hy] at n1 n2 n3 n4 hwl
            have HN4 := Lib.hid n4
            have HPR2 := Lib.hid (show (pre ++ [y]) ++ wlk a f m e y = m :: wlk a f m k m by rw [List.append_assoc]; exact hwl)
            have HN2 := Lib.hid n2
            have HN3 := Lib.hid n3
            clear n2 n3 n4 hwl hy
            have HXX := Lib.hid (HX.out.chg (Chg.ofBelow hb2x fun _ => True) trivial)
            have HRX := Lib.hid (HRB.out.chg (Chg.ofBelow hbx fun _ => True) trivial)
            obtain ⟨c0, c1, _, _⟩ := HB0W.out _ hb2x
            obtain ⟨p, hp⟩ : ∃ p, x * a = p := ⟨_, rfl⟩
            have hqp : decide (((e + 1 : Nat) : Int) > 0) = true := decide_eq_true (by omega)
            have hqp2 : decide ((e : Int) + 1 > 0) = true := decide_eq_true (by omega)
            go_wp2
            go_loopw [12] (fun v12 wy => ∃ z : Nat, v12 = .int .i64 z ∧ z ≤ y ∧ wy = wx) (fun v12 _ => y - (intOf v12).toNat)
            case atStart => exact ⟨0, rfl, Nat.zero_le _, rfl⟩
            case round =>
              obtain ⟨z, rfl, hzy, rfl⟩ := hrel
              have hzN : z < a := by omega
              have l1 := flatLt hxN hzN
              rw [hM, hp] at l1
              have k1 := HXX.out.at2 hp hzN l1
              have k2 := HRX.out.cell hzN
              obtain ⟨f1, f2, f3, f4, f5, f6, f7⟩ := ixFacts hM2 hp l1
              by_cases hze : z = y
              · subst hze
                rw [HN2.out] at k1
                rw [HN3.out] at k2
                have qe : (((e + 1 : Nat) : Int) != ((e + 1 : Nat) : Int)) = false := by simp
                have qe2 : ((e : Int) + 1 != (e : Int) + 1) = false := by simp
                have hni : Hid (Rd (wr.alloc (.cells #[.int .i64 z] 3)) (some ⟨wr.heap.size, 0, none⟩) 1 [(z : Int)]) := Lib.hid (Rd.lit wr [(z : Int)] 3 (by simp))
                have hw2 : IntKind.i64.wrap (((e + 1 : Nat) : Int) - 1) = (e : Int) := by rw [IntKind.wrap_i64]; omega
                have hw3 : IntKind.i64.wrap ((e : Int) + 1 - 1) = (e : Int) := by rw [IntKind.wrap_i64]; omega
                have hln := HLN.out
                have hbl := hbx.size
                go_wp2_with (first
                  | (at_builtin; refine appI _ rfl _ _ rfl wq.heap.size _ (ni pre) rfl (HO.out.alloc _) (some ⟨wr.heap.size, 0, none⟩) 1 1 [(z : Int)] rfl rfl hni.out (by rw [niLen]; simp; omega) (by simp; omega) ?_; intro v1 w1 o1 _ b1; have O1 := Lib.hid o1; have B1 := Lib.hid b1; clear o1 b1)
                  | fail)
                have HO9 : Hid (OwnI w1 wq.heap.size v1 (ni (pre ++ [z]))) := by rw [niApp]; exact O1
                have bF : Below wq.heap.size wq w1 := (hbx.alloc hbx.size _).trans B1.out
                exact ⟨⟨z, e, pre ++ [z], rfl, rfl, hzN, by omega, HN3, HPR2, HO9, Lib.hid (by rw [List.length_append]; simp; omega), bF⟩, by simp [intOf]⟩
              · have hnot := HN4.out z (by omega)
                cases hff : f x z with
                | false =>
                  rw [hff] at k1
                  clear hnot hff
                  go_wp2
                  all_goals exact ⟨⟨z + 1, by go_num, by omega, by first | trivial | rfl⟩, by simp [intOf]; omega⟩
                | true =>
                  rw [hff] at k1
                  have hd : dst a f z m ≠ e + 1 := fun h => hnot ⟨hff, h⟩
                  obtain ⟨D, hD⟩ : ∃ D, dst a f z m = D := ⟨_, rfl⟩
                  rw [hD] at k2 hd
                  have qe : ((D : Int) != ((e + 1 : Nat) : Int)) = true := by simp; omega
                  have qe2 : ((D : Int) != (e : Int) + 1) = true := by simp; omega
                  clear hnot hff hD
                  go_wp2
                  all_goals exact ⟨⟨z + 1, by go_num, by omega, by first | trivial | rfl⟩, by simp [intOf]; omega⟩
end Go.Proofs.Ytpfdhjmhoggioaa
