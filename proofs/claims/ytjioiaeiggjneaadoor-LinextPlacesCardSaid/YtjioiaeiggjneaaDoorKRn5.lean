/-
  The specification's next: the numbers that can follow a prefix.
-/
import Derived.Test.YtjioiaeiggjneaaDoorKRp5
import Derived.Test.YtjioiaeiggjneaaDoorKLinF
import Derived.BigQuiet
namespace Go.Proofs.YtjioiaeiggjneaaDoor
open Go Go.RowKit

/-- May number n follow the prefix o? -/
def nxB (l : Prs) (o : List Int) (n : Nat) : Bool := decide ((n : Int) ∉ o) && l.all (fun p => decide (p.2 = (n : Int) → p.1 ∈ o))
def nxT (l : Prs) (o : List Int) (n k : Nat) : Bool := decide ((n : Int) ∉ o) && (l.take k).all (fun p => decide (p.2 = (n : Int) → p.1 ∈ o))
theorem nxT0 {l : Prs} {o : List Int} {n : Nat} : nxT l o n 0 = decide ((n : Int) ∉ o) := by unfold nxT; rw [List.take_zero, List.all_nil, Bool.and_true]
theorem nxTS {l : Prs} {o : List Int} {n k : Nat} (hk : k < l.length) : nxT l o n (k + 1) = (nxT l o n k && decide (l[k].2 = (n : Int) → l[k].1 ∈ o)) := by
  unfold nxT
  rw [List.take_succ_eq_append_getElem hk, List.all_append, List.all_cons, List.all_nil, Bool.and_true, Bool.and_assoc]
theorem nxTAll {l : Prs} {o : List Int} {n k : Nat} (hk : l.length ≤ k) : nxT l o n k = nxB l o n := by unfold nxT nxB; rw [List.take_of_length_le hk]
def nxL (l : Prs) (o : List Int) (k : Nat) : List Int := ((List.range k).filter (nxB l o)).map Int.ofNat
theorem nxLS {l : Prs} {o : List Int} {k : Nat} : nxL l o (k + 1) = nxL l o k ++ (if nxB l o k then [(k : Int)] else []) := by
  unfold nxL
  rw [List.range_succ, List.filter_append, List.map_append]
  congr 1
  rw [List.filter_cons, List.filter_nil]
  cases nxB l o k <;> rfl
theorem nxLLen {l : Prs} {o : List Int} {k : Nat} : (nxL l o k).length ≤ k := by
  unfold nxL
  rw [List.length_map]
  exact Nat.le_trans (List.length_filter_le _ _) (by simp)
/-- It is what can follow. -/
theorem nxEq {N : Nat} {l : Prs} (hk : okR N l = true) {pre : List Nat} : nxL l (nI pre) N = nI (nxtL N (hasP l) (maskL pre)) := by
  have hk2 : (0 : Int) ≤ N ∧ (N : Int) ≤ 64 ∧ ∀ p ∈ l, 0 ≤ p.1 ∧ p.1 < N ∧ 0 ≤ p.2 ∧ p.2 < N := by unfold okR at hk; exact of_decide_eq_true hk
  have hin : ∀ x : Nat, (x : Int) ∈ nI pre ↔ x ∈ pre := fun x => by
    unfold nI
    rw [List.mem_map]
    exact ⟨fun ⟨y, hy, e⟩ => by have : y = x := Int.ofNat.inj e; exact this ▸ hy, fun h => ⟨x, h, rfl⟩⟩
  unfold nxL nxtL nI
  congr 1
  refine List.filter_congr fun n hn => ?_
  have hn := List.mem_range.1 hn
  rw [Bool.eq_iff_iff, canIff]
  unfold nxB
  rw [Bool.and_eq_true, decide_eq_true_iff, List.all_eq_true, maskBit, decide_eq_false_iff_not]
  have h0 : ((n : Int) ∉ nI pre) ↔ n ∉ pre := not_congr (hin n)
  refine and_congr h0 ⟨fun h p hp hf => ?_, fun h p hp => decide_eq_true fun e => ?_⟩
  · have := of_decide_eq_true (h _ (hasPIff.1 hf)) rfl
    rw [maskBit]
    exact decide_eq_true ((hin p).1 this)
  · have hr := hk2.2.2 p hp
    have e1 : ((p.1.toNat : Nat) : Int) = p.1 := by omega
    have := h p.1.toNat (by omega) (hasPIff.2 (by rw [e1, ← e]; exact hp))
    rw [maskBit] at this
    have := (hin _).2 (of_decide_eq_true this)
    rw [e1] at this
    exact this
set_option maxRecDepth 100000 in
set_option maxHeartbeats 4000000 in
theorem rNext (N : Nat) (hN : N ≤ 64) (l : Prs) (n : Nat) (hn : l.length = n) (A : Option Addr) (c : Nat) (o : List Int) (m : Nat) (hm : o.length = m) (B : Option Addr) (d : Nat) (w : World) (ha : Rp w A c l) (ho : Rd w B d o) :
    Calls Tryd.prog 24 #[relV N A n c, .slice B m d] w fun e w' => ∃ v, e = .returned v ∧ OwnI w' w.heap.size v (nxL l o N) ∧ Below w.heap.size w w' := by
  obtain ⟨W, hW⟩ : ∃ W, w.alloc (.cells #[.int .i64 N, .slice A n c] 24) = W := ⟨_, rfl⟩
  have hbW : Below w.heap.size w W := by rw [← hW]; exact belowAlloc w _
  have HB : Hid (BoxR W w.heap.size N (.slice A n c)) := by rw [← hW]; exact Lib.hid (BoxR.new w N _)
  obtain ⟨V, hV⟩ : ∃ V, W.alloc (.cells #[] 3) = V := ⟨_, rfl⟩
  have hbV : Below W.heap.size W V := by rw [← hV]; exact belowAlloc W _
  have HO0 : Hid (OwnI V W.heap.size (.slice (some ⟨w.heap.size + 1, 0, none⟩) 0 0) (nxL l o 0)) := by
    have hWs : W.heap.size = w.heap.size + 1 := by rw [← hW, World.size_alloc]
    rw [← hWs, ← hV]; exact Lib.hid (OwnI.made W W.heap.size (Nat.le_refl _))
  have HK := Lib.hid (fun X (hX : Below W.heap.size W X) => (HB.out.below hX).facts)
  have HA := Lib.hid (fun X (hX : Below W.heap.size W X) => (ha.below hbW).below hX)
  have hle := ha.le
  have hmx := ha.max
  rw [hn] at hle
  unfold maxLen at hmx
  have HP := Lib.hid (fun x X (hX : Below W.heap.size W X) => rPos o m hm x B d X ((ho.below hbW).below hX))
  have HN := Lib.hid hn
  have HBW := Lib.hid hbW
  have HBV := Lib.hid hbV
  have HW := Lib.hid hW
  have HV := Lib.hid hV
  have hszW : w.heap.size ≤ W.heap.size := hbW.size
  clear hbW hbV hW hV ha ho hn
  go_enter Tryd.func24, Tryd.ntmps24
  go_wp2_with fail
  rw [HW.out]
  go_wp2_with fail
  try rw [HV.out]
  go_loopw [5, 6] (fun v i wr => ∃ k : Nat, k ≤ N ∧ i = .int .i64 k ∧ Hid (OwnI wr W.heap.size v (nxL l o k)) ∧ Hid (Below W.heap.size W wr)) (fun _ i _ => N - (intOf i).toNat)
  case atStart => exact ⟨0, by omega, rfl, HO0, HBV⟩
  case round =>
    obtain ⟨k, hk, rfl, HO, HBR⟩ := hrel
    obtain ⟨k0, k1, _, _⟩ := HK.out wr HBR.out
    by_cases hlt : k < N
    · obtain ⟨q, hq⟩ : ∃ q, posI o (k : Int) = q := ⟨_, rfl⟩
      have hcl := HP.out (k : Int) wr HBR.out
      rw [hq] at hcl
      have HCL := Lib.hid hcl
      have HQ : Hid (decide (q < 0) = nxT l o k 0) := Lib.hid (by
        rw [nxT0, ← hq]
        exact decide_eq_decide.2 posMem)
      clear hcl hq
      go_wp2_with fail
      refine HCL.out.mono ?_
      rintro e w1 ⟨rfl, b1⟩
      have HO1 := Lib.hid (ownChg HO.out (Chg.ofBelow b1 fun _ => True) fun _ _ => trivial)
      have HB1 := Lib.hid (belowThen HBR.out b1)
      clear k0 k1 b1
      obtain ⟨k0, k1, _, _⟩ := HK.out w1 HB1.out
      go_wp2_with fail
      clear HO HBR
      go_loopw [7, 8] (fun b i wr => ∃ j : Nat, j ≤ n ∧ i = .int .i64 j ∧ b = .bool (nxT l o k j) ∧ Hid (OwnI wr W.heap.size u5 (nxL l o k)) ∧ Hid (Below W.heap.size W wr)) (fun _ i _ => n - (intOf i).toNat)
      case atStart => exact ⟨0, by omega, rfl, by rw [HQ.out], HO1, HB1⟩
      case round =>
        clear k0 k1
        obtain ⟨j, hj, rfl, rfl, HO2, HB2⟩ := hrel
        obtain ⟨k0, k1, _, _⟩ := HK.out _ HB2.out
        by_cases hlj : j < n
        · have hjl : j < l.length := by rw [HN.out]; exact hlj
          obtain ⟨g, off, rfl, hg, p1, p2⟩ := (HA.out _ HB2.out).one hjl
          have HST := Lib.hid (nxTS (o := o) (n := k) hjl)
          obtain ⟨x, hx⟩ : ∃ x, l[j].1 = x := ⟨_, rfl⟩
          obtain ⟨y, hy⟩ : ∃ y, l[j].2 = y := ⟨_, rfl⟩
          rw [hx] at p1
          rw [hy] at p2
          rw [hx, hy] at HST
          obtain ⟨b0, hb0⟩ : ∃ b, nxT l o k j = b := ⟨_, rfl⟩
          rw [hb0] at HST
          have hj0 : (0 : Int) ≤ j := by omega
          have hj1 : (j : Int) < n := by omega
          have HB0 := Lib.hid hb0
          clear hx hy hb0
          by_cases hyk : y = (k : Int)
          · have hyy : (y == (k : Int)) = true := by simpa using hyk
            obtain ⟨u, hu⟩ : ∃ u, posI o x = u := ⟨_, rfl⟩
            have hcl := HP.out x _ HB2.out
            rw [hu] at hcl
            have HCL := Lib.hid hcl
            by_cases hneg : u < 0
            · have hx : x ∉ o := posMem.1 (by rw [hu]; exact hneg)
              have HST2 := Lib.hid (show false = nxT l o k (j + 1) by rw [HST.out, decide_eq_false (fun h => hx (h hyk)), Bool.and_false])
              clear hu hcl hx hyk
              go_wp2_with fail
              refine HCL.out.mono ?_
              rintro e w2 ⟨rfl, b2⟩
              have HO3 := Lib.hid (ownChg HO2.out (Chg.ofBelow b2 fun _ => True) fun _ _ => trivial)
              have HB3 := Lib.hid (belowThen HB2.out b2)
              go_wp2
              all_goals first
                | (exfalso; omega)
                | go_roundw
              case rel => exact ⟨j + 1, by omega, by go_num, by rw [← HST2.out], HO3, HB3⟩
              case measure => simp [intOf]; omega
            · have hx : x ∈ o := Decidable.byContradiction fun h => hneg (hu ▸ posMem.2 h)
              have HST2 := Lib.hid (show b0 = nxT l o k (j + 1) by rw [HST.out, decide_eq_true (fun _ => hx), Bool.and_true])
              clear hu hcl hx hyk
              go_wp2_with fail
              refine HCL.out.mono ?_
              rintro e w2 ⟨rfl, b2⟩
              have HO3 := Lib.hid (ownChg HO2.out (Chg.ofBelow b2 fun _ => True) fun _ _ => trivial)
              have HB3 := Lib.hid (belowThen HB2.out b2)
              go_wp2
              all_goals first
                | (exfalso; omega)
                | go_roundw
              case rel => exact ⟨j + 1, by omega, by go_num, by rw [← HST2.out, HB0.out], HO3, HB3⟩
              case measure => simp [intOf]; omega
          · have hyy : (y == (k : Int)) = false := by simpa using hyk
            have HST2 := Lib.hid (show b0 = nxT l o k (j + 1) by rw [HST.out, decide_eq_true (fun h => absurd h hyk), Bool.and_true])
            clear hyk
            go_wp2_with fail
            all_goals go_wp2
            all_goals go_roundw
            case rel => exact ⟨j + 1, by omega, by go_num, by rw [← HST2.out, HB0.out], HO2, HB2⟩
            case measure => simp [intOf]; omega
        · have HT := Lib.hid (show nxT l o k j = nxB l o k from nxTAll (by rw [HN.out]; omega))
          rw [HT.out]
          have HNS := Lib.hid (nxLS (l := l) (o := o) (k := k))
          cases hb : nxB l o k with
          | false =>
            rw [hb] at HNS
            have HO3 := Lib.hid (show OwnI _ W.heap.size u5 (nxL l o (k + 1)) by rw [HNS.out]; simpa using HO2.out)
            go_wp2
            go_roundw
            case rel => exact ⟨k + 1, by omega, by go_num, HO3, HB2⟩
            case measure => simp [intOf]; omega
          | true =>
            rw [hb] at HNS
            have hlen : (nxL l o k).length ≤ 64 := Nat.le_trans nxLLen (by omega)
            have hszr := HB2.out.size
            go_wp2_with (at_builtin; refine appI _ rfl (.tmp 47) (.tmp 49) rfl W.heap.size _ (nxL l o k) rfl (HO2.out.alloc _) (some ⟨_, 0, none⟩) 1 1 [(k : Int)] rfl rfl (litI _ _) (by rw [List.length_singleton]; omega) (by simp; omega) ?_; intro v1 w4 o1 _ b4; have HO4 := Lib.hid (show OwnI w4 W.heap.size v1 (nxL l o (k + 1)) by rw [HNS.out]; exact o1); have HB4 := Lib.hid (stepA HB2.out b4); clear o1 b4)
            all_goals first
              | (exfalso; omega)
              | go_roundw
            case rel => exact ⟨k + 1, by omega, by go_num, HO4, HB4⟩
            case measure => simp [intOf]; omega
    · have hkN : k = N := by omega
      subst hkN
      have HX := Lib.hid (ownMono HO.out hszW)
      have HY := Lib.hid (belowThen HBW.out HBR.out)
      go_wp2
      go_ret
      exact ⟨_, rfl, HX.out, HY.out⟩
theorem nxHead {N : Nat} {f : Nat → Nat → Bool} (hac : acyT N (tcT N f)) {k s : Nat} {pre : List Nat} (h : FstTo N f k s pre) (hk : k < N) (hN : N ≤ 64) (hs : maskL pre = s) :
    ∃ a L, nxtL N f (maskL pre) = a :: L ∧ a < N ∧ FstTo N f (k + 1) (addS s a) (pre ++ [a]) ∧ maskL (pre ++ [a]) = addS s a := by
  obtain ⟨a, h0, h1, h2, h3⟩ := fstNext hac h hk hN
  rcases e : nxtL N f s with _ | ⟨b, L⟩
  · exact absurd e (nxtSome hac (by rw [h.out]; omega))
  · have hb : bitsOf (nxtS N f s) = b :: L := by rw [nxtSBits hN, e]
    rw [bitsCons (nxtSLt hN f s) h0, h1] at hb
    have : a = b := (List.cons.inj hb).1
    subst this
    exact ⟨a, L, by rw [hs, e], h2, h3, by rw [maskApp, hs]⟩
theorem rWrong (N : Int) (l : Prs) (n : Nat) (hn : l.length = n) (A : Option Addr) (c : Nat) (w : World) (ha : Rp w A c l) :
    Calls Tryd.prog 21 #[relV N A n c] w fun e w' => e = .returned (.int .i64 (errA N l)) ∧ Below w.heap.size w w' := by
  obtain ⟨W, hW⟩ : ∃ W, w.alloc (.cells #[.int .i64 N, .slice A n c] 24) = W := ⟨_, rfl⟩
  have hbW : Below w.heap.size w W := by rw [← hW]; exact belowAlloc w _
  have HB : Hid (BoxR W w.heap.size N (.slice A n c)) := by rw [← hW]; exact Lib.hid (BoxR.new w N _)
  obtain ⟨k0, k1, _, _⟩ := HB.out.facts
  have HK := Lib.hid (fun X (hX : Below W.heap.size W X) => (HB.out.below hX).facts)
  have HV := Lib.hid (rValid N l n hn (okR N l) rfl A c W (ha.below hbW))
  have HC := Lib.hid (fun X (hX : Below W.heap.size W X) => rAcyclic N l n hn (acyR N l) rfl A c X ((ha.below hbW).below hX))
  have HBW := Lib.hid hbW
  have HW := Lib.hid hW
  obtain ⟨r, hr⟩ : ∃ r, errA N l = r := ⟨_, rfl⟩
  rw [hr]
  have HR := Lib.hid hr
  clear hbW hW ha hr
  cases hv : okR N l with
  | false =>
    rw [hv] at HV
    have HX := Lib.hid (show (1 : Int) = r by rw [← HR.out]; unfold errA; rw [hv]; rfl)
    clear hv
    go_enter Tryd.func21, Tryd.ntmps21
    go_wp2_with fail
    rw [HW.out]
    refine HV.out.mono ?_
    rintro e w1 ⟨rfl, b1⟩
    go_wp2
    go_ret
    exact ⟨retI5 HX.out, belowThen HBW.out b1⟩
  | true =>
    rw [hv] at HV
    cases hc : acyR N l with
    | false =>
      rw [hc] at HC
      have HX := Lib.hid (show (20 : Int) = r by rw [← HR.out]; unfold errA; rw [hv, hc]; rfl)
      clear hv hc
      go_enter Tryd.func21, Tryd.ntmps21
      go_wp2_with fail
      rw [HW.out]
      refine HV.out.mono ?_
      rintro e w1 ⟨rfl, b1⟩
      clear k0 k1
      obtain ⟨k0, k1, _, _⟩ := HK.out w1 b1
      go_wp2_with fail
      refine (HC.out w1 b1).mono ?_
      rintro e w2 ⟨rfl, b2⟩
      go_wp2
      go_ret
      exact ⟨retI5 HX.out, belowThen HBW.out (belowThen b1 b2)⟩
    | true =>
      rw [hc] at HC
      have HX := Lib.hid (show (0 : Int) = r by rw [← HR.out]; unfold errA; rw [hv, hc]; rfl)
      clear hv hc
      go_enter Tryd.func21, Tryd.ntmps21
      go_wp2_with fail
      rw [HW.out]
      refine HV.out.mono ?_
      rintro e w1 ⟨rfl, b1⟩
      clear k0 k1
      obtain ⟨k0, k1, _, _⟩ := HK.out w1 b1
      go_wp2_with fail
      refine (HC.out w1 b1).mono ?_
      rintro e w2 ⟨rfl, b2⟩
      go_wp2
      go_ret
      exact ⟨retI5 HX.out, belowThen HBW.out (belowThen b1 b2)⟩
end Go.Proofs.YtjioiaeiggjneaaDoor
