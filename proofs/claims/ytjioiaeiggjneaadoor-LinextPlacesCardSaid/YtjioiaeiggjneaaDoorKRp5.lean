/-
  The specification's position and Is.
-/
import Derived.Test.YtjioiaeiggjneaaDoorKRp5M
import Derived.Test.YtjioiaeiggjneaaDoorKLFw
import Derived.Test.YtjioiaeiggjneaaDoorKRRefV
import Derived.BigQuiet
namespace Go.Proofs.YtjioiaeiggjneaaDoor
open Go Go.RowKit

theorem retI5 {a b : Int} (h : a = b) : Ending.returned (.int .i64 a) = .returned (.int .i64 b) := by rw [h]
set_option maxHeartbeats 1000000 in
theorem rPos (o : List Int) (n : Nat) (hn : o.length = n) (x : Int) (B : Option Addr) (d : Nat) (w : World) (ho : Rd w B d o) :
    Calls Tryd.prog 38 #[.slice B n d, .int .i64 x] w fun e w' => e = .returned (.int .i64 (posI o x)) ∧ Below w.heap.size w w' := by
  have hla := ho.le
  have hca := ho.max
  unfold maxLen at hca
  rw [hn] at hla
  have HO := Lib.hid ho; clear ho
  have HN := Lib.hid hn; clear hn
  obtain ⟨r, hr⟩ : ∃ r, posI o x = r := ⟨_, rfl⟩
  rw [hr]
  have HR0 : Hid (posN (o.drop 0) x 0 = r) := Lib.hid hr
  clear hr
  go_enter Tryd.func38, Tryd.ntmps38
  go_wp2
  go_loopw [5] (fun i wr => ∃ k : Nat, k ≤ n ∧ i = .int .i64 k ∧ Hid (posN (o.drop k) x k = r) ∧ Below w.heap.size w wr) (fun i _ => n - (intOf i).toNat)
  case atStart => exact ⟨0, Nat.zero_le _, rfl, HR0, Below.refl _ _⟩
  case round =>
    obtain ⟨k, hk, rfl, HR, hb⟩ := hrel
    by_cases hlt : k < n
    · have hkl : k < o.length := by rw [HN.out]; exact hlt
      obtain ⟨ad, rfl, _, hc⟩ := (Rd.below HO.out hb).one hkl
      have hR := HR.out
      rw [posDrop hkl] at hR
      by_cases hxy : o[k] = x
      · rw [if_pos hxy] at hR
        rw [hxy] at hc
        have HX := Lib.hid hR
        have hyy : (x == x) = true := by simp
        clear hR hxy
        go_wp2_with fail
        try go_quiet (fail)
        all_goals go_wp2
        all_goals go_ret
        all_goals exact ⟨retI5 HX.out, by first | exact hb | exact belowDrewN hb _⟩
      · rw [if_neg hxy] at hR
        have HX := Lib.hid hR
        generalize o[k] = y at hc hxy
        have hyy : (y == x) = false := by simpa using hxy
        have HD := Lib.hid (fun q => belowDrewN hb q)
        clear hR hxy
        go_wp2_with fail
        try go_quiet (fail)
        all_goals go_wp2
        all_goals go_roundw
        case rel => exact ⟨k + 1, by omega, by go_num, HX, by first | exact hb | exact HD.out _⟩
        case measure => simp [intOf]; omega
    · have hR := HR.out
      rw [posEnd (by rw [HN.out]; omega)] at hR
      have HX := Lib.hid hR
      clear hR
      go_wp2
      go_ret
      exact ⟨retI5 HX.out, hb⟩
theorem isRLen {N : Int} {l : Prs} {o : List Int} (h : (o.length : Int) ≠ N) : isR N l o = false := by
  unfold isR
  rw [decide_eq_false h]
  cases okR N l <;> rfl
theorem isRNum {N : Int} {l : Prs} {o : List Int} {n : Nat} (hn : (n : Int) < N) (h : posI o n < 0) : isR N l o = false := by
  have : (List.range N.toNat).all (fun n => decide (0 ≤ posI o n)) = false := List.all_eq_false.2 ⟨n, List.mem_range.2 (by omega), by simp; omega⟩
  unfold isR
  rw [this]
  simp
theorem isRPair {N : Int} {l : Prs} {o : List Int} {k : Nat} (hk : k < l.length) (h : posI o l[k].2 ≤ posI o l[k].1) : isR N l o = false := by
  have : l.all (fun p => decide (posI o p.1 < posI o p.2)) = false := List.all_eq_false.2 ⟨l[k], List.getElem_mem hk, by simp; omega⟩
  unfold isR
  rw [this]
  simp
theorem isRYes {N : Int} {l : Prs} {o : List Int} (h0 : okR N l = true) (h1 : (o.length : Int) = N) (h2 : ∀ n : Nat, (n : Int) < N → 0 ≤ posI o n) (h3 : ∀ k (hk : k < l.length), posI o l[k].1 < posI o l[k].2) : isR N l o = true := by
  unfold isR
  rw [h0, decide_eq_true h1, Bool.true_and, Bool.true_and, Bool.and_eq_true, List.all_eq_true, List.all_eq_true]
  refine ⟨fun n hn => decide_eq_true (h2 n (by have := List.mem_range.1 hn; omega)), fun p hp => ?_⟩
  obtain ⟨k, hk, rfl⟩ := List.getElem_of_mem hp
  exact decide_eq_true (h3 k hk)
set_option maxRecDepth 100000 in
set_option maxHeartbeats 4000000 in
theorem rIs (N : Int) (l : Prs) (n : Nat) (hn : l.length = n) (A : Option Addr) (c : Nat) (o : List Int) (m : Nat) (hm : o.length = m) (B : Option Addr) (d : Nat) (w : World) (ha : Rp w A c l) (ho : Rd w B d o) :
    Calls Tryd.prog 22 #[relV N A n c, .slice B m d] w fun e w' => e = .returned (.bool (isR N l o)) ∧ Below w.heap.size w w' := by
  obtain ⟨W, hW⟩ : ∃ W, w.alloc (.cells #[.int .i64 N, .slice A n c] 24) = W := ⟨_, rfl⟩
  have hbW : Below w.heap.size w W := by rw [← hW]; exact belowAlloc w _
  have HB : Hid (BoxR W w.heap.size N (.slice A n c)) := by rw [← hW]; exact Lib.hid (BoxR.new w N _)
  obtain ⟨k0, k1, _, _⟩ := HB.out.facts
  have HK := Lib.hid (fun X (hX : Below W.heap.size W X) => (HB.out.below hX).facts)
  have HA := Lib.hid (fun X (hX : Below W.heap.size W X) => (ha.below hbW).below hX)
  have hle := ha.le
  have hmx := ha.max
  have hle2 := ho.le
  have hmx2 := ho.max
  rw [hn] at hle
  rw [hm] at hle2
  unfold maxLen at hmx hmx2
  have HP := Lib.hid (fun x X (hX : Below W.heap.size W X) => rPos o m hm x B d X ((ho.below hbW).below hX))
  have HV := Lib.hid (rValid N l n hn (okR N l) rfl A c W (ha.below hbW))
  obtain ⟨r, hr⟩ : ∃ r, isR N l o = r := ⟨_, rfl⟩
  rw [hr]
  have HR := Lib.hid hr
  have HN := Lib.hid hn
  have HM := Lib.hid hm
  have HBW := Lib.hid hbW
  have HW := Lib.hid hW
  clear hbW hW ha ho hr hn hm
  cases hv : okR N l with
  | false =>
    rw [hv] at HV
    have HX := Lib.hid (show false = r by rw [← HR.out]; unfold isR; rw [hv]; rfl)
    clear hv
    go_enter Tryd.func22, Tryd.ntmps22
    go_wp2_with fail
    rw [HW.out]
    refine HV.out.mono ?_
    rintro e w1 ⟨rfl, b1⟩
    go_wp2
    go_ret
    exact ⟨retLw HX.out, belowThen HBW.out b1⟩
  | true =>
    rw [hv] at HV
    have HOK := Lib.hid hv
    clear hv
    by_cases hlen : (m : Int) = N
    · have hne : ((m : Int) != N) = false := by simpa using hlen
      have HLN := Lib.hid hlen
      go_enter Tryd.func22, Tryd.ntmps22
      go_wp2_with fail
      rw [HW.out]
      refine HV.out.mono ?_
      rintro e w1 ⟨rfl, b1⟩
      clear k0 k1
      obtain ⟨k0, k1, _, _⟩ := HK.out w1 b1
      go_wp2_with fail
      clear k0 k1
      go_loopw [5] (fun i wr => ∃ k : Nat, (k : Int) ≤ N ∧ i = .int .i64 k ∧ Hid (∀ j : Nat, j < k → 0 ≤ posI o j) ∧ Below W.heap.size W wr) (fun i _ => N.toNat - (intOf i).toNat)
      case atStart => exact ⟨0, by omega, rfl, Lib.hid fun j hj => by omega, b1⟩
      case round =>
        obtain ⟨k, hk, rfl, HJ, hb⟩ := hrel
        obtain ⟨k0, k1, _, _⟩ := HK.out wr hb
        by_cases hlt : (k : Int) < N
        · have hcl := HP.out (k : Int) wr hb
          obtain ⟨q, hq⟩ : ∃ q, posI o (k : Int) = q := ⟨_, rfl⟩
          rw [hq] at hcl
          have HCL := Lib.hid hcl
          have HQ := Lib.hid hq
          clear hcl hq
          by_cases hneg : q < 0
          · have HX := Lib.hid (show false = r by rw [← HR.out]; exact (isRNum hlt (by rw [HQ.out]; exact hneg)).symm)
            go_wp2_with fail
            refine HCL.out.mono ?_
            rintro e w2 ⟨rfl, b2⟩
            go_wp2
            all_goals first
              | (exfalso; omega)
              | (go_ret; exact ⟨retLw HX.out, belowThen HBW.out (belowThen hb b2)⟩)
          · have HJ2 := Lib.hid (show ∀ j : Nat, j < k + 1 → 0 ≤ posI o j from fun j hj => by
              rcases Nat.lt_or_ge j k with h | h
              · exact HJ.out j h
              · have : j = k := by omega
                subst this
                rw [HQ.out]; omega)
            go_wp2_with fail
            refine HCL.out.mono ?_
            rintro e w2 ⟨rfl, b2⟩
            have B2 := belowThen hb b2
            go_wp2
            all_goals first
              | (exfalso; omega)
              | go_roundw
            case rel => exact ⟨k + 1, by omega, by go_num, HJ2, B2⟩
            case measure => simp [intOf]; omega
        · have HALL := Lib.hid (show ∀ n : Nat, (n : Int) < N → 0 ≤ posI o n from fun j hj => HJ.out j (by omega))
          clear HJ
          go_wp2_with fail
          go_loopw [6] (fun i wr => ∃ k : Nat, k ≤ n ∧ i = .int .i64 k ∧ Hid (∀ j (hj : j < l.length), j < k → posI o l[j].1 < posI o l[j].2) ∧ Below W.heap.size W wr) (fun i _ => n - (intOf i).toNat)
          case atStart => exact ⟨0, by omega, rfl, Lib.hid fun j _ hj => by omega, hb⟩
          case round =>
            clear k0 k1 hb
            obtain ⟨k, hk, rfl, HJ, hb⟩ := hrel
            obtain ⟨k0, k1, _, _⟩ := HK.out wr hb
            by_cases hlt : k < n
            · have hkl : k < l.length := by rw [HN.out]; exact hlt
              obtain ⟨q, off, rfl, hq, p1, p2⟩ := (HA.out wr hb).one hkl
              obtain ⟨x, hx⟩ : ∃ x, l[k].1 = x := ⟨_, rfl⟩
              obtain ⟨y, hy⟩ : ∃ y, l[k].2 = y := ⟨_, rfl⟩
              rw [hx] at p1
              rw [hy] at p2
              have HS := Lib.hid (fun X (hX : Below wr.heap.size wr X) => (⟨hX, (hX.cell (p := ⟨q, off + k * 2, none⟩) hq).trans p1, (hX.cell (p := ⟨q, off + k * 2 + 1, none⟩) hq).trans p2, (HK.out X (belowThen hb hX)).2.1⟩ : Below wr.heap.size wr X ∧ X.cell? ⟨q, off + k * 2, none⟩ = some (.int .i64 x) ∧ X.cell? ⟨q, off + k * 2 + 1, none⟩ = some (.int .i64 y) ∧ X.cell? ⟨w.heap.size, 1, none⟩ = some (.slice (some ⟨q, off, none⟩) n c)))
              have HS0 := HS.out wr.drew ((Below.refl _ wr).drew)
              obtain ⟨u, hu⟩ : ∃ u, posI o x = u := ⟨_, rfl⟩
              obtain ⟨v, hv⟩ : ∃ v, posI o y = v := ⟨_, rfl⟩
              have C1 := Lib.hid (fun X (hX : Below wr.heap.size wr X) => HP.out x X (belowThen hb hX))
              have C2 := Lib.hid (fun X (hX : Below wr.heap.size wr X) => HP.out y X (belowThen hb hX))
              rw [hu] at C1
              rw [hv] at C2
              have HXY := Lib.hid (And.intro (hx ▸ hu : posI o l[k].1 = u) (hy ▸ hv : posI o l[k].2 = v))
              have HBK := Lib.hid hb
              have hk0 : (0 : Int) ≤ k := by omega
              have hk1 : (k : Int) < n := by omega
              clear hx hy hu hv p1 p2 hb
              go_wp2_with fail
              go_region_held3 (fun X => Below wr.heap.size wr X ∧ X.cell? ⟨q, off + k * 2, none⟩ = some (.int .i64 x) ∧ X.cell? ⟨q, off + k * 2 + 1, none⟩ = some (.int .i64 y) ∧ X.cell? ⟨w.heap.size, 1, none⟩ = some (.slice (some ⟨q, off, none⟩) n c)) (first | assumption | exact HS.out _ (by assumption)) (first
                | (go_at_call 38; refine (C1.out _ (‹Below wr.heap.size wr _ ∧ _›).1).mono ?_; rintro e u1 ⟨rfl, y1⟩; have q1 := belowThen (‹Below wr.heap.size wr _ ∧ _›).1 y1; clear C1)
                | (go_at_call 38; refine (C2.out _ (‹Below wr.heap.size wr _ ∧ _›).1).mono ?_; rintro e u2 ⟨rfl, y2⟩; have q2 := belowThen (‹Below wr.heap.size wr _ ∧ _›).1 y2; clear C2))
              have hfin : Below wr.heap.size wr u2 := q2
              by_cases huv : u < v
              · have HJ2 := Lib.hid (show ∀ j (hj : j < l.length), j < k + 1 → posI o l[j].1 < posI o l[j].2 from fun j hj hjk => by
                  rcases Nat.lt_or_ge j k with h | h
                  · exact HJ.out j hj h
                  · have : j = k := by omega
                    subst this
                    rw [HXY.out.1, HXY.out.2]; exact huv)
                have HB2 := belowThen HBK.out hfin
                go_wp2
                all_goals first
                  | (exfalso; omega)
                  | go_roundw
                case rel => exact ⟨k + 1, by omega, by go_num, HJ2, HB2⟩
                case measure => simp [intOf]; omega
              · have HX := Lib.hid (show false = r by rw [← HR.out]; exact (isRPair hkl (by rw [HXY.out.1, HXY.out.2]; omega)).symm)
                have HB2 := belowThen HBK.out hfin
                go_wp2
                all_goals first
                  | (exfalso; omega)
                  | (go_ret; exact ⟨retLw HX.out, belowThen HBW.out HB2⟩)
            · have HX := Lib.hid (show true = r by rw [← HR.out]; exact (isRYes HOK.out (by rw [HM.out]; exact HLN.out) HALL.out fun j hj => HJ.out j hj (by have := HN.out; omega)).symm)
              go_wp2
              go_ret
              exact ⟨retLw HX.out, belowThen HBW.out hb⟩
    · have hne : ((m : Int) != N) = true := by simpa using hlen
      have HX := Lib.hid (show false = r by rw [← HR.out]; exact (isRLen (by rw [HM.out]; exact hlen)).symm)
      clear hlen
      go_enter Tryd.func22, Tryd.ntmps22
      go_wp2_with fail
      rw [HW.out]
      refine HV.out.mono ?_
      rintro e w1 ⟨rfl, b1⟩
      clear k0 k1
      obtain ⟨k0, k1, _, _⟩ := HK.out w1 b1
      go_wp2
      go_ret
      exact ⟨retLw HX.out, belowThen HBW.out b1⟩
end Go.Proofs.YtjioiaeiggjneaaDoor
