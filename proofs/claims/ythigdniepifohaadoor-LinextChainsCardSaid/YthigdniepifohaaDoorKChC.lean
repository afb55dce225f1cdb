/-
  choose: a binomial coefficient by Pascal's rule.
-/
import Derived.Test.YthigdniepifohaaDoorKChM
import Derived.Test.YthigdniepifohaaDoorKLinF
import Derived.OrdersHeld
import Derived.Deep.RegionHeld
import Derived.Lib.AppendZeros
import Derived.BigQuiet
namespace Go.Proofs.YthigdniepifohaaDoor
open Go Go.RowKit

def pI (q j : Nat) : List Int := (List.range j).map fun x => ((bin (q + 1) x : Nat) : Int)
def rI (q : Nat) : List Int := (List.range (q + 1)).map fun x => ((bin q x : Nat) : Int)
theorem pILen (q j : Nat) : (pI q j).length = j := by unfold pI; rw [List.length_map, List.length_range]
theorem rILen (q : Nat) : (rI q).length = q + 1 := by unfold rI; rw [List.length_map, List.length_range]
theorem pIS (q j : Nat) : pI q (j + 1) = pI q j ++ [((bin (q + 1) j : Nat) : Int)] := by unfold pI; rw [List.range_succ, List.map_append]; rfl
theorem pIAll (q : Nat) : pI q (q + 2) = rI (q + 1) := rfl
theorem rIAt {q k : Nat} (hk : k < (rI q).length) : (rI q)[k] = ((bin q k : Nat) : Int) := (List.getElem_map _).trans (by rw [List.getElem_range])
theorem ownLit1 (w : World) (base : Nat) (h : base ≤ w.heap.size) (x : Int) : OwnI (w.alloc (.cells #[.int .i64 x] 3)) base (.slice (some ⟨w.heap.size, 0, none⟩) 1 1) [x] :=
  ⟨rfl, .inr ⟨w.heap.size, 1, #[.int .i64 x], rfl, h, heap_alloc_new w _, Nat.le_refl _, by unfold maxLen; omega, rfl, rfl⟩⟩
theorem runI (w : World) (ty : TypeId) (base : Nat) (v : Value) (l : List Int) (hown : OwnI w base v l) (A : Option Addr) (m c : Nat) (news : List Int) (hm : m = news.length) (hr : Rd w A c news) (hb : l.length + news.length ≤ 1000000) (hbase : base ≤ w.heap.size) :
    ∃ v' w', (Builtin.append_ #[25, 25] ty #[v, .slice A m c]).run Tryd.prog w = .ok v' w' ∧ OwnI w' base v' (l ++ news) ∧ Below base w w' := by
  obtain ⟨i0, hi, hz⟩ := Option.map_eq_some_iff.1 infoInt
  simp only [Prod.mk.injEq] at hz
  obtain ⟨hz0, hz1, hz2⟩ := hz
  obtain ⟨v', w', hrun, h1, _, h3, _⟩ := runApp (P := Tryd.prog) w base 25 ty 3 i0 _ 8 Tryd.underlying25 hi hz0 hz1 hz2 rfl v l.length (iv l) hown A m c (iv news) (by rw [hm]; simp [iv]) hr (by intro u hu; obtain ⟨x, _, rfl⟩ := List.mem_map.1 hu; rfl) (by omega) (by unfold maxLen; omega) hbase
  refine ⟨v', w', hrun, ?_, (Below.refl base w).grown h3 hbase fun k hk => (World.ownsRow.lt hown k hk).1⟩
  unfold OwnI
  rw [List.length_append, ← hm, iv, List.map_append]
  exact h1
theorem OwnI.rdAtC {X : World} {base n c : Nat} {A : Option Addr} {l : List Int} (h : OwnI X base (.slice A n c) l) : Rd X A c l := by
  obtain ⟨A3, c3, e3, hr, _⟩ := h.rd
  injection e3 with e1 _ e2
  subst e1; subst e2
  exact hr
theorem retIC {a b : Int} (h : a = b) : Ending.returned (.int .i64 a) = .returned (.int .i64 b) := by rw [h]
set_option maxRecDepth 100000 in
set_option maxHeartbeats 8000000 in
theorem iChoose (n k : Nat) (hn : n ≤ 64) (hk : k ≤ n) (w : World) :
    Calls Tryd.prog 30 #[.int .i64 n, .int .i64 k] w fun e w' => e = .returned (.int .i64 (bin n k : Int)) ∧ Below w.heap.size w w' := by
  obtain ⟨W, hW⟩ : ∃ W, w.alloc (.cells #[.int .i64 1] 3) = W := ⟨_, rfl⟩
  have hbW : Below w.heap.size w W := by rw [← hW]; exact belowAlloc w _
  have HO0 : Hid (OwnI W w.heap.size (.slice (some ⟨w.heap.size, 0, none⟩) 1 1) (rI 0)) := by rw [← hW]; exact Lib.hid (ownLit1 w w.heap.size (Nat.le_refl _) 1)
  have HBW := Lib.hid hbW
  go_enter Tryd.func30, Tryd.ntmps30
  go_wp2_with fail
  try rw [hW]
  clear hW hbW
  go_loopw [5, 6] (fun v i Y => ∃ q : Nat, q ≤ n ∧ i = .int .i64 q ∧ Hid (OwnI Y w.heap.size v (rI q)) ∧ Hid (Below w.heap.size w Y)) (fun _ i _ => n - (intOf i).toNat)
  case atStart => exact ⟨0, Nat.zero_le _, rfl, HO0, HBW⟩
  case round =>
    obtain ⟨q, hq, rfl, HO, HB⟩ := hrel
    obtain ⟨Y0, rfl⟩ : ∃ Y0, Y0 = wr := ⟨_, rfl⟩
    obtain ⟨A5, c5, rfl, r5, hbl⟩ := HO.out.rd
    have hl5 := rILen q
    rw [hl5] at HO ⊢
    have hle5 := r5.le
    have hmx5 := r5.max
    rw [hl5] at hle5
    unfold maxLen at hmx5
    have HR5 := Lib.hid r5
    clear r5 hbl
    by_cases hlt : q < n
    · obtain ⟨V, hV⟩ : ∃ V, Y0.alloc (.cells #[.int .i64 1] 3) = V := ⟨_, rfl⟩
      have HO1 : Hid (OwnI V Y0.heap.size (.slice (some ⟨Y0.heap.size, 0, none⟩) 1 1) (pI q 1)) := by rw [← hV]; exact Lib.hid (ownLit1 Y0 Y0.heap.size (Nat.le_refl _) 1)
      have HB1 : Hid (Below Y0.heap.size Y0 V) := by rw [← hV]; exact Lib.hid (belowAlloc Y0 _)
      go_wp2_with fail
      try rw [hV]
      clear hV
      go_loopw [7, 8] (fun v i Y => ∃ j : Nat, j ≤ q ∧ i = .int .i64 ((j + 1 : Nat) : Int) ∧ Hid (OwnI Y Y0.heap.size v (pI q (j + 1))) ∧ Hid (Below Y0.heap.size Y0 Y)) (fun _ i _ => q + 1 - (intOf i).toNat)
      case atStart => exact ⟨0, Nat.zero_le _, rfl, HO1, HB1⟩
      case round =>
        obtain ⟨j, hj, rfl, HO2, HB2⟩ := hrel
        by_cases hlj : j < q
        · obtain ⟨ad, hA, had, hc1⟩ := HR5.out.one (k := j) (by rw [hl5]; omega)
          obtain ⟨ad2, hA2, _, hc2⟩ := HR5.out.one (k := j + 1) (by rw [hl5]; omega)
          have hA : A5 = some ad := hA
          subst hA
          cases hA2
          rw [rIAt] at hc1 hc2
          obtain ⟨ad3, hA3, _, hc0⟩ := HR5.out.one (k := 0) (by rw [hl5]; omega)
          cases hA3
          obtain ⟨gb, gf, spot⟩ := ad
          have hspot : spot = none := by simpa [Addr.add] using World.cell?_spot hc0
          subst hspot
          clear hc0
          rw [Addr.add_lit] at hc1 hc2
          have had : gb < Y0.heap.size := had
          have hz64 := binLe (n := q + 1) (k := j + 1) (by omega)
          have hbs : bin q j + bin q (j + 1) = bin (q + 1) (j + 1) := rfl
          have HPS0 : pI q (j + 2) = pI q (j + 1) ++ [((bin (q + 1) (j + 1) : Nat) : Int)] := pIS q (j + 1)
          obtain ⟨x, hx⟩ : ∃ x, ((bin q j : Nat) : Int) = x := ⟨_, rfl⟩
          obtain ⟨y, hy⟩ : ∃ y, ((bin q (j + 1) : Nat) : Int) = y := ⟨_, rfl⟩
          obtain ⟨z, hz⟩ : ∃ z, ((bin (q + 1) (j + 1) : Nat) : Int) = z := ⟨_, rfl⟩
          have hsum : IntKind.i64.wrap (x + y) = z := by rw [IntKind.wrap_i64]; omega
          have hsub : IntKind.i64.wrap (((j + 1 : Nat) : Int) - 1) = (j : Int) := by rw [IntKind.wrap_i64]; omega
          have hsub2 : IntKind.i64.wrap ((j : Int) + 1 - 1) = (j : Int) := by rw [IntKind.wrap_i64]; omega
          have hsub3 : IntKind.i64.wrap (j : Int) = (j : Int) := by rw [IntKind.wrap_i64]; omega
          rw [hx] at hc1
          rw [hy] at hc2
          rw [hz] at HPS0
          have HPS := Lib.hid HPS0
          have HS := Lib.hid (fun X (hX : Below Y0.heap.size Y0 X) => (⟨hX, (hX.cell (p := ⟨gb, gf + j, none⟩) had).trans hc1, (hX.cell (p := ⟨gb, gf + (j + 1), none⟩) had).trans hc2⟩ : Below Y0.heap.size Y0 X ∧ X.cell? ⟨gb, gf + j, none⟩ = some (.int .i64 x) ∧ X.cell? ⟨gb, gf + (j + 1), none⟩ = some (.int .i64 y)))
          have hS0 := HS.out wr.drew (HB2.out.drew)
          have hj0 : (0 : Int) ≤ j := by omega
          have hj1 : (j : Int) < (q : Int) + 1 := by omega
          have hj2 : (0 : Int) ≤ (j : Int) + 1 := by omega
          have hj3 : (j : Int) + 1 < (q : Int) + 1 := by omega
          clear hx hy hz hbs hc1 hc2 HPS0 hz64
          go_wp2_with fail
          refine wp_region_held_drew (S := (fun X => Below Y0.heap.size Y0 X ∧ X.cell? ⟨gb, gf + j, none⟩ = some (.int .i64 x) ∧ X.cell? ⟨gb, gf + (j + 1), none⟩ = some (.int .i64 y))) (by kernel_rfl) hS0 (fun hHeld => ?_)
          refine wpAnyH_take (i := 0) (oi := ⟨some 22, _, _, _, _, _⟩) (v := ?v0_1) rfl (by kernel_rfl) (by kernel_rfl) (by kernel_rfl) (fun _ _ _ h => h) (Or.inl ⟨by rfl, ?h0_1⟩) (by assumption) ?r0_1
          case h0_1 => (intro w hSw; (try dsimp only at hSw); go_simp; try with_reducible rfl)
          (try simp only [Act.put, List.setIfInBounds_toArray, List.set_cons_zero, List.set_cons_succ])
          refine wpAnyH_take (i := 1) (oi := ⟨some 23, _, _, _, _, _⟩) (v := ?v1_2) rfl (by kernel_rfl) (by kernel_rfl) (by kernel_rfl) (fun _ _ _ h => h) (Or.inl ⟨by rfl, ?h1_2⟩) (by assumption) ?r1_2
          case h1_2 => (intro w hSw; (try dsimp only at hSw); go_simp; try with_reducible rfl)
          (try simp only [Act.put, List.setIfInBounds_toArray, List.set_cons_zero, List.set_cons_succ])
          refine wpAnyH_take (i := 2) (oi := ⟨some 24, _, _, _, _, _⟩) (v := ?v2_3) rfl (by kernel_rfl) (by kernel_rfl) (by kernel_rfl) (fun _ _ _ h => h) (Or.inl ⟨by rfl, ?h2_3⟩) (by assumption) ?r2_3
          case h2_3 => (intro w hSw; (try dsimp only at hSw); go_simp; try with_reducible rfl)
          (try simp only [Act.put, List.setIfInBounds_toArray, List.set_cons_zero, List.set_cons_succ])
          refine wpAnyH_take (i := 3) (oi := ⟨some 25, _, _, _, _, _⟩) (v := ?v3_4) rfl (by kernel_rfl) (by kernel_rfl) (by kernel_rfl) (fun _ _ _ h => h) (Or.inl ⟨by rfl, ?h3_4⟩) (by assumption) ?r3_4
          case h3_4 => (intro w hSw; (try dsimp only at hSw); go_simp; try with_reducible rfl)
          (try simp only [Act.put, List.setIfInBounds_toArray, List.set_cons_zero, List.set_cons_succ])
          refine wpAnyH_take (i := 4) (oi := ⟨some 26, _, _, _, _, _⟩) (v := ?v4_5) rfl (by kernel_rfl) (by kernel_rfl) (by kernel_rfl) (fun _ _ _ h => h) (Or.inl ⟨by rfl, ?h4_5⟩) (by assumption) ?r4_5
          case h4_5 => (intro w hSw; (try dsimp only at hSw); go_simp; try with_reducible rfl)
          (try simp only [Act.put, List.setIfInBounds_toArray, List.set_cons_zero, List.set_cons_succ])
          refine wpAnyH_take (i := 5) (oi := ⟨some 27, _, _, _, _, _⟩) (v := ?v5_6) rfl (by kernel_rfl) (by kernel_rfl) (by kernel_rfl) (fun _ _ _ h => h) (Or.inl ⟨by rfl, ?h5_6⟩) (by assumption) ?r5_6
          case h5_6 => (intro w hSw; (try dsimp only at hSw); go_simp; try with_reducible rfl)
          (try simp only [Act.put, List.setIfInBounds_toArray, List.set_cons_zero, List.set_cons_succ])
          refine wpAnyH_take (i := 6) (oi := ⟨some 28, _, _, _, _, _⟩) (v := ?v6_7) rfl (by kernel_rfl) (by kernel_rfl) (by kernel_rfl) (fun _ _ _ h => h) (Or.inl ⟨by rfl, ?h6_7⟩) (by assumption) ?r6_7
          case h6_7 => (intro w hSw; (try dsimp only at hSw); go_simp; try with_reducible rfl)
          (try simp only [Act.put, List.setIfInBounds_toArray, List.set_cons_zero, List.set_cons_succ])
          refine wpAnyH_take (i := 7) (oi := ⟨some 29, _, _, _, _, _⟩) (v := ?v7_8) rfl (by kernel_rfl) (by kernel_rfl) (by kernel_rfl) (fun _ _ _ h => h) (Or.inl ⟨by rfl, ?h7_8⟩) (by assumption) ?r7_8
          case h7_8 => (intro w hSw; (try dsimp only at hSw); go_simp; try with_reducible rfl)
          (try simp only [Act.put, List.setIfInBounds_toArray, List.set_cons_zero, List.set_cons_succ])
          refine wpAnyH_take (i := 8) (oi := ⟨some 30, _, _, _, _, _⟩) (v := ?v8_9) rfl (by kernel_rfl) (by kernel_rfl) (by kernel_rfl) (fun _ _ _ h => h) (Or.inl ⟨by rfl, ?h8_9⟩) (by assumption) ?r8_9
          case h8_9 => (intro w hSw; (try dsimp only at hSw); go_simp; try with_reducible rfl)
          (try simp only [Act.put, List.setIfInBounds_toArray, List.set_cons_zero, List.set_cons_succ])
          refine wpAnyH_take (i := 9) (oi := ⟨some 31, _, _, _, _, _⟩) (v := ?v9_10) rfl (by kernel_rfl) (by kernel_rfl) (by kernel_rfl) (fun _ _ _ h => h) (Or.inl ⟨by rfl, ?h9_10⟩) (by assumption) ?r9_10
          case h9_10 => (intro w hSw; (try dsimp only at hSw); go_simp; try with_reducible rfl)
          (try simp only [Act.put, List.setIfInBounds_toArray, List.set_cons_zero, List.set_cons_succ])
          refine wpAnyH_take (i := 10) (oi := ⟨some 32, _, _, _, _, _⟩) (v := ?v10_11) rfl (by kernel_rfl) (by kernel_rfl) (by kernel_rfl) (fun _ _ _ h => h) (Or.inl ⟨by rfl, ?h10_11⟩) (by assumption) ?r10_11
          case h10_11 => (intro w hSw; (try dsimp only at hSw); go_simp; try with_reducible rfl)
          (try simp only [Act.put, List.setIfInBounds_toArray, List.set_cons_zero, List.set_cons_succ])
          refine wpAnyH_ready (rs := [11]) (by kernel_rfl) (by simp) ?_
          refine AllReadyH.cons (o := ⟨some 33, _, _, _, _, _⟩) rfl (fun K hK => ?_) AllReadyH.nil
          obtain ⟨Xa, hXa⟩ : ∃ Xa, World.alloc wr.drew (.cells #[.int .i64 z] 3) = Xa := ⟨_, rfl⟩
          have sXa : Below wr.heap.size wr Xa := by rw [← hXa]; exact (Below.refl _ wr).drew.alloc (Nat.le_refl _) _
          have rXa : Rd Xa (some ⟨wr.heap.size, 0, none⟩) 1 [z] := by rw [← hXa]; exact litI wr.drew z
          go_simp
          try rw [hXa]
          refine hK.out _ _ (HS.out _ (belowThen HB2.out sXa)) (fun hHeld => ?_)
          clear hK K hXa
          (try simp only [Act.put, List.setIfInBounds_toArray, List.set_cons_zero, List.set_cons_succ])
          refine wpAnyH_ready (rs := [12]) (by kernel_rfl) (by simp) ?_
          refine AllReadyH.cons (o := ⟨some 34, _, _, _, _, _⟩) rfl (fun K hK => ?_) AllReadyH.nil
          obtain ⟨v7, w7, hrun, o7, b7⟩ := runI Xa 25 Y0.heap.size _ (pI q (j + 1)) (ownChg HO2.out (Chg.ofBelow sXa fun _ => True) fun _ _ => trivial) (some ⟨wr.heap.size, 0, none⟩) 1 1 [z] rfl rXa (by rw [pILen]; simp; omega) (Nat.le_trans HB2.out.size sXa.size)
          have HB7 := Lib.hid ((belowThen HB2.out sXa).trans b7)
          have HO7 := Lib.hid (show OwnI w7 Y0.heap.size v7 (pI q (j + 2)) by rw [HPS.out]; exact o7)
          refine Lib.wp_append_run _ (.tmp 22) (.tmp 33) 25 25 rfl _ _ rfl rfl _ _ hrun ?_
          refine hK.out _ _ (HS.out _ HB7.out) (fun hHeld => ?_)
          clear hK K hrun o7 b7
          (try simp only [Act.put, List.setIfInBounds_toArray, List.set_cons_zero, List.set_cons_succ])
          refine wpAnyH_take (i := 13) (oi := ⟨some 7, _, _, _, _, _⟩) (v := ?v13_12) rfl (by kernel_rfl) (by kernel_rfl) (by kernel_rfl) (fun _ _ _ h => h) (Or.inl ⟨by rfl, ?h13_12⟩) (by assumption) ?r13_12
          case h13_12 => (intro w hSw; (try dsimp only at hSw); go_simp; try with_reducible rfl)
          (try simp only [Act.put, List.setIfInBounds_toArray, List.set_cons_zero, List.set_cons_succ])
          refine wpAnyH_done (by kernel_rfl) ?_ _
          clear hHeld
          go_wp2
          go_roundw
          case rel => exact ⟨j + 1, by omega, by first | go_num | (simp; omega), HO7, HB7⟩
          case measure => simp [intOf]; omega
        · have hjq : j = q := by omega
          subst hjq
          have hn5 : (pI j (j + 1)).length ≤ 65 := by rw [pILen]; omega
          have HPS := Lib.hid (show rI (j + 1) = pI j (j + 1) ++ [(1 : Int)] by rw [← pIAll, pIS, binSelf]; rfl)
          have hzw := HB2.out.size
          have hzz := HB.out.size
          go_wp2_with (at_builtin; refine appI _ rfl (.tmp 35) (.tmp 36) rfl Y0.heap.size _ (pI j (j + 1)) rfl (HO2.out.alloc _) (some ⟨_, 0, none⟩) 1 1 [(1 : Int)] rfl rfl (litI _ _) (by rw [List.length_singleton]; omega) (by simp; omega) ?_; intro v9 w9 o9 _ b9; have HO9 := Lib.hid (show OwnI w9 w.heap.size v9 (rI (j + 1)) by rw [HPS.out]; exact ownMono o9 hzz); have HB9 := Lib.hid (belowThen HB.out (stepA HB2.out b9)); clear o9 b9)
          all_goals first
            | (exfalso; omega)
            | go_roundw
          case rel => exact ⟨j + 1, by omega, by go_num, HO9, HB9⟩
          case measure => simp [intOf]; omega
    · have hqn : q = n := by omega
      subst hqn
      obtain ⟨ad, rfl, _, hc⟩ := HR5.out.one (k := k) (by rw [hl5]; omega)
      rw [rIAt] at hc
      have hk0 : (0 : Int) ≤ k := by omega
      have hk1 : (k : Int) < (q : Int) + 1 := by omega
      go_wp2
      all_goals first
        | (exfalso; omega)
        | (go_ret; exact ⟨rfl, HB.out⟩)
end Go.Proofs.YthigdniepifohaaDoor
