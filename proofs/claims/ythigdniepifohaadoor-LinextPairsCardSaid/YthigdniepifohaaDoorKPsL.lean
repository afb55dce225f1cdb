/-
  The law LinextPairs: what it does before it asks whether the longer relation is small, valid and acyclic.
-/
import Derived.Test.YthigdniepifohaaDoorKLFw
import Derived.Test.YthigdniepifohaaDoorKCnt
import Derived.Test.YthigdniepifohaaDoorKRRefV
import Derived.Test.YthigdniepifohaaDoorKRRefA
import Derived.OrdersHeld
import Derived.Deep.RegionHeld
import Derived.Lib.AppendZeros
namespace Go.Proofs.YthigdniepifohaaDoor
open Go Go.RowKit

/-! ### Mathematics -/
theorem hasSub {l : Prs} {p : Int × Int} {a b : Nat} (h : hasP l a b = true) : hasP (l ++ [p]) a b = true := by
  unfold hasP at *
  simp only [decide_eq_true_eq] at *
  exact List.mem_append_left _ h
theorem okSub {N : Int} {l : Prs} {p : Int × Int} (h : okR N (l ++ [p]) = true) : okR N l = true := by
  unfold okR at *
  simp only [decide_eq_true_eq] at *
  exact ⟨h.1, h.2.1, fun q hq => h.2.2 q (List.mem_append_left _ hq)⟩
theorem acySub {N : Nat} {l : Prs} {p : Int × Int} (h : acyR N (l ++ [p]) = true) : acyR N l = true := by
  have hq := acyQ h
  unfold acyR at *
  rw [Bool.and_eq_true] at *
  refine ⟨okSub h.1, acyIff.2 fun a ha => ?_⟩
  cases e : tcT N (hasP l) a a
  · exact e
  · have ha' : a < N := ha
    have := tcMono (n := N) (g := hasP (l ++ [p])) (fun a b _ _ h => hasSub h) ha' ha' e
    rw [hq a ha'] at this
    cases this
theorem okMono {N : Nat} {f g : Nat → Nat → Bool} (h : ∀ a b, a < N → b < N → f a b = true → g a b = true) : ∀ {t : List Nat} {s : Nat}, okL N g s t = true → okL N f s t = true
  | [], _, _ => rfl
  | a :: t, s, ht => by
    simp only [okL, Bool.and_eq_true, decide_eq_true_eq] at *
    exact ⟨⟨ht.1.1, canMono h ht.1.1 ht.1.2⟩, okMono h ht.2⟩
theorem rchMono {N : Nat} {f g : Nat → Nat → Bool} (h : ∀ a b, a < N → b < N → f a b = true → g a b = true) {s x : Nat} (hx : RchS N g s x) : RchS N f s x := by
  obtain ⟨t, h1, h2⟩ := hx
  exact ⟨t, okMono h h1, h2⟩
theorem dwnMono {N : Nat} {f g : Nat → Nat → Bool} (h : ∀ a b, a < N → b < N → f a b = true → g a b = true) {D D' : List Nat} (hD : VisT N f D) (h0 : 0 ∈ D) (hD' : VisT N g D') : D'.length ≤ D.length :=
  nodupLeY hD'.nodup fun x hx => (hD.mem h0).2 (rchMono h (hD'.rch x hx))
theorem waysNine {N : Nat} (h : N ≤ 9) {f : Nat → Nat → Bool} : ways N f N 0 ≤ 387420489 :=
  Nat.le_trans waysPow (Nat.le_trans (Nat.pow_le_pow_left h _) (Nat.le_trans (Nat.pow_le_pow_right (by decide) h) (by decide)))
/-! ### Rows of pairs -/
theorem ownPNew (w : World) (base : Nat) (h : base ≤ w.heap.size) : OwnP (w.alloc (.cells #[] 43)) base (.slice (some ⟨w.heap.size, 0, none⟩) 0 0) [] :=
  ⟨rfl, .inr ⟨w.heap.size, 0, #[], rfl, h, heap_alloc_new w _, Nat.le_refl _, Nat.zero_le _, rfl, rfl⟩⟩
theorem runAppB (w : World) (base : Nat) (ty : TypeId) (v : Value) (l : Prs) (hown : OwnP w base v l) (A : Option Addr) (m c : Nat) (news : Prs) (hm : news.length = m) (hr : Rp w A c news) (hb : (l.length + m) * 16 ≤ 140737488355328) (hbase : base ≤ w.heap.size) :
    ∃ v' w', (Builtin.append_ #[22, 22] ty #[v, .slice A m c]).run Tryd.prog w = .ok v' w' ∧ OwnP w' base v' (l ++ news) ∧ w.grownBy w' v.ownBlock := by
  obtain ⟨i0, hi, hz0, hz1, hz2⟩ := info_parts infoPair
  have ht := Tryd.underlying22
  rcases A with _ | a
  · have hn : news = [] := by
      rcases Nat.eq_zero_or_pos news.length with h0 | h0
      · exact List.eq_nil_of_length_eq_zero h0
      · obtain ⟨b, off, h, _⟩ := hr.at_ h0
        cases h
    subst hn
    subst hm
    refine ⟨v, w, ?_, by simpa using hown, World.grownBy.refl w _⟩
    rcases hown.2 with ⟨rfl, h0⟩ | ⟨g, cap, cur, rfl, _, _, hnc, _⟩
    · simp [Builtin.append_, run_underlying ht, sizeOf, typeInfo, hi, Builtin.lenOf, Builtin.firstCells]
    · simp [Builtin.append_, run_underlying ht, sizeOf, typeInfo, hi, Builtin.lenOf, Builtin.firstCells, hnc, storeCells]
  · have hcells : ∀ j u, (ct news)[j]? = some u → w.cell? (a.add j) = some u := by
      rcases Nat.eq_zero_or_pos news.length with h0 | h0
      · obtain rfl := List.eq_nil_of_length_eq_zero h0
        intro j u hu
        simp [ct] at hu
      · obtain ⟨b, off, h, _⟩ := hr.at_ h0
        injection h with h
        subst h
        exact ctCells hr rfl
    obtain ⟨v', w', hrun, o1, g1, _, _⟩ := run_append_own_at (P := Tryd.prog) w base 22 ty 43 i0 _ 2 16 ht hi hz0 hz1 hz2 rfl (by decide) v l.length (ct l) hown a m c (ct news) (by rw [ctLen, hm]) hcells (ctOne _) (by unfold maxLen; omega) hb hbase
    refine ⟨v', w', hrun, ?_, g1⟩
    unfold OwnP
    rw [List.length_append, ctApp, hm]
    exact o1
theorem BoxR.grown {X X2 : World} {g base : Nat} {N : Int} {v u : Value} {l : Prs} (h : BoxR X g N v) (ho : OwnP X base u l) (hg : X.grownBy X2 u.ownBlock) : BoxR X2 g N v := by
  have h' : X.heap[g]? = some (.cells #[.int .i64 N, v] 24 (0, 0)) := h
  refine (hg.block g (Array.getElem?_eq_some_iff.1 h').1 fun hh => ?_).trans h'
  rcases ho.2 with ⟨h2, _⟩ | ⟨b, cap, cur', h2, _, hb, _⟩
  · rw [h2] at hh; simp [Value.ownBlock] at hh
  · rw [h2] at hh
    simp [Value.ownBlock] at hh
    subst hh
    rw [hb] at h'
    injection h' with hq
    injection hq with _ ht
    exact absurd ht (by decide)
theorem OwnP.boxed {X : World} {g base : Nat} {N N' : Int} {v u u' : Value} {l : Prs} (h : OwnP X base u l) (hB : BoxR X g N' v) : OwnP ((X.setCell ⟨g, 0, none⟩ (.int .i64 N)).setCell ⟨g, 1, none⟩ u') base u l := by
  have h' : X.heap[g]? = some (.cells #[.int .i64 N', v] 24 (0, 0)) := hB
  refine h.chg (F := fun k => k ≠ g) ⟨rfl, rfl, rfl, by rw [World.size_setCell, World.size_setCell]; exact Nat.le_refl _, fun k _ hk => (heap_setCell_other _ ⟨g, 1, none⟩ k _ hk).trans (heap_setCell_other _ ⟨g, 0, none⟩ k _ hk)⟩ fun b hb e => ?_
  subst e
  rcases h.2 with ⟨h2, _⟩ | ⟨b', cap, cur', h2, _, hbb, _⟩
  · rw [h2] at hb; simp [Value.ownBlock] at hb
  · rw [h2] at hb
    simp [Value.ownBlock] at hb
    subst hb
    rw [hbb] at h'
    injection h' with hq
    injection hq with _ ht
    exact absurd ht (by decide)
theorem OwnP.rdAt {X : World} {base n c : Nat} {A : Option Addr} {l : Prs} (h : OwnP X base (.slice A n c) l) : Rp X A c l := by
  obtain ⟨A3, c3, e3, hr, _⟩ := h.rd
  injection e3 with e1 _ e2
  subst e1; subst e2
  exact hr
theorem OwnP.boxed1 {X : World} {g base : Nat} {N' : Int} {v u u' : Value} {l : Prs} (h : OwnP X base u l) (hB : BoxR X g N' v) : OwnP (X.setCell ⟨g, 1, none⟩ u') base u l := by
  have h' : X.heap[g]? = some (.cells #[.int .i64 N', v] 24 (0, 0)) := hB
  refine h.chg (F := fun k => k ≠ g) ⟨rfl, rfl, rfl, by rw [World.size_setCell]; exact Nat.le_refl _, fun k _ hk => heap_setCell_other _ ⟨g, 1, none⟩ k _ hk⟩ fun b hb e => ?_
  subst e
  rcases h.2 with ⟨h2, _⟩ | ⟨b', cap, cur', h2, _, hbb, _⟩
  · rw [h2] at hb; simp [Value.ownBlock] at hb
  · rw [h2] at hb
    simp [Value.ownBlock] at hb
    subst hb
    rw [hbb] at h'
    injection h' with hq
    injection hq with _ ht
    exact absurd ht (by decide)
theorem okNonP {N : Int} {l : Prs} (h : okR N l = true) : 0 ≤ N := by
  unfold okR at h
  exact (of_decide_eq_true h).1
set_option maxRecDepth 100000 in
set_option maxHeartbeats 8000000 in
theorem lawPairs (N : Int) (l : Prs) (n : Nat) (hn : l.length = n) (hgr : n * 16 ≤ 140737488351232) (x y : Int) (A : Option Addr) (c : Nat) (w : World) (ha : Rp w A c l) (hT : Tbl w) :
    Calls Tryd.prog 9 #[relV N A n c, .int .i64 x, .int .i64 y] w fun e w' => e = .returned (.bool true) ∧ Below w.heap.size w w' := by
  obtain ⟨W, hW⟩ : ∃ W, w.alloc (.cells #[.int .i64 N, .slice A n c] 24) = W := ⟨_, rfl⟩
  have hbW : Below w.heap.size w W := by rw [← hW]; exact belowAlloc w _
  have HB : Hid (BoxR W w.heap.size N (.slice A n c)) := by rw [← hW]; exact Lib.hid (BoxR.new w N _)
  have HKS := Lib.hid (fun X (hX : Below W.heap.size W X) => (⟨hX, (HB.out.below hX).facts.1, (HB.out.below hX).facts.2.1⟩ : Below W.heap.size W X ∧ X.cell? ⟨w.heap.size, 0, none⟩ = some (.int .i64 N) ∧ X.cell? ⟨w.heap.size, 1, none⟩ = some (.slice A n c)))
  have HAP := Lib.hid (fun X (hX : Below W.heap.size W X) ty v (ho : OwnP X W.heap.size v []) => runAppB X W.heap.size ty v [] ho A n c l hn ((ha.below hbW).below hX) (by simp only [List.length_nil]; omega) hX.size)
  have HW := Lib.hid hW
  have HA := Lib.hid ha
  have HT := Lib.hid hT
  have HBW := Lib.hid hbW
  have hS : Below W.heap.size W W.drew := (Below.refl _ W).drew
  clear hbW hW ha hT
  go_enter Tryd.func9, Tryd.ntmps9
  go_wp2_with fail
  rw [HW.out]
  refine Code.wp_mono (Q := fun e s X => ∃ A0 A' c' g, e = .normal ∧ s = ⟨#[.agg #[.int .i64 N, .slice A n c], .int .i64 x, .int .i64 y, .pointer (some ⟨w.heap.size, 0, none⟩), undef, undef, .bool false, .pointer (some ⟨g, 0, none⟩), undef, undef, undef, undef, undef, undef, undef, undef, .pointer (some ⟨w.heap.size, 0, none⟩), .int .i64 N, .slice A0 0 0, .pointer (some ⟨w.heap.size, 1, none⟩), .slice A n c, .slice A' n c', .agg #[.int .i64 N, .slice A' n c'], undef, undef, undef, undef, undef, undef, undef, undef, undef, undef, undef, undef, undef, undef, undef, undef, undef, undef, undef, undef, undef, undef, undef, undef, undef, undef, undef, undef, undef, undef, undef, undef, undef, undef, undef, undef, undef, undef, undef, undef, undef, undef, undef, undef, undef, undef, undef, undef, undef, undef, undef, undef, undef, undef, undef, undef, undef, undef, undef, undef, undef, undef, undef, undef, undef, undef, undef, undef, undef, undef, undef, undef, undef], []⟩ ∧ W.heap.size ≤ g ∧ Below W.heap.size W X ∧ BoxR X g N (.slice A' n c') ∧ OwnP X W.heap.size (.slice A' n c') l) ?_ ?_
  · rintro e s X ⟨A0, A', c', g, rfl, rfl, glo, hb, hB, hO⟩
    obtain ⟨X1, hX1⟩ : ∃ X1, X.alloc (.cells #[.int .i64 x, .int .i64 y] 43) = X1 := ⟨_, rfl⟩
    have sX1 : Below X.heap.size X X1 := by rw [← hX1]; exact belowAlloc _ _
    have hr1 : Rp X1 (some ⟨X.heap.size, 0, none⟩) 1 [(x, y)] := by rw [← hX1]; exact cellPair X x y _
    have hO1 := hO.below sX1
    obtain ⟨v2, X2, hrun, hO2, hgr2⟩ := runAppB X1 W.heap.size 22 (.slice A' n c') l hO1 (some ⟨X.heap.size, 0, none⟩) 1 1 [(x, y)] rfl hr1 (by rw [hn]; omega) (Nat.le_trans hb.size sX1.size)
    have hb2 : Below W.heap.size W X2 := (belowThen hb sX1).grown hgr2 (Nat.le_trans hb.size sX1.size) fun q hq => (OwnP.lt hO1 hq).1
    have hB2 := (hB.below sX1).grown hO1 hgr2
    obtain ⟨A2, c2, rfl, _, _⟩ := hO2.rd
    have hln : (l ++ [(x, y)]).length = n + 1 := by rw [List.length_append, hn]; rfl
    rw [hln] at hrun hO2
    obtain ⟨ls, hls⟩ : ∃ ls, l ++ [(x, y)] = ls := ⟨_, rfl⟩
    rw [hls] at hln hO2
    obtain ⟨x1, x2, z1, z2⟩ := hB.facts
    obtain ⟨y1, y2, q1, q2⟩ := hB2.facts
    obtain ⟨Z, hZ⟩ : ∃ Z, X2.setCell ⟨g, 1, none⟩ (.slice A2 (n + 1) c2) = Z := ⟨_, rfl⟩
    have hBZ : BoxR Z g N (.slice A2 (n + 1) c2) := by rw [← hZ]; exact hB2.stored1 _
    have hbZ : Below W.heap.size W Z := by rw [← hZ]; exact hb2.setCell glo _
    have hOZ : OwnP Z W.heap.size (.slice A2 (n + 1) c2) ls := by rw [← hZ]; exact hO2.boxed1 hB2
    have hrZ := hOZ.rdAt
    have HBZ := Lib.hid hbZ
    have HRs := Lib.hid (fun Y (hY : Below Z.heap.size Z Y) => hrZ.below hY)
    have HRl := Lib.hid (fun Y (hY : Below Z.heap.size Z Y) => HA.out.below (belowThen HBW.out (belowThen HBZ.out hY)))
    have HTb := Lib.hid (fun Y (hY : Below Z.heap.size Z Y) => HT.out.below (belowThen HBW.out (belowThen HBZ.out hY)))
    have HKs := Lib.hid (fun Y (hY : Below Z.heap.size Z Y) => (hBZ.below hY).facts)
    have HKl := Lib.hid (fun Y (hY : Below Z.heap.size Z Y) => (HKS.out Y (belowThen HBZ.out hY)).2)
    have HLs := Lib.hid hls
    have HAW := Lib.hid (fun Y (hY : Below Z.heap.size Z Y) => awOk Y (HTb.out Y hY))
    have HFW := Lib.hid (fun Y => lFew N n 9 A c Y)
    have HVA := Lib.hid (fun Y (hY : Below Z.heap.size Z Y) => rValid N ls (n + 1) hln (okR N ls) rfl A2 c2 Y (HRs.out Y hY))
    have HAC := Lib.hid (fun Y (hY : Below Z.heap.size Z Y) => rAcyclic N ls (n + 1) hln (acyR N ls) rfl A2 c2 Y (HRs.out Y hY))
    have hle : n ≤ c' := by have := hO.rdAt.le; omega
    have hmx : c' ≤ 9223372036854775807 := hO.rdAt.max
    clear hb hB hO sX1 hr1 hO1 hgr2 hb2 hB2 hO2 hbZ hBZ hOZ hrZ hS HAP HB hls
    have bZ : Below Z.heap.size Z Z := Below.refl _ _
    obtain ⟨k0, k1⟩ := HKl.out Z bZ
    go_wp2_with (at_builtin; refine Lib.wpList_append_run _ rfl _ _ _ _ rfl _ _ rfl rfl _ _ hrun ?_)
    try rw [hZ]
    clear hrun x1 x2 z1 z2 y1 y2 q1 q2 hZ hX1
    cases hf : fewB N n 9 with
    | false =>
      rw [hf] at HFW
      refine (HFW.out Z).mono ?_
      rintro e w1 ⟨rfl, b1⟩
      clear k0 k1
      go_wp2_with fail
      refine (HAW.out w1 b1).mono ?_
      rintro e w2 ⟨rfl, b2⟩
      go_wp2
      go_ret
      exact ⟨rfl, belowThen HBW.out (belowThen HBZ.out (belowThen b1 b2))⟩
    | true =>
      rw [hf] at HFW
      refine (HFW.out Z).mono ?_
      rintro e w1 ⟨rfl, b1⟩
      clear k0 k1
      obtain ⟨k0, k1, _, _⟩ := HKs.out w1 b1
      cases hv : okR N ls with
      | false =>
        rw [hv] at HVA
        go_wp2_with fail
        refine (HVA.out w1 b1).mono ?_
        rintro e w2 ⟨rfl, b2⟩
        have B2 := belowThen b1 b2
        clear k0 k1
        go_wp2_with fail
        refine (HAW.out w2 B2).mono ?_
        rintro e w3 ⟨rfl, b3⟩
        go_wp2
        go_ret
        exact ⟨rfl, belowThen HBW.out (belowThen HBZ.out (belowThen B2 b3))⟩
      | true =>
        rw [hv] at HVA
        go_wp2_with fail
        refine (HVA.out w1 b1).mono ?_
        rintro e w2 ⟨rfl, b2⟩
        have B2 := belowThen b1 b2
        clear k0 k1
        obtain ⟨k0, k1, _, _⟩ := HKs.out w2 B2
        cases hc : acyR N ls with
        | false =>
          rw [hc] at HAC
          go_wp2_with fail
          refine (HAC.out w2 B2).mono ?_
          rintro e w3 ⟨rfl, b3⟩
          have B3 := belowThen B2 b3
          clear k0 k1
          go_wp2_with fail
          refine (HAW.out w3 B3).mono ?_
          rintro e w4 ⟨rfl, b4⟩
          go_wp2
          go_ret
          exact ⟨rfl, belowThen HBW.out (belowThen HBZ.out (belowThen B3 b4))⟩
        | true =>
          rw [hc] at HAC
          go_wp2_with fail
          refine (HAC.out w2 B2).mono ?_
          rintro e w3 ⟨rfl, b3⟩
          have B3 := Lib.hid (belowThen B2 b3)
          clear k0 k1 b1 b2 b3 B2
          have h0 := okNonP hv
          unfold fewB at hf
          simp only [Bool.and_eq_true, decide_eq_true_eq] at hf
          obtain ⟨m, rfl⟩ : ∃ m : Nat, N = m := ⟨N.toNat, by omega⟩
          have hm9 : m ≤ 9 := by omega
          have hcl : acyR (m : Int) l = true := acySub (p := (x, y)) (by rw [HLs.out]; exact hc)
          have hsub : ∀ a b, a < m → b < m → hasP l a b = true → hasP ls a b = true := fun a b _ _ h => by rw [← HLs.out]; exact hasSub h
          have H1 := Lib.hid (fun Y (hY : Below Z.heap.size Z Y) => iCountOk m (by omega) l n hn (by omega) hcl (dwnLe m (by omega) _) (Nat.le_trans (waysNine hm9) (by decide)) A c Y (HRl.out Y hY) (HTb.out Y hY))
          have H2 := Lib.hid (fun Y (hY : Below Z.heap.size Z Y) => iCountOk m (by omega) ls (n + 1) hln (by omega) hc (dwnLe m (by omega) _) (Nat.le_trans (waysNine hm9) (by decide)) A2 c2 Y (HRs.out Y hY) (HTb.out Y hY))
          have H3 := Lib.hid (fun Y (hY : Below Z.heap.size Z Y) => iDownOk m (by omega) l n hn (by omega) hcl (dwnLe m (by omega) _) A c Y (HRl.out Y hY) (HTb.out Y hY))
          have H4 := Lib.hid (fun Y (hY : Below Z.heap.size Z Y) => iDownOk m (by omega) ls (n + 1) hln (by omega) hc (dwnLe m (by omega) _) A2 c2 Y (HRs.out Y hY) (HTb.out Y hY))
          have hle1 : ways m (hasP ls) m 0 ≤ ways m (hasP l) m 0 := waysMono hsub
          have hpos : 0 < ways m (hasP ls) m 0 := waysPos (acyQ hc) (by rw [outZero]; omega)
          obtain ⟨M1, hM1⟩ : ∃ M, ways m (hasP l) m 0 = M := ⟨_, rfl⟩
          obtain ⟨M2, hM2⟩ : ∃ M, ways m (hasP ls) m 0 = M := ⟨_, rfl⟩
          rw [hM1] at H1 hle1
          rw [hM2] at H2 hle1 hpos
          have HSUB := Lib.hid hsub
          clear hM1 hM2 hsub hcl hc hv hf h0 HAC HVA HFW
          obtain ⟨k0, k1⟩ := HKl.out w3 B3.out
          go_wp2_with fail
          refine (H1.out w3 B3.out).mono ?_
          rintro e w4 ⟨rfl, b4⟩
          have B4 := Lib.hid (belowThen B3.out b4)
          clear k0 k1
          obtain ⟨k0, k1, _, _⟩ := HKs.out w4 B4.out
          go_wp2_with fail
          refine (H2.out w4 B4.out).mono ?_
          rintro e w5 ⟨rfl, b5⟩
          have B5 := Lib.hid (belowThen B4.out b5)
          clear k0 k1
          obtain ⟨k0, k1⟩ := HKl.out w5 B5.out
          go_wp2_with fail
          refine (H3.out w5 B5.out).mono ?_
          rintro e w6 ⟨D1, rfl, v1, d1, b6⟩
          have B6 := Lib.hid (belowThen B5.out b6)
          clear k0 k1
          obtain ⟨k0, k1, _, _⟩ := HKs.out w6 B6.out
          go_wp2_with fail
          refine (H4.out w6 B6.out).mono ?_
          rintro e w7 ⟨D2, rfl, v2, d2, b7⟩
          have B7 := Lib.hid (belowThen B6.out b7)
          clear k0 k1
          have hdd : D2.length ≤ D1.length := dwnMono HSUB.out v1 d1 v2
          have t1 : decide ((1 : Int) ≤ M2) = true := decide_eq_true (by omega)
          have t2 : decide ((M2 : Int) ≤ M1) = true := decide_eq_true (by omega)
          have t3 : decide ((D2.length : Int) ≤ D1.length) = true := decide_eq_true (by omega)
          have t4 : decide (D2.length ≤ D1.length) = true := decide_eq_true hdd
          clear v1 d1 v2 d2 b4 b5 b6 b7 hle1 hpos
          go_wp2_with fail
          refine (HAW.out w7 B7.out).mono ?_
          rintro e w8 ⟨rfl, b8⟩
          go_wp2
          all_goals first
            | (exfalso; omega)
            | (exfalso; simp_all; done)
            | (go_ret; exact ⟨rfl, belowThen HBW.out (belowThen HBZ.out (belowThen B7.out b8))⟩)
            | (go_ret; exact ⟨retLw t4, belowThen HBW.out (belowThen HBZ.out (belowThen B7.out b8))⟩)
  refine wp_region_held_drew (S := (fun w' => Below W.heap.size W w' ∧ w'.cell? ⟨w.heap.size, 0, none⟩ = some (.int .i64 N) ∧ w'.cell? ⟨w.heap.size, 1, none⟩ = some (.slice A n c))) (by kernel_rfl) (HKS.out _ hS) (fun hHeld => ?_)
  refine wpAnyH_take (i := 0) (oi := ⟨some 16, _, _, _, _, _⟩) (v := ?v0_1) rfl (by kernel_rfl) (by kernel_rfl) (by kernel_rfl) (fun _ _ _ h => by obtain ⟨_, _, _, _, h, _⟩ := h; cases h) (Or.inl ⟨by rfl, ?h0_1⟩) (by assumption) ?r0_1
  case h0_1 => (intro w hSw; (try dsimp only at hSw); go_simp; try with_reducible rfl)
  (try simp only [Act.put, List.setIfInBounds_toArray, List.set_cons_zero, List.set_cons_succ])
  refine wpAnyH_take (i := 1) (oi := ⟨some 17, _, _, _, _, _⟩) (v := ?v1_2) rfl (by kernel_rfl) (by kernel_rfl) (by kernel_rfl) (fun _ _ _ h => by obtain ⟨_, _, _, _, h, _⟩ := h; cases h) (Or.inl ⟨by rfl, ?h1_2⟩) (by assumption) ?r1_2
  case h1_2 => (intro w hSw; (try dsimp only at hSw); go_simp; try with_reducible rfl)
  (try simp only [Act.put, List.setIfInBounds_toArray, List.set_cons_zero, List.set_cons_succ])
  refine wpAnyH_take (i := 3) (oi := ⟨some 19, _, _, _, _, _⟩) (v := ?v3_3) rfl (by kernel_rfl) (by kernel_rfl) (by kernel_rfl) (fun _ _ _ h => by obtain ⟨_, _, _, _, h, _⟩ := h; cases h) (Or.inl ⟨by rfl, ?h3_3⟩) (by assumption) ?r3_3
  case h3_3 => (intro w hSw; (try dsimp only at hSw); go_simp; try with_reducible rfl)
  (try simp only [Act.put, List.setIfInBounds_toArray, List.set_cons_zero, List.set_cons_succ])
  refine wpAnyH_take (i := 4) (oi := ⟨some 20, _, _, _, _, _⟩) (v := ?v4_4) rfl (by kernel_rfl) (by kernel_rfl) (by kernel_rfl) (fun _ _ _ h => by obtain ⟨_, _, _, _, h, _⟩ := h; cases h) (Or.inl ⟨by rfl, ?h4_4⟩) (by assumption) ?r4_4
  case h4_4 => (intro w hSw; (try dsimp only at hSw); go_simp; try with_reducible rfl)
  (try simp only [Act.put, List.setIfInBounds_toArray, List.set_cons_zero, List.set_cons_succ])
  refine wpAnyH_ready (rs := [2, 7]) (by kernel_rfl) (by simp) ?_
  refine AllReadyH.cons (o := ⟨some 18, _, _, _, _, _⟩) rfl (fun K hK => ?_) (AllReadyH.cons (o := ⟨some 7, _, _, _, _, _⟩) rfl (fun K hK => ?_) (AllReadyH.nil))
  · obtain ⟨Xa, hXa⟩ : ∃ Xa, World.alloc W.drew (.cells #[] 43) = Xa := ⟨_, rfl⟩
    have sXa : Below (World.heap W.drew).size W.drew Xa := by rw [← hXa]; exact belowAlloc _ _
    have bXa := belowThen hS sXa
    have oXa : OwnP Xa W.heap.size (.slice (some ⟨(World.heap W).size, 0, none⟩) 0 0) [] := by rw [← hXa]; exact ownPNew _ _ (hS).size
    go_simp
    try rw [hXa]
    refine hK.out _ _ (HKS.out _ bXa) (fun hHeld => ?_)
    clear hK K
    clear hXa
    (try simp only [Act.put, List.setIfInBounds_toArray, List.set_cons_zero, List.set_cons_succ])
    refine wpAnyH_ready (rs := [5, 7]) (by kernel_rfl) (by simp) ?_
    refine AllReadyH.cons (o := ⟨some 21, _, _, _, _, _⟩) rfl (fun K hK => ?_) (AllReadyH.cons (o := ⟨some 7, _, _, _, _, _⟩) rfl (fun K hK => ?_) (AllReadyH.nil))
    · obtain ⟨vb, Xb, hrun, hown, hgr2⟩ := HAP.out Xa bXa _ _ oXa
      obtain ⟨A', c', rfl, hrp, _⟩ := hown.rd
      have bXb : Below W.heap.size W Xb := (bXa).grown hgr2 (bXa).size fun q hq => (OwnP.lt oXa hq).1
      refine Lib.wp_append_run _ (.tmp 18) (.tmp 20) 22 22 rfl _ _ rfl rfl _ _ hrun ?_
      refine hK.out _ _ (HKS.out _ bXb) (fun hHeld => ?_)
      clear hK K
      (try simp only [Act.put, List.setIfInBounds_toArray, List.set_cons_zero, List.set_cons_succ])
      simp only [List.nil_append] at hown hrp
      rw [hn] at hown
      simp only [List.nil_append, hn]
      refine wpAnyH_take (i := 6) (oi := ⟨some 22, _, _, _, _, _⟩) (v := ?v6_5) rfl (by kernel_rfl) (by kernel_rfl) (by kernel_rfl) (fun _ _ _ h => by obtain ⟨_, _, _, _, h, _⟩ := h; cases h) (Or.inl ⟨by rfl, ?h6_5⟩) (by assumption) ?r6_5
      case h6_5 => (intro w hSw; (try dsimp only at hSw); go_simp; try with_reducible rfl)
      (try simp only [Act.put, List.setIfInBounds_toArray, List.set_cons_zero, List.set_cons_succ])
      refine wpAnyH_ready (rs := [7]) (by kernel_rfl) (by simp) ?_
      refine AllReadyH.cons (o := ⟨some 7, _, _, _, _, _⟩) rfl (fun K hK => ?_) (AllReadyH.nil)
      · obtain ⟨Y, hY⟩ : ∃ Y, World.alloc Xb (.cells #[.int .i64 0, .slice none 0 0] 24) = Y := ⟨_, rfl⟩
        have sY : Below (World.heap Xb).size Xb Y := by rw [← hY]; exact belowAlloc _ _
        have bY := belowThen bXb sY
        have G0 : BoxR Y (World.heap Xb).size 0 (.slice none 0 0) := by rw [← hY]; exact BoxR.new _ _ _
        have glo : W.heap.size ≤ (World.heap Xb).size := (bXb).size
        go_simp
        try rw [hY]
        refine hK.out _ _ (HKS.out _ bY) (fun hHeld => ?_)
        clear hK K
        clear hY
        (try simp only [Act.put, List.setIfInBounds_toArray, List.set_cons_zero, List.set_cons_succ])
        have GL := G0
        have hO := (OwnP.below hown sY)
        refine wpAnyH_ready (rs := [8]) (by kernel_rfl) (by simp) ?_
        refine AllReadyH.cons (o := ⟨none, _, _, _, _, _⟩) rfl (fun K hK => ?_) (AllReadyH.nil)
        · obtain ⟨x1, x2, z1, z2⟩ := GL.facts
          go_simp
          refine hK.out _ _ (HKS.out _ ((bY.setCell glo _).setCell glo _)) (fun hHeld => ?_)
          clear hK K
          (try simp only [Act.put, List.setIfInBounds_toArray, List.set_cons_zero, List.set_cons_succ])
          refine wpAnyH_done (by kernel_rfl) ?_ _
          exact ⟨_, A', c', _, rfl, rfl, glo, (bY.setCell glo _).setCell glo _, GL.stored _ _, hO.boxed GL⟩
    · obtain ⟨Y, hY⟩ : ∃ Y, World.alloc Xa (.cells #[.int .i64 0, .slice none 0 0] 24) = Y := ⟨_, rfl⟩
      have sY : Below (World.heap Xa).size Xa Y := by rw [← hY]; exact belowAlloc _ _
      have bY := belowThen bXa sY
      have G0 : BoxR Y (World.heap Xa).size 0 (.slice none 0 0) := by rw [← hY]; exact BoxR.new _ _ _
      have glo : W.heap.size ≤ (World.heap Xa).size := (bXa).size
      go_simp
      try rw [hY]
      refine hK.out _ _ (HKS.out _ bY) (fun hHeld => ?_)
      clear hK K
      clear hY
      (try simp only [Act.put, List.setIfInBounds_toArray, List.set_cons_zero, List.set_cons_succ])
      refine wpAnyH_ready (rs := [5]) (by kernel_rfl) (by simp) ?_
      refine AllReadyH.cons (o := ⟨some 21, _, _, _, _, _⟩) rfl (fun K hK => ?_) (AllReadyH.nil)
      · obtain ⟨vb, Xb, hrun, hown, hgr2⟩ := HAP.out Y bY _ _ (OwnP.below oXa sY)
        obtain ⟨A', c', rfl, hrp, _⟩ := hown.rd
        have bXb : Below W.heap.size W Xb := (bY).grown hgr2 (bY).size fun q hq => (OwnP.lt (OwnP.below oXa sY) hq).1
        refine Lib.wp_append_run _ (.tmp 18) (.tmp 20) 22 22 rfl _ _ rfl rfl _ _ hrun ?_
        have G1 := BoxR.grown G0 (OwnP.below oXa sY) hgr2
        refine hK.out _ _ (HKS.out _ bXb) (fun hHeld => ?_)
        clear hK K
        (try simp only [Act.put, List.setIfInBounds_toArray, List.set_cons_zero, List.set_cons_succ])
        simp only [List.nil_append] at hown hrp
        rw [hn] at hown
        simp only [List.nil_append, hn]
        refine wpAnyH_take (i := 6) (oi := ⟨some 22, _, _, _, _, _⟩) (v := ?v6_6) rfl (by kernel_rfl) (by kernel_rfl) (by kernel_rfl) (fun _ _ _ h => by obtain ⟨_, _, _, _, h, _⟩ := h; cases h) (Or.inl ⟨by rfl, ?h6_6⟩) (by assumption) ?r6_6
        case h6_6 => (intro w hSw; (try dsimp only at hSw); go_simp; try with_reducible rfl)
        (try simp only [Act.put, List.setIfInBounds_toArray, List.set_cons_zero, List.set_cons_succ])
        have GL := G1
        have hO := hown
        refine wpAnyH_ready (rs := [8]) (by kernel_rfl) (by simp) ?_
        refine AllReadyH.cons (o := ⟨none, _, _, _, _, _⟩) rfl (fun K hK => ?_) (AllReadyH.nil)
        · obtain ⟨x1, x2, z1, z2⟩ := GL.facts
          go_simp
          refine hK.out _ _ (HKS.out _ ((bXb.setCell glo _).setCell glo _)) (fun hHeld => ?_)
          clear hK K
          (try simp only [Act.put, List.setIfInBounds_toArray, List.set_cons_zero, List.set_cons_succ])
          refine wpAnyH_done (by kernel_rfl) ?_ _
          exact ⟨_, A', c', _, rfl, rfl, glo, (bXb.setCell glo _).setCell glo _, GL.stored _ _, hO.boxed GL⟩
  · obtain ⟨Y, hY⟩ : ∃ Y, World.alloc W.drew (.cells #[.int .i64 0, .slice none 0 0] 24) = Y := ⟨_, rfl⟩
    have sY : Below (World.heap W.drew).size W.drew Y := by rw [← hY]; exact belowAlloc _ _
    have bY := belowThen hS sY
    have G0 : BoxR Y (World.heap W).size 0 (.slice none 0 0) := by rw [← hY]; exact BoxR.new _ _ _
    have glo : W.heap.size ≤ (World.heap W).size := (hS).size
    go_simp
    try rw [hY]
    refine hK.out _ _ (HKS.out _ bY) (fun hHeld => ?_)
    clear hK K
    clear hY
    (try simp only [Act.put, List.setIfInBounds_toArray, List.set_cons_zero, List.set_cons_succ])
    refine wpAnyH_ready (rs := [2]) (by kernel_rfl) (by simp) ?_
    refine AllReadyH.cons (o := ⟨some 18, _, _, _, _, _⟩) rfl (fun K hK => ?_) (AllReadyH.nil)
    · obtain ⟨Xa, hXa⟩ : ∃ Xa, World.alloc Y (.cells #[] 43) = Xa := ⟨_, rfl⟩
      have sXa : Below (World.heap Y).size Y Xa := by rw [← hXa]; exact belowAlloc _ _
      have bXa := belowThen bY sXa
      have oXa : OwnP Xa W.heap.size (.slice (some ⟨(World.heap Y).size, 0, none⟩) 0 0) [] := by rw [← hXa]; exact ownPNew _ _ (bY).size
      go_simp
      try rw [hXa]
      refine hK.out _ _ (HKS.out _ bXa) (fun hHeld => ?_)
      clear hK K
      clear hXa
      (try simp only [Act.put, List.setIfInBounds_toArray, List.set_cons_zero, List.set_cons_succ])
      refine wpAnyH_ready (rs := [5]) (by kernel_rfl) (by simp) ?_
      refine AllReadyH.cons (o := ⟨some 21, _, _, _, _, _⟩) rfl (fun K hK => ?_) (AllReadyH.nil)
      · obtain ⟨vb, Xb, hrun, hown, hgr2⟩ := HAP.out Xa bXa _ _ oXa
        obtain ⟨A', c', rfl, hrp, _⟩ := hown.rd
        have bXb : Below W.heap.size W Xb := (bXa).grown hgr2 (bXa).size fun q hq => (OwnP.lt oXa hq).1
        refine Lib.wp_append_run _ (.tmp 18) (.tmp 20) 22 22 rfl _ _ rfl rfl _ _ hrun ?_
        have G1 := BoxR.grown (BoxR.below G0 sXa) oXa hgr2
        refine hK.out _ _ (HKS.out _ bXb) (fun hHeld => ?_)
        clear hK K
        (try simp only [Act.put, List.setIfInBounds_toArray, List.set_cons_zero, List.set_cons_succ])
        simp only [List.nil_append] at hown hrp
        rw [hn] at hown
        simp only [List.nil_append, hn]
        refine wpAnyH_take (i := 6) (oi := ⟨some 22, _, _, _, _, _⟩) (v := ?v6_7) rfl (by kernel_rfl) (by kernel_rfl) (by kernel_rfl) (fun _ _ _ h => by obtain ⟨_, _, _, _, h, _⟩ := h; cases h) (Or.inl ⟨by rfl, ?h6_7⟩) (by assumption) ?r6_7
        case h6_7 => (intro w hSw; (try dsimp only at hSw); go_simp; try with_reducible rfl)
        (try simp only [Act.put, List.setIfInBounds_toArray, List.set_cons_zero, List.set_cons_succ])
        have GL := G1
        have hO := hown
        refine wpAnyH_ready (rs := [8]) (by kernel_rfl) (by simp) ?_
        refine AllReadyH.cons (o := ⟨none, _, _, _, _, _⟩) rfl (fun K hK => ?_) (AllReadyH.nil)
        · obtain ⟨x1, x2, z1, z2⟩ := GL.facts
          go_simp
          refine hK.out _ _ (HKS.out _ ((bXb.setCell glo _).setCell glo _)) (fun hHeld => ?_)
          clear hK K
          (try simp only [Act.put, List.setIfInBounds_toArray, List.set_cons_zero, List.set_cons_succ])
          refine wpAnyH_done (by kernel_rfl) ?_ _
          exact ⟨_, A', c', _, rfl, rfl, glo, (bXb.setCell glo _).setCell glo _, GL.stored _ _, hO.boxed GL⟩
end Go.Proofs.YthigdniepifohaaDoor
