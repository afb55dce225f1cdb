/-
  The contract of next: the numbers that can follow a set.
-/
import Derived.Test.YtjioiaeiggjneaaDoorKLinN
import Derived.Test.YtjioiaeiggjneaaDoorKRowU
import Derived.Deep.RegionHeld3
namespace Go.Proofs.YtjioiaeiggjneaaDoor
open Go.RowKit Go.Shelf
attribute [local go_sem] Oper.semAt_some
theorem Tbl.set {W : World} {p : Addr} {v : Value} (h : Tbl W) (hp : 0 ≠ p.block) : Tbl (W.setCell p v) := fun j hj => (World.cell?_of_block (heap_setCell_other _ _ _ _ hp)).trans (h j hj)
theorem Tbl.block {w : World} (h : Tbl w) : 0 < w.heap.size := World.block_lt_of_cell? w _ (h 0 (by decide))
theorem belowSetT {B : Nat} {a b : World} (h : Below B a b) (p : Addr) (v : Value) (hp : B ≤ p.block) : Below B a (b.setCell p v) :=
  ⟨h.os, h.tape, h.output, by simpa using h.size, fun k hk => (heap_setCell_other _ _ _ _ (by omega)).trans (h.block k hk)⟩
set_option maxRecDepth 100000 in
set_option maxHeartbeats 2000000 in
theorem iNext (N : Nat) (hN : N ≤ 64) (f : Nat → Nat → Bool) (A : Option Addr) (c s : Nat) (w : World) (hb : Bef w A c N f) (hT : Tbl w) : Calls Tryd.prog 18 #[.slice A N c, .int .u64 s] w fun e w' => e = .returned (.int .u64 (nxtS N f s)) ∧ Below w.heap.size w w' := by
  refine (callsIn_wide (n := 8)).1 ?_
  refine callsIn_of_wp_marks Tryd.func18 rfl trivial ?_ rfl
  simp only [Tryd.ntmps18, List.size_toArray, List.length_cons, List.length_nil, Nat.reduceAdd, Nat.reduceSub, Array.replicate_succ, Array.replicate_zero, List.push_toArray, List.append_toArray, List.nil_append, List.cons_append]
  have HF := Lib.hid (fun w' => iFull N hN A c w')
  have HS := Lib.hid (bitsAndNot (a := fullS N) (b := s))
  have hgb := hT.block
  gi_wp2
  rename_i Q0 K1 hK1 K0 hK0
  obtain ⟨V, hV⟩ : ∃ V, (((w.alloc (.cells #[.slice A N c] 43)).alloc (.cells #[.int .u64 s] 51)).alloc (.cells #[.int .u64 0] 51)) = V := ⟨_, rfl⟩
  have hbV : Below w.heap.size w V := by rw [← hV]; exact ((((belowAlloc w _).alloc (by simp) _).alloc (by simp; omega) _))
  have hzV : V.heap.size = w.heap.size + 3 := by rw [← hV]; simp
  have b0 : Boxed V w.heap.size 43 (.slice A N c) := by rw [← hV]; exact ((Boxed.new w _ _).alloc _).alloc _
  have b1 : Boxed V (w.heap.size + 1) 51 (.int .u64 s) := by rw [← hV]; have h := (Boxed.new (w.alloc (.cells #[.slice A N c] 43)) 51 (.int .u64 s)).alloc (.cells #[.int .u64 0] 51); rw [World.size_alloc] at h; exact h
  have b2 : Boxed V (w.heap.size + 1 + 1) 51 (.int .u64 (maskL [])) := by rw [← hV]; have h := Boxed.new ((w.alloc (.cells #[.slice A N c] 43)).alloc (.cells #[.int .u64 s] 51)) 51 (.int .u64 0); rw [World.size_alloc, World.size_alloc] at h; exact h
  rw [hV]
  have hdV : Below w.heap.size w V.drew := hbV.drew
  have hk : K0 { tmps := #[.slice A N c, .int .u64 s, .pointer (some ⟨w.heap.size, 0, none⟩), .pointer (some ⟨w.heap.size + 1, 0, none⟩), .int .u64 0, .pointer (some ⟨w.heap.size + 1 + 1, 0, none⟩), undef, .slice A N c, .int .u64 (fullS N), .int .u64 s, .int .u64 (subS (fullS N) s), .func (.func 19) #[.int .u64 (subS (fullS N) s)] #[], undef, undef, undef, undef, undef, undef, undef, undef, undef, undef, undef, undef], defers := [] } V.drew := by
    refine hK0 _ _ ?_
    gi_wp2
    refine rangeBound (F := Fence.wide) (n := 8) rfl (by omega) (gf := 19) (bd := #[.int .u64 (subS (fullS N) s)]) rfl trivial enters47 (numsB 7 (by omega) (subS (fullS N) s) (subLt _ _) V.drew (hT.below hdV)) (fun h k hT => k (h hT)) keepT_b (Below.refl _ _) (fun _ => rfl)
      (fun pre W => (Boxed W w.heap.size 43 (.slice A N c) ∧ Boxed W (w.heap.size + 1) 51 (.int .u64 s) ∧ Boxed W (w.heap.size + 1 + 1) 51 (.int .u64 (maskL (pre.filter fun a => decide (subS (prdS N f a) s = 0))))) ∧ Below w.heap.size w W)
      (fun _ _ _ => False) ?hI (fun _ _ _ _ _ hs _ _ => hs) ⟨⟨b0, b1, b2⟩, hdV⟩
      (fun x => { tmps := #[.slice A N c, .int .u64 s, .pointer (some ⟨w.heap.size, 0, none⟩), .pointer (some ⟨w.heap.size + 1, 0, none⟩), .int .u64 0, .pointer (some ⟨w.heap.size + 1 + 1, 0, none⟩), .int .i64 x, .slice A N c, .int .u64 (fullS N), .int .u64 s, .int .u64 (subS (fullS N) s), .func (.func 19) #[.int .u64 (subS (fullS N) s)] #[], .int .i64 x, undef, undef, undef, undef, undef, undef, undef, undef, undef, undef, undef], defers := [] }) ?assign ?body ?done ?stop
    case hI => exact OwnFrom.and (Own.from (fun st X Y row hs hg hr => ⟨boxed_own (β := Unit) _ _ (fun _ => _) () X Y row hs.1 hg hr, boxed_own (β := Unit) _ _ (fun _ => _) () X Y row hs.2.1 hg hr, boxed_own (β := Unit) _ _ (fun _ => _) () X Y row hs.2.2 hg hr⟩) _) (ownFrom_below (Nat.le_refl _) (by show w.heap.size ≤ V.heap.size; omega))
    case assign =>
      intro l x W K hK
      gi_wp2
      exact hK
    case body =>
      rintro l pre x post W hL ⟨⟨c0, c1, c2⟩, hB⟩
      have hxm : (subS (fullS N) s).testBit x = true := (bitsMem (subLt _ _)).1 (by rw [hL]; simp)
      rw [subBit (fullLt hN), fullBit, Bool.and_eq_true, decide_eq_true_iff] at hxm
      have hxN := hxm.1
      have hx1 : (0 : Int) ≤ (x : Int) := by omega
      have hx2 : (x : Int) < (N : Int) := by omega
      have HBW := Rds.below hb hB
      have hle := HBW.le
      have hmx := HBW.max
      unfold maxLen at hmx
      rw [List.length_map, List.length_range] at hle
      obtain ⟨ad, e, _, hcx⟩ := HBW.one (k := x) (by simpa using hxN)
      simp only [List.getElem_map, List.getElem_range] at hcx
      subst e
      have k0 := c0.cell
      have k1 := c1.cell
      have k2 := c2.cell
      have f2 := c2.frozen
      have hAN := bitsAndNot (a := prdS N f x) (b := s)
      have hfil : (pre ++ [x]).filter (fun a => decide (subS (prdS N f a) s = 0)) = pre.filter (fun a => decide (subS (prdS N f a) s = 0)) ++ if subS (prdS N f x) s = 0 then [x] else [] := by
        rw [List.filter_append]
        congr 1
        by_cases h : subS (prdS N f x) s = 0 <;> simp [h]
      obtain ⟨m, hm⟩ : ∃ m, maskL (pre.filter fun a => decide (subS (prdS N f a) s = 0)) = m := ⟨_, rfl⟩
      obtain ⟨q, hq⟩ : ∃ q, subS (prdS N f x) s = q := ⟨_, rfl⟩
      obtain ⟨pd, hpd⟩ : ∃ pd, prdS N f x = pd := ⟨_, rfl⟩
      rw [hm] at k2 c2
      rw [hpd] at hq hAN hcx
      rw [hq] at hAN
      have hmlt : m < B64 := by
        rw [← hm]
        refine maskLt fun y hy => ?_
        have := (List.mem_filter.1 hy).1
        have h2 := (bitsMem (subLt _ _)).1 (show y ∈ bitsOf (subS (fullS N) s) by rw [hL]; simp [this])
        exact bitLt (subLt _ _) h2
      have HW := Lib.hid (fun w' => iWith m x hmlt (by omega) w')
      by_cases hz : q = 0
      · have HM := Lib.hid (show maskL ((pre ++ [x]).filter fun a => decide (subS (prdS N f a) s = 0)) = addS m x by rw [hfil, if_pos (by rw [hpd, hq]; exact hz), maskApp, hm])
        clear hfil hm hpd hq hxm
        subst hz
        have hAN : bits .andNot .u64 (pd : Int) (s : Int) = 0 := hAN
        gi_wp2
        rename_i Q2 K2 hK2
        have hk2 : K2 { tmps := #[.slice (some ad) N c, .int .u64 s, .pointer (some ⟨w.heap.size, 0, none⟩), .pointer (some ⟨w.heap.size + 1, 0, none⟩), .int .u64 0, .pointer (some ⟨w.heap.size + 1 + 1, 0, none⟩), .int .i64 x, .slice (some ad) N c, .int .u64 (fullS N), .int .u64 s, .int .u64 (subS (fullS N) s), .func (.func 19) #[.int .u64 (subS (fullS N) s)] #[], .int .i64 x, .slice (some ad) N c, .int .i64 x, .pointer (some (ad.add x)), .int .u64 pd, .int .u64 s, .int .u64 0, .bool true, undef, undef, undef, undef], defers := [] } W.drew := by
          refine hK2 _ _ ?_
          gi_wp2_with fail
          refine ⟨trivial, (CallsIn.inRound l (callsIn_wide.2 (HW.out _))).mono ?_⟩
          rintro e w' ⟨rfl, rfl⟩
          gi_wp2_with fail
          refine ⟨(((KeepsOthers.drew W).trans (KeepsOthers.setCell _ _ _)).from _), fun hT => hT.set (by show _ ≠ w.heap.size + 1 + 1; omega), ⟨c0.other (by omega) _, c1.other (by omega) _, by rw [HM.out]; exact c2.set _⟩, belowSetT hB.drew _ _ (by show w.heap.size ≤ w.heap.size + 1 + 1; omega)⟩
        gi_region
        all_goals exact hk2
      · have hz1 : ((q : Int) == 0) = false := by simp; omega
        have HM := Lib.hid (show maskL ((pre ++ [x]).filter fun a => decide (subS (prdS N f a) s = 0)) = m by rw [hfil, if_neg (by rw [hpd, hq]; exact hz), List.append_nil, hm])
        clear hfil hm hpd hq hxm
        gi_wp2
        gi_region
        all_goals gi_wp2
        all_goals exact ⟨(KeepsOthers.drew _).from _, fun hT => hT, ⟨c0, c1, by rw [HM.out]; exact c2⟩, hB.drew⟩
    case done =>
      rintro D W hD ⟨⟨c0, c1, c2⟩, hB⟩ hK
      rw [nxtFilter hN] at c2
      have k2 := c2.cell
      have hD' : w.heap.size ≤ D := Nat.le_trans (by show w.heap.size ≤ V.heap.size; omega) hD
      gi_wp2
      refine ⟨by simp, .inl ⟨_, _, rfl, run_takeDeferred hK, ?_⟩⟩
      exact ⟨_, results_tmp rfl _ _ _, rfl, hB.trans (belowK_b (w := w) (Nat.le_refl _) W D _ _ hD' hK rfl rfl)⟩
    case stop =>
      rintro D c pre W _ h _
      exact h.elim
  have v0 := b0.cell
  have v1 := b1.cell
  refine wpIn_mono (Q := NoPanic _) ?_ NoPanic.imp
  gi_region_with (refine ⟨trivial, (callsIn_wide.2 (HF.out _)).mono ?_⟩; rintro e w' ⟨rfl, rfl⟩)
  all_goals refine NoPanic.normal ?_
  all_goals rw [HS.out]
  all_goals exact hk
end Go.Proofs.YtjioiaeiggjneaaDoor
