/-
  The contract of Nth.
-/
import Derived.Test.YtjioiaeiggjneaaDoorKNtS
namespace Go.Proofs.YtjioiaeiggjneaaDoor
open Go Go.RowKit Go.Shelf
attribute [local go_sem] Oper.semAt_some

set_option maxRecDepth 100000 in
theorem iNthNo (N : Int) (l : Prs) (n : Nat) (hn : l.length = n) (hs : n ≤ 65536) (hc : acyR N l = false) (A : Option Addr) (c : Nat) (i : Int) (w : World) (ha : Rp w A c l) :
    Calls Tryd.prog 8 #[relV N A n c, .int .i64 i] w fun e w' => e = .returned (.tuple #[.slice none 0 0, .int .i64 (errA N l)]) ∧ Below w.heap.size w w' := by
  obtain ⟨W, hW⟩ : ∃ W, (w.alloc (.cells #[.int .i64 N, .slice A n c] 24)).alloc (.cells #[.int .i64 i] 3) = W := ⟨_, rfl⟩
  have hbW : Below w.heap.size w W := by rw [← hW]; exact belowThen (belowAlloc w _) (belowAlloc _ _)
  have HB0 : Hid (BoxR W w.heap.size N (.slice A n c)) := by rw [← hW]; exact Lib.hid ((BoxR.new w N _).alloc _)
  have HI0 : Hid (Boxed W (w.heap.size + 1) 3 (.int .i64 i)) := by
    rw [← hW]
    have h := Boxed.new (w.alloc (.cells #[.int .i64 N, .slice A n c] 24)) 3 (.int .i64 i)
    rw [World.size_alloc] at h
    exact Lib.hid h
  obtain ⟨z0, z1, _, _⟩ := HB0.out.facts
  have z2 := HI0.out.cell
  have HC := Lib.hid (iAcyc N l n hn hs A c W (ha.below hbW))
  obtain ⟨k, hk⟩ : ∃ k, errA N l = k := ⟨_, rfl⟩
  obtain ⟨hk0, hk1⟩ := errNz hc
  rw [hk] at hk0 hk1 ⊢
  have HK := Lib.hid hk
  have HN := Lib.hid hc
  clear ha hn hs hc hk
  refine (callsIn_wide (n := 8)).1 ?_
  refine callsIn_of_wp_marks Tryd.func8 rfl trivial ?_ rfl
  simp only [Tryd.ntmps8, List.size_toArray, List.length_cons, List.length_nil, Nat.reduceAdd, Nat.reduceSub, Array.replicate_succ, Array.replicate_zero, List.push_toArray, List.append_toArray, List.nil_append, List.cons_append]
  gi_wp2_with fail
  refine ⟨trivial, (callsIn_wide.2 HC.out).mono ?_⟩
  rintro e w1 ⟨⟨_, h2⟩, hb1⟩
  obtain rfl := h2 HN.out
  rw [HK.out]
  gi_wp2
  exact ⟨_, results_tmp2 rfl _ _ _, rfl, belowThen hbW hb1⟩
set_option maxRecDepth 100000 in
set_option maxHeartbeats 1000000 in
theorem iNthOut (N : Nat) (hN : N ≤ 64) (l : Prs) (n : Nat) (hn : l.length = n) (hs : n ≤ 65536) (hc : acyR N l = true) (hK : ∀ D, VisT N (hasP l) D → D.length ≤ 65536) (hw : ways N (hasP l) N 0 ≤ 9223372036854775807)
    (A : Option Addr) (c : Nat) (i : Int) (hi : i < 0 ∨ (ways N (hasP l) N 0 : Int) ≤ i) (w : World) (ha : Rp w A c l) (hT : Tbl w) :
    Calls Tryd.prog 8 #[relV N A n c, .int .i64 i] w fun e w' => e = .returned (.tuple #[.slice none 0 0, .int .i64 2]) ∧ Below w.heap.size w w' := by
  obtain ⟨W, hW⟩ : ∃ W, (w.alloc (.cells #[.int .i64 N, .slice A n c] 24)).alloc (.cells #[.int .i64 i] 3) = W := ⟨_, rfl⟩
  have hbW : Below w.heap.size w W := by rw [← hW]; exact belowThen (belowAlloc w _) (belowAlloc _ _)
  have HB0 : Hid (BoxR W w.heap.size N (.slice A n c)) := by rw [← hW]; exact Lib.hid ((BoxR.new w N _).alloc _)
  have HI0 : Hid (Boxed W (w.heap.size + 1) 3 (.int .i64 i)) := by
    rw [← hW]
    have h := Boxed.new (w.alloc (.cells #[.int .i64 N, .slice A n c] 24)) 3 (.int .i64 i)
    rw [World.size_alloc] at h
    exact Lib.hid h
  obtain ⟨z0, z1, _, _⟩ := HB0.out.facts
  have z2 := HI0.out.cell
  have HC := Lib.hid (iAcyc N l n hn hs A c W (ha.below hbW))
  have HM := Lib.hid (fun (g : Nat) X (hX : FixG N (hasP l) (some ⟨g, 0, none⟩) N X) => iCountM N hN (hasP l) (acyQ hc) hK hw (some ⟨g, 0, none⟩) N X hX)
  have hv := valZero hw
  obtain ⟨tt, htt⟩ : ∃ t, ways N (hasP l) N 0 = t := ⟨_, rfl⟩
  rw [htt] at hv hi
  have HV := Lib.hid hv
  have HTW := Lib.hid (hT.below hbW)
  have HN := Lib.hid hc
  clear ha hn hs hc hT hK hw hv htt
  refine (callsIn_wide (n := 8)).1 ?_
  refine callsIn_of_wp_marks Tryd.func8 rfl trivial ?_ rfl
  simp only [Tryd.ntmps8, List.size_toArray, List.length_cons, List.length_nil, Nat.reduceAdd, Nat.reduceSub, Array.replicate_succ, Array.replicate_zero, List.push_toArray, List.append_toArray, List.nil_append, List.cons_append]
  gi_wp2_with fail
  refine ⟨trivial, (callsIn_wide.2 HC.out).mono ?_⟩
  rintro e w1 ⟨⟨h1, _⟩, hb1⟩
  obtain ⟨g, rfl, hB⟩ := h1 HN.out
  have HM1 := Lib.hid (HM.out g w1 ⟨HTW.out.below hb1, hB⟩)
  have HB1 := Lib.hid (belowThen hbW hb1)
  have HI1 : Hid (Boxed w1 (w.heap.size + 1) 3 (.int .i64 i)) := Lib.hid ((hb1.block _ HI0.out.lt).trans HI0.out)
  clear h1 hB hb1 z0 z1 z2
  gi_wp2_with fail
  refine ⟨trivial, (callsIn_wide.2 HM1.out).mono ?_⟩
  rintro e w3 ⟨q, D, rfl, hM, hV, h0, hb3⟩
  have HI3 : Hid (Boxed w3 (w.heap.size + 1) 3 (.int .i64 i)) := Lib.hid ((hb3.block _ HI1.out.lt).trans HI1.out)
  have hwb : Below w3.heap.size w3 (w3.alloc (.cells #[.map (some q)] 47)) := belowAlloc _ _
  have hlk := lookB hM hwb (x := 0) (by decide) h0 HV.out
  have hlk : (Instr.lookup 47 (.map (some q)) (.int .u64 0) false).run Tryd.prog (w3.alloc (.cells #[.map (some q)] 47)) = .ok (.int .i64 (tt : Int)) (w3.alloc (.cells #[.map (some q)] 47)) := hlk
  have ki : (w3.alloc (.cells #[.map (some q)] 47)).cell? ⟨w.heap.size + 1, 0, none⟩ = some (.int .i64 i) := (HI3.out.alloc _).cell
  have HB3 := Lib.hid (belowThen HB1.out (belowThen hb3 hwb))
  clear hM hV h0 hb3 hwb
  by_cases hneg : i < 0
  · have e1 : decide (i < 0) = true := decide_eq_true hneg
    gi_wp2
    exact ⟨_, results_tmp2 rfl _ _ _, rfl, HB3.out⟩
  · have e1 : decide (i < 0) = false := decide_eq_false hneg
    have e2 : decide (i ≥ (tt : Int)) = true := decide_eq_true (by omega)
    have e3 : decide ((tt : Int) ≤ i) = true := decide_eq_true (by omega)
    gi_wp2
    exact ⟨_, results_tmp2 rfl _ _ _, rfl, HB3.out⟩
theorem ownPut {W : World} {base D : Nat} {v : Value} {l : List Int} {o : Obj} (h : OwnI W base v l) (hd : W.heap[D]? = some (.deferred (some []))) : OwnI (W.putObj D o) base v l :=
  ownChg h (Chg.ofGrown (grownBy_putObj' W D o) (F := fun b => b ≠ D) fun b hb e => hb (by injection e with e; exact e.symm)) fun g hg e => by
    subst e
    rcases h.2 with ⟨rfl, _⟩ | ⟨k, cap, cur, rfl, _, hk, _⟩
    · simp [Value.ownBlock] at hg
    · have e' : k = g := by simpa [Value.ownBlock] using hg
      subst e'
      rw [hd] at hk
      cases hk
set_option maxRecDepth 100000 in
set_option maxHeartbeats 2000000 in
theorem iNthOk (N : Nat) (hN : N ≤ 64) (l : Prs) (n : Nat) (hn : l.length = n) (hs : n ≤ 65536) (hc : acyR N l = true) (hK : ∀ D, VisT N (hasP l) D → D.length ≤ 65536) (hw : ways N (hasP l) N 0 ≤ 9223372036854775807)
    (A : Option Addr) (c : Nat) (j0 : Nat) (hj : j0 < ways N (hasP l) N 0) (w : World) (ha : Rp w A c l) (hT : Tbl w) :
    Calls Tryd.prog 8 #[relV N A n c, .int .i64 (j0 : Int)] w fun e w' => ∃ v, e = .returned (.tuple #[v, .int .i64 0]) ∧ OwnI w' w.heap.size v ((nthL N (hasP l) N 0 j0).map Int.ofNat) ∧ Below w.heap.size w w' := by
  obtain ⟨W, hW⟩ : ∃ W, (w.alloc (.cells #[.int .i64 N, .slice A n c] 24)).alloc (.cells #[.int .i64 (j0 : Int)] 3) = W := ⟨_, rfl⟩
  have hbW : Below w.heap.size w W := by rw [← hW]; exact belowThen (belowAlloc w _) (belowAlloc _ _)
  have HB0 : Hid (BoxR W w.heap.size N (.slice A n c)) := by rw [← hW]; exact Lib.hid ((BoxR.new w N _).alloc _)
  have HI0 : Hid (Boxed W (w.heap.size + 1) 3 (.int .i64 (j0 : Int))) := by
    rw [← hW]
    have h := Boxed.new (w.alloc (.cells #[.int .i64 N, .slice A n c] 24)) 3 (.int .i64 (j0 : Int))
    rw [World.size_alloc] at h
    exact Lib.hid h
  obtain ⟨z0, z1, _, _⟩ := HB0.out.facts
  have z2 := HI0.out.cell
  have HC := Lib.hid (iAcyc N l n hn hs A c W (ha.below hbW))
  have HM := Lib.hid (fun (g : Nat) X (hX : FixG N (hasP l) (some ⟨g, 0, none⟩) N X) => iCountM N hN (hasP l) (acyQ hc) hK hw (some ⟨g, 0, none⟩) N X hX)
  have hv := valZero hw
  have HWY := Lib.hid hw
  have HJ := Lib.hid hj
  obtain ⟨tt, htt⟩ : ∃ t, ways N (hasP l) N 0 = t := ⟨_, rfl⟩
  rw [htt] at hv hj hw
  have HV := Lib.hid hv
  have HTW := Lib.hid (hT.below hbW)
  have HN := Lib.hid hc
  clear ha hn hs hc hT hK hv htt
  refine (callsIn_wide (n := 8)).1 ?_
  refine callsIn_of_wp_marks Tryd.func8 rfl trivial ?_ rfl
  simp only [Tryd.ntmps8, List.size_toArray, List.length_cons, List.length_nil, Nat.reduceAdd, Nat.reduceSub, Array.replicate_succ, Array.replicate_zero, List.push_toArray, List.append_toArray, List.nil_append, List.cons_append]
  gi_wp2_with fail
  refine ⟨trivial, (callsIn_wide.2 HC.out).mono ?_⟩
  rintro e w1 ⟨⟨h1, _⟩, hb1⟩
  obtain ⟨g, rfl, hB⟩ := h1 HN.out
  have HF1 := Lib.hid (show FixG N (hasP l) (some ⟨g, 0, none⟩) N w1 from ⟨HTW.out.below hb1, hB⟩)
  have HM1 := Lib.hid (HM.out g w1 HF1.out)
  have HB1 := Lib.hid (belowThen hbW hb1)
  have HR1 : Hid (BoxR w1 w.heap.size N (.slice A n c)) := Lib.hid (HB0.out.below hb1)
  have HI1 : Hid (Boxed w1 (w.heap.size + 1) 3 (.int .i64 (j0 : Int))) := Lib.hid ((hb1.block _ HI0.out.lt).trans HI0.out)
  clear h1 hB hb1 z0 z1 z2
  gi_wp2_with fail
  refine ⟨trivial, (callsIn_wide.2 HM1.out).mono ?_⟩
  rintro e w3 ⟨q, D, rfl, hM, hV, h0, hb3⟩
  have HF3 := Lib.hid (HF1.out.keep HF1.out (Chg.ofBelow hb3 _))
  have HI3 : Hid (Boxed w3 (w.heap.size + 1) 3 (.int .i64 (j0 : Int))) := Lib.hid ((hb3.block _ HI1.out.lt).trans HI1.out)
  have HR3 : Hid (BoxR w3 w.heap.size N (.slice A n c)) := Lib.hid (HR1.out.below hb3)
  have hwb : Below w3.heap.size w3 (w3.alloc (.cells #[.map (some q)] 47)) := belowAlloc _ _
  have hlk : (Instr.lookup 47 (.map (some q)) (.int .u64 0) false).run Tryd.prog (w3.alloc (.cells #[.map (some q)] 47)) = .ok (.int .i64 (tt : Int)) (w3.alloc (.cells #[.map (some q)] 47)) := lookB hM hwb (x := 0) (by decide) h0 HV.out
  have ki : (w3.alloc (.cells #[.map (some q)] 47)).cell? ⟨w.heap.size + 1, 0, none⟩ = some (.int .i64 (j0 : Int)) := (HI3.out.alloc _).cell
  have HB3 := Lib.hid (belowThen HB1.out hb3)
  have HMD := Lib.hid (And.intro hM (And.intro hV h0))
  have e1 : decide ((j0 : Int) < 0) = false := decide_eq_false (by omega)
  have e2 : decide ((j0 : Int) ≥ (tt : Int)) = false := decide_eq_false (by omega)
  have e3 : decide ((tt : Int) ≤ (j0 : Int)) = false := decide_eq_false (by omega)
  have e4 : decide (tt ≤ j0) = false := decide_eq_false (by omega)
  obtain ⟨Y, hY⟩ : ∃ Y, (w3.alloc (.cells #[.map (some q)] 47)).alloc (.cells #[.int .u64 0] 51) = Y := ⟨_, rfl⟩
  have hbY : Below w3.heap.size w3 Y := by rw [← hY]; exact belowThen (belowAlloc _ _) (belowAlloc _ _)
  obtain ⟨r0, r1, _, _⟩ := (HR3.out.below hbY).facts
  rw [← hY] at r0 r1
  have hmk := makeI N hN
  obtain ⟨V, hVV⟩ : ∃ V, ((((w3.alloc (.cells #[.map (some q)] 47)).alloc (.cells #[.int .u64 0] 51)).alloc (.cells (madeCells #[.int .i64 0] N) 3)).alloc (.cells #[.slice (some ⟨w3.heap.size + 1 + 1, 0, none⟩) 0 N] 25)) = V := ⟨_, rfl⟩
  have hbV : Below w3.heap.size w3 V := by rw [← hVV]; exact belowThen (belowThen (belowAlloc _ _) (belowAlloc _ _)) (belowThen (belowAlloc _ _) (belowAlloc _ _))
  obtain ⟨s0, s1, _, _⟩ := (HR3.out.below hbV).facts
  have HVB : Hid (NtB (w.heap.size + 1) w3 q 0 j0 [] V) := by
    have p3 : V.ownsRow (w3.heap.size + 1 + 1) 3 1 (.slice (some ⟨w3.heap.size + 1 + 1, 0, none⟩) 0 N) 0 [] := by
      rw [← hVV]
      have h := World.ownsRow_made (e := 3) ((w3.alloc (.cells #[.map (some q)] 47)).alloc (.cells #[.int .u64 0] 51)) (base := w3.heap.size + 1 + 1) (size := 1) (madeCells #[.int .i64 0] N) N (by simp) (by unfold maxLen; omega) (by rw [← Array.length_toList, toList_madeCells_one]; simp)
      simp only [World.size_alloc] at h
      exact World.ownsRow.alloc h _
    refine Lib.hid ⟨Chg.ofBelow hbV _, HI3.out.lt, (hbV.block _ HI3.out.lt).trans HI3.out, ?_, ?_, _, ?_, p3⟩
    · rw [← hVV]; exact (((Boxed.new w3 _ _).alloc _).alloc _).alloc _
    · rw [← hVV]
      have h := Boxed.new (w3.alloc (.cells #[.map (some q)] 47)) 51 (.int .u64 0)
      rw [World.size_alloc] at h
      exact (h.alloc _).alloc _
    · rw [← hVV]
      have h := Boxed.new (((w3.alloc (.cells #[.map (some q)] 47)).alloc (.cells #[.int .u64 0] 51)).alloc (.cells (madeCells #[.int .i64 0] N) 3)) 25 (.slice (some ⟨w3.heap.size + 1 + 1, 0, none⟩) 0 N)
      simp only [World.size_alloc] at h
      exact h
  have HVE := Lib.hid hVV
  rw [← hVV] at s0 s1
  clear hM hV h0 hb3 hwb hY hVV
  gi_wp2_with fail
  rw [HVE.out]
  obtain ⟨INV, hINV⟩ : ∃ INV : Act → World → Prop, INV = (fun a' w' => ∃ (u : Nat → Value) (Ds : List Nat) (k s i : Nat) (pre : List Nat), a' = { tmps := #[relV (N : Int) A n c, .int .i64 (j0 : Int), .pointer (some ⟨w.heap.size, 0, none⟩), .pointer (some ⟨w.heap.size + 1, 0, none⟩), .slice none 0 0, .int .i64 0, .slice (some ⟨g, 0, none⟩) N N, .int .i64 0, .pointer (some ⟨w3.heap.size, 0, none⟩), .pointer (some ⟨w3.heap.size + 1, 0, none⟩), .pointer (some ⟨w3.heap.size + 1 + 1 + 1, 0, none⟩), u 11, u 12, .tuple #[.slice (some ⟨g, 0, none⟩) N N, .int .i64 0], .agg #[.int .i64 (N : Int), .slice A n c], .tuple #[.slice (some ⟨g, 0, none⟩) N N, .int .i64 0], .slice (some ⟨g, 0, none⟩) N N, .int .i64 0, .int .i64 0, .bool false, undef, .tuple #[.map (some q), .int .i64 0], .slice (some ⟨g, 0, none⟩) N N, .tuple #[.map (some q), .int .i64 0], .map (some q), .int .i64 0, .int .i64 0, .bool false, undef, .int .i64 (j0 : Int), .bool false, .bool false, .int .i64 (j0 : Int), .map (some q), .int .i64 (tt : Int), .bool false, .bool false, .pointer (some ⟨w.heap.size, 0, none⟩), .int .i64 (N : Int), .slice (some ⟨w3.heap.size + 1 + 1, 0, none⟩) 0 N, .pointer (some ⟨w.heap.size, 0, none⟩), .int .i64 (N : Int), .int .i64 (k : Int), u 43, u 44, u 45, u 46, u 47, u 48, u 49, u 50, u 51, u 52, u 53, u 54, u 55, u 56, u 57, u 58, u 59, u 60, u 61, u 62, u 63, u 64, u 65, u 66, u 67, undef], defers := Ds.map markR } ∧ Hid (NtB (w.heap.size + 1) w3 q s i pre w') ∧ Hid (NtTo N (hasP l) j0 k s i pre) ∧ Hid (OpenR Ds w' ∧ Ds.Nodup ∧ ∀ D ∈ Ds, w3.heap.size + 1 + 1 + 1 + 1 ≤ D) ∧ k ≤ N) := ⟨_, rfl⟩
  obtain ⟨MU, hMU⟩ : ∃ MU : Act → World → Nat, MU = (fun a' _ => N - (intOf (a'.tmps.getD 42 undef)).toNat) := ⟨_, rfl⟩
  have HINV := Lib.hid hINV
  have HMU := Lib.hid hMU
  clear hINV hMU
  refine wpIn_loop INV MU ?_ ?_
  · rw [HINV.out]
    exact ⟨fun _ => undef, [], 0, 0, j0, [], rfl, HVB, Lib.hid (ntStart HJ.out), Lib.hid ⟨(fun _ h => by cases h), List.nodup_nil, (fun _ h => by cases h)⟩, Nat.zero_le _⟩
  intro a' wl hi
  rw [HINV.out] at hi
  obtain ⟨u, Ds, k, s, i, pre, rfl, HS, HR, HO, hk⟩ := hi
  dsimp only
  by_cases hlt : k < N
  · have hk0 : (0 : Int) ≤ k := by omega
    have hk1 : (k : Int) < N := by omega
    have hs64 := HR.out.toPlc.lt hN
    have HFX := Lib.hid (fixNe HF3.out (by omega) HI3.out HS.out.chg)
    have HNX := Lib.hid (iNext N hN (hasP l) (some ⟨g, 0, none⟩) N s wl HFX.out.bef HFX.out.tbl)
    have kd := HS.out.bd.cell
    have hzl := HS.out.lt
    gi_wp2_with fail
    refine ⟨trivial, (callsIn_wide.2 HNX.out).mono ?_⟩
    rintro e X2 ⟨rfl, hb2⟩
    have HS2 := Lib.hid (HS.out.below hb2)
    have HO2 := Lib.hid (HO.out.1.chg (Chg.ofBelow hb2 fun _ => True) fun _ _ => trivial)
    have HF2X := Lib.hid (fixNe HF3.out (by omega) HI3.out HS2.out.chg)
    have hz2 := HS2.out.lt
    have hseq := numsB 7 (by omega) (nxtS N (hasP l) s) (nxtSLt hN (hasP l) s) X2 HF2X.out.tbl
    rw [nxtSBits hN] at hseq
    have HSQ := Lib.hid hseq
    clear hseq kd hb2
    gi_wp2
    refine rangeBound (F := Fence.wide) (n := 8) rfl (by omega) (gf := 19) (bd := #[.int .u64 (nxtS N (hasP l) s)]) rfl trivial enters47 HSQ.out (fun h k hT => k (h hT)) keepT_b (Below.refl _ _) (fun _ => rfl)
      (fun ps W => ∃ rest i', nxtL N (hasP l) s = ps ++ rest ∧ NtIn N (hasP l) k s i rest i' ∧ NtB (w.heap.size + 1) w3 q s i' pre W ∧ OpenR Ds W)
      (fun c _ W => c = .exit 2 ∧ ∃ s' i' pre', NtTo N (hasP l) j0 (k + 1) s' i' pre' ∧ NtB (w.heap.size + 1) w3 q s' i' pre' W ∧ OpenR Ds W) ?hI ?hIx ⟨nxtL N (hasP l) s, i, rfl, ntIn0 HR.out hlt, HS2.out, HO2.out⟩
      (fun x => { tmps := #[relV (N : Int) A n c, .int .i64 (j0 : Int), .pointer (some ⟨w.heap.size, 0, none⟩), .pointer (some ⟨w.heap.size + 1, 0, none⟩), .slice none 0 0, .int .i64 0, .slice (some ⟨g, 0, none⟩) N N, .int .i64 0, .pointer (some ⟨w3.heap.size, 0, none⟩), .pointer (some ⟨w3.heap.size + 1, 0, none⟩), .pointer (some ⟨w3.heap.size + 1 + 1 + 1, 0, none⟩), .int .i64 (x : Int), u 12, .tuple #[.slice (some ⟨g, 0, none⟩) N N, .int .i64 0], .agg #[.int .i64 (N : Int), .slice A n c], .tuple #[.slice (some ⟨g, 0, none⟩) N N, .int .i64 0], .slice (some ⟨g, 0, none⟩) N N, .int .i64 0, .int .i64 0, .bool false, undef, .tuple #[.map (some q), .int .i64 0], .slice (some ⟨g, 0, none⟩) N N, .tuple #[.map (some q), .int .i64 0], .map (some q), .int .i64 0, .int .i64 0, .bool false, undef, .int .i64 (j0 : Int), .bool false, .bool false, .int .i64 (j0 : Int), .map (some q), .int .i64 (tt : Int), .bool false, .bool false, .pointer (some ⟨w.heap.size, 0, none⟩), .int .i64 (N : Int), .slice (some ⟨w3.heap.size + 1 + 1, 0, none⟩) 0 N, .pointer (some ⟨w.heap.size, 0, none⟩), .int .i64 (N : Int), .int .i64 (k : Int), .bool true, .slice (some ⟨g, 0, none⟩) N N, .int .u64 (s : Int), .int .u64 (nxtS N (hasP l) s : Int), .func (.func 19) #[.int .u64 (nxtS N (hasP l) s : Int)] #[], .int .i64 (x : Int), u 49, u 50, u 51, u 52, u 53, u 54, u 55, u 56, u 57, u 58, u 59, u 60, u 61, u 62, u 63, u 64, u 65, u 66, u 67, undef], defers := [] }) ?assign ?body ?done ?stop
    case assign =>
      intro lr x Y K hK
      gi_wp2
      exact hK
    case body =>
      rintro lr ps x post Y hLL ⟨rest, i', hL2, hin, hsY, hoY⟩
      have hrest : rest = x :: post := by
        rw [hL2] at hLL
        exact List.append_cancel_left hLL
      subst hrest
      have hxm : x ∈ nxtL N (hasP l) s := by rw [hLL]; simp
      have hx64 : x < 64 := by have := (nxtMem.1 hxm).1; omega
      obtain ⟨v, hv⟩ : ∃ v, ways N (hasP l) (N - (k + 1)) (addS s x) = v := ⟨_, rfl⟩
      have hval := HR.out.toPlc.val hlt hxm HWY.out
      rw [hv] at hval
      have hxD : addS s x ∈ D := (HMD.out.2.1.mem HMD.out.2.2).2 (rchNext HR.out.rch hxm)
      have hlt2 := hin.lt
      have hile : i' ≤ 9223372036854775807 := by
        have h1 := HR.out.lt
        have h2 := HR.out.wl
        have h3 := HWY.out
        have h4 : ((x :: post).map fun a => ways N (hasP l) (N - (k + 1)) (addS s a)).sum ≤ ways N (hasP l) (N - k) s := by
          rw [show N - k = N - (k + 1) + 1 by omega, waysSucc, hLL, List.map_append, List.sum_append]
          omega
        omega
      have hmap := HMD.out.1.chg hsY.chg (HMD.out.1.notBox HI3.out)
      have hlk : (Instr.lookup 47 (.map (some q)) (.int .u64 (addS s x : Int)) false).run Tryd.prog Y = .ok (.int .i64 (v : Int)) Y := by
        have h := hmap.look1 (addLt hs64 hx64)
        rw [if_pos hxD, hval] at h
        exact h
      have HWI := Lib.hid (fun Z => iWith s x hs64 hx64 Z)
      have kd := hsY.bd.cell
      have ki := hsY.rk.cell
      have km := hsY.bm.cell
      by_cases hiv : i' < v
      · have HNX2 := Lib.hid (ntHit HR.out hlt hxm hin (by rw [hv]; exact hiv))
        have hlen : pre.length ≤ 64 := by rw [HR.out.len]; omega
        obtain ⟨v1, g2, n2, c2, Z, hc1, hrun, hf1, ⟨u1, hu1⟩, hf2, ⟨u2, hu2⟩, hZB, hZK⟩ := hsY.push hlen x (addS s x)
        have d1 : decide (i' < v) = true := decide_eq_true hiv
        have d2 : decide ((i' : Int) < (v : Int)) = true := decide_eq_true (by omega)
        have HFIN := Lib.hid (show KeepsFrom X2.heap.size Y ((Z.setCell ⟨w3.heap.size + 1 + 1 + 1, 0, none⟩ (.slice (some ⟨g2, 0, none⟩) n2 c2)).setCell ⟨w3.heap.size + 1, 0, none⟩ (.int .u64 (addS s x : Int))) ∧ (Code.exit 2 = .exit 2 ∧ ∃ s' i' pre', NtTo N (hasP l) j0 (k + 1) s' i' pre' ∧ NtB (w.heap.size + 1) w3 q s' i' pre' ((Z.setCell ⟨w3.heap.size + 1 + 1 + 1, 0, none⟩ (.slice (some ⟨g2, 0, none⟩) n2 c2)).setCell ⟨w3.heap.size + 1, 0, none⟩ (.int .u64 (addS s x : Int))) ∧ OpenR Ds ((Z.setCell ⟨w3.heap.size + 1 + 1 + 1, 0, none⟩ (.slice (some ⟨g2, 0, none⟩) n2 c2)).setCell ⟨w3.heap.size + 1, 0, none⟩ (.int .u64 (addS s x : Int)))) from
          ⟨hZK.from _, rfl, _, _, _, HNX2.out, hZB, fun D hD => hZK.same _ _ (hoY D hD) rfl⟩)
        have hcA : (Y.alloc (.cells #[.int .i64 (x : Int)] 3)).cell? ⟨w3.heap.size + 1 + 1 + 1, 0, none⟩ = some v1 := ((belowAlloc Y _).cell (World.block_lt_of_cell? _ _ hc1)).trans hc1
        clear hin hsY hoY hZB hZK hmap hval hxD hlt2 hile hL2 hLL hv
        gi_wp2_with fail
        refine ⟨trivial, (CallsIn.inRound lr (callsIn_wide.2 (HWI.out _))).mono ?_⟩
        rintro e w' ⟨rfl, rfl⟩
        gi_wp2_with (gi_at_builtin; refine wpListIn_app' _ rfl (.tmp 57) (.tmp 59) 25 rfl rfl rfl hrun ?_)
        gi_wp2
        exact ⟨HFIN.out.1, rfl, HFIN.out.2.2⟩
      · have HIN2 := Lib.hid (ntMiss hin (by rw [hv]; exact hiv))
        rw [hv] at HIN2
        have d1 : decide (i' < v) = false := decide_eq_false hiv
        have d2 : decide ((i' : Int) < (v : Int)) = false := decide_eq_false (by omega)
        have fi := hsY.rk.frozen
        have hsub : IntKind.i64.wrap ((i' : Int) - (v : Int)) = ((i' - v : Nat) : Int) := by rw [IntKind.wrap_i64]; omega
        have HFIN := Lib.hid (show KeepsFrom X2.heap.size Y (Y.setCell ⟨w.heap.size + 1, 0, none⟩ (.int .i64 ((i' - v : Nat) : Int))) ∧ (Tbl Y → Tbl (Y.setCell ⟨w.heap.size + 1, 0, none⟩ (.int .i64 ((i' - v : Nat) : Int)))) ∧ ∃ rest i'', nxtL N (hasP l) s = (ps ++ [x]) ++ rest ∧ NtIn N (hasP l) k s i rest i'' ∧ NtB (w.heap.size + 1) w3 q s i'' pre (Y.setCell ⟨w.heap.size + 1, 0, none⟩ (.int .i64 ((i' - v : Nat) : Int))) ∧ OpenR Ds (Y.setCell ⟨w.heap.size + 1, 0, none⟩ (.int .i64 ((i' - v : Nat) : Int))) from by
          have hb := hsY.setI (i' - v)
          have hlw := HS.out.lw
          refine ⟨(KeepsOthers.setCell Y _ _).from _, fun _ => (fixNe HF3.out (by omega) HI3.out hb.chg).tbl, post, i' - v, by rw [hLL]; simp, HIN2.out, hb, hoY.keep fun D hD => heap_setCell_other _ ⟨w.heap.size + 1, 0, none⟩ D _ (show D ≠ w.heap.size + 1 from by have := HO.out.2.2 D hD; omega)⟩)
        clear hin hsY hoY hmap hval hxD hlt2 hL2 hLL hv
        gi_wp2_with fail
        refine ⟨trivial, (CallsIn.inRound lr (callsIn_wide.2 (HWI.out _))).mono ?_⟩
        rintro e w' ⟨rfl, rfl⟩
        gi_wp2
        exact HFIN.out
    case hI =>
      rintro ps X0 Y row ⟨rest, i', h1, h2, h3, h4⟩ hgr hr
      have hc : Chg X0 Y (fun q => row ≠ some q) := Chg.ofGrown hgr fun _ h => h
      exact ⟨rest, i', h1, h2, h3.own hgr fun r e => ⟨by have := (hr r e).1; omega, (hr r e).2⟩, h4.chg hc fun D hD e => by have := (hr D e).1; have := HO2.out.lt hD; omega⟩
    case hIx =>
      rintro c ps X0 Y row ⟨hce, s', i', pre', h1, h3, h4⟩ hgr hr
      have hc : Chg X0 Y (fun q => row ≠ some q) := Chg.ofGrown hgr fun _ h => h
      exact ⟨hce, s', i', pre', h1, h3.own hgr fun r e => ⟨by have := (hr r e).1; omega, (hr r e).2⟩, h4.chg hc fun D hD e => by have := (hr D e).1; have := HO2.out.lt hD; omega⟩
    case done =>
      rintro E Z hE ⟨rest, i', h1, h2, _⟩ hK2
      have : rest = [] := by
        have := congrArg List.length h1
        rw [List.length_append] at this
        exact List.eq_nil_of_length_eq_zero (by omega)
      subst this
      exact absurd h2 ntEnd
    case stop =>
      rintro E c ps Z hE ⟨hce, s', i', pre', hR2, hsZ, hoZ⟩ hK2
      subst hce
      have HOD : Hid (OpenR (E :: Ds) Z ∧ (E :: Ds).Nodup ∧ ∀ D ∈ E :: Ds, w3.heap.size + 1 + 1 + 1 + 1 ≤ D) := Lib.hid (by
        refine ⟨fun D hD => ?_, List.nodup_cons.2 ⟨fun h => ?_, HO.out.2.1⟩, fun D hD => ?_⟩
        · rcases List.mem_cons.1 hD with rfl | hD
          · exact hK2
          · exact hoZ D hD
        · have := HO2.out.lt h; omega
        · rcases List.mem_cons.1 hD with rfl | hD
          · omega
          · exact HO.out.2.2 D hD)
      have HSZ := Lib.hid (And.intro hR2 hsZ)
      clear hsZ hoZ hK2 hR2
      gi_wp2
      refine ⟨?_, ?_⟩
      · rw [HINV.out]
        exact ⟨fun i => (#[undef, undef, undef, undef, undef, undef, undef, undef, undef, undef, undef, u 11, u 12, undef, undef, undef, undef, undef, undef, undef, undef, undef, undef, undef, undef, undef, undef, undef, undef, undef, undef, undef, undef, undef, undef, undef, undef, undef, undef, undef, undef, undef, undef, .bool true, .slice (some ⟨g, 0, none⟩) N N, .int .u64 (s : Int), .int .u64 (nxtS N (hasP l) s : Int), .func (.func 19) #[.int .u64 (nxtS N (hasP l) s : Int)] #[], u 48, u 49, u 50, u 51, u 52, u 53, u 54, u 55, u 56, u 57, u 58, u 59, u 60, u 61, u 62, u 63, u 64, u 65, u 66, .int .i64 ((k + 1 : Nat) : Int), undef] : Array Value).getD i undef, E :: Ds, k + 1, s', i', pre', rfl, Lib.hid HSZ.out.2, Lib.hid HSZ.out.1, HOD, hlt⟩
      · rw [HMU.out]
        show N - (intOf (.int .i64 ((k : Int) + 1))).toNat < N - (intOf (.int .i64 (k : Int))).toNat
        simp only [intOf]
        omega
  · have hkN : k = N := by omega
    subst hkN
    have HD := Lib.hid (ntDone HR.out)
    obtain ⟨v, hv, ho⟩ := HS.out.bo
    have kv := hv.cell
    have HW := Lib.hid (And.intro hv ho)
    clear hv ho
    gi_wp2
    refine leaveR (B := w3.heap.size) (K := fun X => Below w.heap.size w X ∧ OwnI X w.heap.size v ((nthL k (hasP l) k 0 j0).map Int.ofNat)) (fun X D hD hd hK => ⟨belowPutR hK.1 (by have := HB3.out.size; omega), ownPut hK.2 hd⟩) (fun X hK => ?_) Ds wl HO.out.2.1 (fun D hD => by have := HO.out.2.2 D hD; omega) HO.out.1 ⟨?_, ?_⟩
    · exact ⟨_, results_tmp2 rfl _ _ _, v, rfl, hK.2, hK.1⟩
    · have hlw := HB3.out.size
      have hc := HS.out.chg
      exact ⟨hc.os.trans HB3.out.os, hc.tape.trans HB3.out.tape, hc.output.trans HB3.out.output, Nat.le_trans hlw hc.size, fun b hb => (hc.block b (by omega) (by omega)).trans (HB3.out.block b hb)⟩
    · rw [← HD.out]
      exact ownMono HW.out.2 (by have := HB3.out.size; omega)
end Go.Proofs.YtjioiaeiggjneaaDoor
