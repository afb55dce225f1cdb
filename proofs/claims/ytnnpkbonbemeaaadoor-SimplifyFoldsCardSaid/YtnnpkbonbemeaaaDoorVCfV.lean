/-
  The specification's Leaders.
-/
import Derived.Test.YtnnpkbonbemeaaaDoorVCt
import Derived.Test.YtnnpkbonbemeaaaDoorVRow
import Derived.Test.YtnnpkbonbemeaaaDoorVCfH
namespace Go.Proofs.YtnnpkbonbemeaaaDoor
open Go Go.RowKit Go.Shelf

theorem infoBool9 : (Tryd.prog.info? 4).map (fun i => (i.zero, i.size, i.bytes)) = some (some (.bool false), 1, 1) := by kernel_rfl
theorem memMin9 {a b : List Int} {x : Int} : x ∈ min' a b ↔ x ∈ a ∧ x ∉ b := by
  unfold min'
  rw [memMk]
  unfold pick
  rw [List.mem_filter]
  unfold memB
  simp
theorem RowB.congr9 {w : World} {g n : Nat} {E F : Nat → Bool} (h : RowB w g n E) (e : ∀ x, x < n → E x = F x) : RowB w g n F := by
  have : bl n E = bl n F := List.map_congr_left fun x hx => e x (List.mem_range.1 hx)
  unfold RowB at h ⊢
  rwa [← this]
theorem ldBnd {C : List I8} (hok : CfOk C) : ∀ {k : Nat}, k ≤ C.length → ∀ {x : Int}, x ∈ ldL C k → 0 ≤ x ∧ x ≤ C.length
  | 0, _, x, h => by
    rw [ldL, List.mem_singleton] at h
    subst h
    omega
  | k + 1, hk, x, h => by
    rw [ldS (by omega), List.mem_append] at h
    rcases h with h | h
    · exact ldBnd hok (by omega) h
    · have ht := hok.tgt C[k] (List.getElem_mem (by omega))
      unfold I8.jmp at ht
      unfold ldI at h
      split at h
      · rename_i hj
        have ht := ht (by simpa using hj)
        simp only [List.mem_cons, List.not_mem_nil, or_false] at h
        omega
      · split at h
        · rw [List.mem_singleton] at h; omega
        · cases h
/-- Is the number a leader, as far as those below k say? -/
def ldB (C : List I8) (k x : Nat) : Bool := decide ((x : Int) ∈ ldL C k)
def ldP (C : List I8) (n j : Nat) : List Int := ((List.range j).filter (ldB C n)).map Int.ofNat
theorem ldPS {C : List I8} {n j : Nat} : ldP C n (j + 1) = ldP C n j ++ if ldB C n j = true then [(j : Int)] else [] := by
  unfold ldP
  rw [List.range_succ, List.filter_append, List.map_append, List.filter_cons, List.filter_nil]
  cases ldB C n j <;> rfl
theorem ldPLen {C : List I8} {n j : Nat} : (ldP C n j).length ≤ j := by
  unfold ldP
  rw [List.length_map]
  exact Nat.le_trans (List.length_filter_le _ _) (by simp)
theorem ldPEnd {C : List I8} (hok : CfOk C) {n : Nat} (hn : C.length = n) : ldP C n n = min' (ldL C n) [(n : Int)] := by
  refine srtExt ?_ (srtMk _) fun x => ?_
  · unfold ldP Srt
    rw [List.pairwise_map]
    exact (List.pairwise_lt_range.filter _).imp fun h => by simpa using h
  · rw [memMin9, List.mem_singleton]
    unfold ldP
    rw [List.mem_map]
    constructor
    · rintro ⟨y, hy, rfl⟩
      rw [List.mem_filter, List.mem_range] at hy
      unfold ldB at hy
      refine ⟨of_decide_eq_true hy.2, fun h => ?_⟩
      have h : (y : Int) = n := h
      omega
    · rintro ⟨h1, h2⟩
      have hb := ldBnd hok (by omega) h1
      refine ⟨x.toNat, ?_, by simp; omega⟩
      rw [List.mem_filter, List.mem_range]
      unfold ldB
      have e : ((x.toNat : Nat) : Int) = x := by omega
      exact ⟨by omega, decide_eq_true (by rw [e]; exact h1)⟩
set_option maxRecDepth 100000 in
set_option maxHeartbeats 4000000 in
theorem rLeaders (nm : ByteArray) (C : List I8) (n : Nat) (hn : C.length = n) (A : Option Addr) (c : Nat) (w : World) (h : CdW w A c C) :
    Calls Tryd.prog 74 #[fnV nm A n c] w (GivesE9 (ldR C) (cfE C) w) := by
  obtain ⟨W, hW⟩ : ∃ W, w.alloc (.cells #[.string nm, .slice A n c] 42) = W := ⟨_, rfl⟩
  have hbW : Below w.heap.size w W := by rw [← hW]; exact belowAlloc w _
  have hB : Blk W w.heap.size 42 #[.string nm, .slice A n c] := by rw [← hW]; exact Blk.new w _ _
  have k0 : W.cell? ⟨w.heap.size, 0, none⟩ = some (.string nm) := hB.cell 0
  have k1 : W.cell? ⟨w.heap.size, 1, none⟩ = some (.slice A n c) := hB.cell 1
  have HKB := Lib.hid (fun X (hX : Below W.heap.size W X) => (⟨(hB.below' hX).cell 0, (hB.below' hX).cell 1⟩ : X.cell? ⟨w.heap.size, 0, none⟩ = some (.string nm) ∧ X.cell? ⟨w.heap.size, 1, none⟩ = some (.slice A n c)))
  have HCO := Lib.hid (rCk12 nm C n hn A c W (h.below hbW))
  have HCW := Lib.hid (fun X (hX : Below W.heap.size W X) => ((h.below hbW).below hX).rd)
  have HW := Lib.hid hW
  have HBW := Lib.hid hbW
  have hle := h.rd.le
  have hmx := h.rd.max
  rw [hn] at hle
  unfold maxLen at hmx
  clear h hB hW hbW
  unfold fnV at HCO ⊢
  by_cases hc : cfE C = 0
  rotate_left
  · have hne : (cfE C != 0) = true := by simpa using hc
    have e2 : ldR C = [] := by unfold ldR; rw [if_neg hc]
    rw [e2]
    generalize cfE C = E at HCO hne ⊢
    clear hc e2
    go_enter Tryd.func74, Tryd.ntmps74
    go_wp2_with fail
    rw [HW.out]
    refine HCO.out.mono ?_
    rintro e w1 ⟨rfl, b1⟩
    go_wp2
    go_ret2
    exact ⟨none, 0, rfl, Rd.nil, belowThen HBW.out b1⟩
  have hok := cfOk hc
  have h64 := hok.len
  rw [hn] at h64
  have e20 : ldR C = ldP C n n := by unfold ldR; rw [if_pos hc, hn, ldPEnd hok hn]
  rw [e20, hc]
  rw [hc] at HCO
  clear e20
  have HOK := Lib.hid hok
  have HN := Lib.hid hn
  obtain ⟨i0, hi, hz0, hz1, hz2⟩ := info_parts infoBool9
  obtain ⟨n1, hn1⟩ : ∃ n1, n + 1 = n1 := ⟨_, rfl⟩
  have hwn : IntKind.i64.wrap ((n : Int) + 1) = (n1 : Int) := by rw [IntKind.wrap_i64]; omega
  have HBY := Lib.hid (show i0.bytes * n1 ≤ 281474976710656 by rw [hz2]; omega)
  have HNM := Lib.hid (show n1 ≤ maxLen by unfold maxLen; omega)
  clear hc hok hn
  go_enter Tryd.func74, Tryd.ntmps74
  go_wp2_with fail
  rw [HW.out]
  refine HCO.out.mono ?_
  rintro e w1 ⟨rfl, b1⟩
  clear k0 k1
  obtain ⟨k0, k1⟩ := HKB.out w1 b1
  go_wp2_with (first
    | (at_make; refine wpList_make_full _ rfl (.tmp 18) (.tmp 18) 74 rfl 0 4 i0 _ 1 Tryd.underlying74 hi hz0 hz1 .i64 .i64 _ _ n1 rfl rfl rfl rfl HBY.out HNM.out (Nat.zero_le _) ?_; intro w2 o2 g2; have hrow := RowB.made o2; have hbe : Below w1.heap.size w1 w2 := (Below.refl _ w1).grown g2 (Nat.le_refl _) (fun k hk => by cases hk); have f0 := hrow.frozen 0; have c0 := hrow.cell (i := 0) (by omega); have HR0 := Lib.hid (hrow.set 0); have HBE := Lib.hid (belowThen b1 hbe); clear o2 g2 hrow hbe)
    | fail)
  have hzw : W.heap.size ≤ w1.heap.size := b1.size
  have HR1 : Hid (RowB (w2.setCell ⟨w1.heap.size, 0, none⟩ (.bool true)) w1.heap.size n1 (ldB C 0)) := Lib.hid (HR0.out.congr9 fun x _ => by
    unfold with_ ldB
    rw [ldL, Bool.false_or]
    exact decide_eq_decide.2 (by rw [List.mem_singleton]; omega))
  have HB1 := Lib.hid (belowSet9 HBE.out ⟨w1.heap.size, 0, none⟩ (.bool true) hzw)
  clear k0 k1 hi hz0 hz1 hz2 HR0 HBE b1 f0 c0
  go_loopw [6] (fun v X => ∃ k : Nat, k ≤ n ∧ v = .int .i64 k ∧ Hid (RowB X w1.heap.size n1 (ldB C k)) ∧ Hid (Below W.heap.size W X)) (fun v _ => n - (intOf v).toNat)
  case atStart => exact ⟨0, Nat.zero_le _, rfl, HR1, HB1⟩
  case round =>
    clear HR1 HB1
    obtain ⟨k, hk, rfl, HRW, HB⟩ := hrel
    obtain ⟨k0, k1⟩ := HKB.out wr HB.out
    by_cases hlt : k < n
    · have hkl : k < C.length := by rw [HN.out]; exact hlt
      obtain ⟨q, off, hA, _, i0, i1, i2, i3, i4, i5, i6, i7⟩ := (HCW.out wr HB.out).one hkl
      have hA : A = _ := hA
      subst hA
      have HST := Lib.hid (ldS hkl)
      have htg := HOK.out.tgt C[k] (List.getElem_mem hkl)
      rw [HN.out] at htg
      obtain ⟨ii, hii⟩ : ∃ x, C[k] = x := ⟨_, rfl⟩
      rw [hii] at i0 i5 HST htg
      clear hii i1 i2 i3 i4 i6 i7
      obtain ⟨op, ra, rb, rc, obj, m, fn, ord⟩ := ii
      simp only at i0 i5
      unfold I8.jmp at htg
      simp only at htg
      have hk0 : (0 : Int) ≤ k := by omega
      have hk1 : (k : Int) < n := by omega
      obtain ⟨kk, hkk⟩ : ∃ kk, k + 1 = kk := ⟨_, rfl⟩
      have hwk : IntKind.i64.wrap ((k : Int) + 1) = (kk : Int) := by rw [IntKind.wrap_i64]; omega
      have hkk1 : kk < n1 := by omega
      have ft := HRW.out.frozen
      by_cases hj : op = 4 ∨ op = 5
      · have hm := htg (by simpa using hj)
        obtain ⟨mm, rfl⟩ : ∃ mm : Nat, m = mm := ⟨m.toNat, by omega⟩
        have hmm : mm < n1 := by omega
        have hm0 : (0 : Int) ≤ mm := by omega
        have hm1 : (mm : Int) < n1 := by omega
        have hs1 := HRW.out.set mm
        have hs2 := hs1.set kk
        have hb1 := belowSet9 HB.out ⟨w1.heap.size, mm, none⟩ (.bool true) hzw
        have hb2 := belowSet9 hb1 ⟨w1.heap.size, kk, none⟩ (.bool true) hzw
        have c1 := HRW.out.cell hmm
        have f1 := ft mm
        have c2 := hs1.cell hkk1
        have f2 := hs1.frozen kk
        obtain ⟨z0, z1⟩ := HKB.out _ hb1
        have HRF : Hid (RowB ((wr.setCell ⟨w1.heap.size, mm, none⟩ (.bool true)).setCell ⟨w1.heap.size, kk, none⟩ (.bool true)) w1.heap.size n1 (ldB C (k + 1))) := Lib.hid (hs2.congr9 fun x _ => by
          unfold with_ ldB
          rw [HST.out]
          unfold ldI
          rw [if_pos hj, Bool.eq_iff_iff, Bool.or_eq_true, Bool.or_eq_true, decide_eq_true_iff, decide_eq_true_iff, decide_eq_true_iff, decide_eq_true_iff, List.mem_append, List.mem_cons, List.mem_singleton]
          constructor
          · rintro ((h | rfl) | rfl)
            · exact .inl h
            · exact .inr (.inl rfl)
            · exact .inr (.inr (by omega))
          · rintro (h | h | h)
            · exact .inl (.inl h)
            · exact .inl (.inr (by have h : (x : Int) = (mm : Int) := h; omega))
            · exact .inr (by omega))
        have HBF := Lib.hid hb2
        clear hs1 hs2 hb1 hb2 htg ft
        rcases hj with rfl | rfl
        all_goals (
          go_wp2
          all_goals first
            | (exfalso; omega)
            | go_roundw
          all_goals first
            | exact ⟨k + 1, by omega, by go_num, HRF, HBF⟩
            | (simp only [intOf]; omega))
      · have z4 : (op == 4) = false := by simp; omega
        have z5 : (op == 5) = false := by simp; omega
        by_cases h7 : op = 7
        · have c1 := HRW.out.cell hkk1
          have f1 := ft kk
          have HRF : Hid (RowB (wr.setCell ⟨w1.heap.size, kk, none⟩ (.bool true)) w1.heap.size n1 (ldB C (k + 1))) := Lib.hid ((HRW.out.set kk).congr9 fun x _ => by
            unfold with_ ldB
            rw [HST.out]
            unfold ldI
            rw [if_neg hj, if_pos h7, Bool.eq_iff_iff, Bool.or_eq_true, decide_eq_true_iff, decide_eq_true_iff, decide_eq_true_iff, List.mem_append, List.mem_singleton]
            constructor
            · rintro (h | rfl)
              · exact .inl h
              · exact .inr (by omega)
            · rintro (h | h)
              · exact .inl h
              · exact .inr (by omega))
          have HBF := Lib.hid (belowSet9 HB.out ⟨w1.heap.size, kk, none⟩ (.bool true) hzw)
          subst h7
          clear hj htg ft
          go_wp2
          all_goals first
            | (exfalso; omega)
            | go_roundw
          all_goals first
            | exact ⟨k + 1, by omega, by go_num, HRF, HBF⟩
            | (simp only [intOf]; omega)
        · have z7 : (op == 7) = false := by simpa using h7
          have HRF : Hid (RowB wr w1.heap.size n1 (ldB C (k + 1))) := Lib.hid (HRW.out.congr9 fun x _ => by
            unfold ldB
            rw [HST.out]
            unfold ldI
            rw [if_neg hj, if_neg h7, List.append_nil])
          clear hj h7 htg ft
          go_wp2
          all_goals first
            | (exfalso; omega)
            | go_roundw
          all_goals first
            | exact ⟨k + 1, by omega, by go_num, HRF, HB⟩
            | (simp only [intOf]; omega)
    · obtain rfl : k = n := by omega
      have HC9 := Lib.hid (fun X (hX : Below wr.heap.size wr X) j (hj : j < n1) => (hX.cell (p := ⟨w1.heap.size, j, none⟩) HRW.out.lt).trans (HRW.out.cell hj))
      have HBV := Lib.hid (fun X (hX : Below wr.heap.size wr X) => belowThen HB.out hX)
      have HKV := Lib.hid (fun X (hX : Below wr.heap.size wr X) => HKB.out X (belowThen HB.out hX))
      rename World => B0
      go_wp2_with fail
      all_goals first
        | (exfalso; omega)
        | skip
      clear k0 k1
      go_loopw [8, 9] (fun v i X => ∃ j : Nat, j ≤ k ∧ i = .int .i64 j ∧ Hid (OwnI X B0.heap.size v (ldP C k j)) ∧ Hid (Below B0.heap.size B0 X)) (fun _ i _ => k - (intOf i).toNat)
      case atStart => exact ⟨0, Nat.zero_le _, rfl, Lib.hid (OwnI.nil _ _), Lib.hid (Below.refl _ _)⟩
      case round =>
        obtain ⟨j, hj, rfl, HO, HBJ⟩ := hrel
        obtain ⟨A8, c8, rfl, r8, _⟩ := HO.out.rd
        have hlp := ldPLen (C := C) (n := k) (j := j)
        obtain ⟨k0, k1⟩ := HKV.out _ HBJ.out
        by_cases hlj : j < k
        · have c1 := HC9.out _ HBJ.out j (by omega)
          have hj0 : (0 : Int) ≤ j := by omega
          have hj1 : (j : Int) < n1 := by omega
          have hj2 : (j : Int) < k := by omega
          have HPS := Lib.hid (ldPS (C := C) (n := k) (j := j))
          have hz8 := HBJ.out.size
          have hlen8 : (ldP C k j).length + 1 ≤ 1000000 := by omega
          obtain ⟨m8, hm8⟩ : ∃ m8, (ldP C k j).length = m8 := ⟨_, rfl⟩
          rw [hm8] at HO ⊢
          clear r8 hlp hm8
          cases hb : ldB C k j with
          | true =>
            rw [hb] at c1 HPS
            go_wp2_with (at_builtin; refine appI _ rfl (.tmp 74) (.tmp 76) rfl B0.heap.size _ (ldP C k j) rfl (HO.out.alloc _) (some ⟨_, 0, none⟩) 1 1 [(j : Int)] rfl rfl (litI9 _ _ _) (by rw [List.length_singleton]; exact hlen8) (by simp; omega) ?_; intro v1 w4 o1 _ b4; have HO4 := Lib.hid (show OwnI w4 B0.heap.size v1 (ldP C k (j + 1)) by rw [HPS.out, if_pos rfl]; exact o1); have HB4 := Lib.hid (stepA HBJ.out b4); clear o1 b4)
            all_goals first
              | (exfalso; omega)
              | go_roundw
            all_goals first
              | exact ⟨j + 1, by omega, by go_num, HO4, HB4⟩
              | (simp only [intOf]; omega)
          | false =>
            rw [hb] at c1 HPS
            rw [if_neg (by simp), List.append_nil] at HPS
            have HO4 := Lib.hid (show OwnI wr B0.heap.size (.slice A8 m8 c8) (ldP C k (j + 1)) by rw [HPS.out]; exact HO.out)
            go_wp2
            all_goals first
              | (exfalso; omega)
              | go_roundw
            all_goals first
              | exact ⟨j + 1, by omega, by go_num, HO4, HBJ⟩
              | (simp only [intOf]; omega)
        · obtain rfl : j = k := by omega
          have HFB := Lib.hid (HBV.out _ HBJ.out)
          have HR8 := Lib.hid r8
          clear r8
          go_wp2
          all_goals first
            | (exfalso; omega)
            | (go_ret2; exact ⟨A8, c8, rfl, HR8.out, belowThen HBW.out HFB.out⟩)
end Go.Proofs.YtnnpkbonbemeaaaDoor
