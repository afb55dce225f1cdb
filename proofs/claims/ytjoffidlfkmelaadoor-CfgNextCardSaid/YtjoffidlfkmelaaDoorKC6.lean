/-
  The specification's Leaders.
-/
import Derived.Test.YtjoffidlfkmelaaDoorKC5
import Derived.Test.YtjoffidlfkmelaaDoorKRow
import Derived.Test.YtjoffidlfkmelaaDoorKC4
namespace Go.Proofs.YtjoffidlfkmelaaDoor
open Go Go.RowKit Go.Shelf

theorem infoBool9 : (Tryd.prog.info? 4).map (fun i => (i.zero, i.size, i.bytes)) = some (some (.bool false), 1, 1) := by kernel_rfl
theorem memMin9 {a b : List Int} {x : Int} : x ∈ min' a b ↔ x ∈ a ∧ x ∉ b := by
  unfold min'
  rw [memMk]
  unfold pick
  rw [List.mem_filter]
  unfold memB
  simp
theorem RowB.congr9 {w : World} {g n : Nat} {E F : Nat → Bool} (h : RowB w g n E) (e : ∀ x, x < n → E x = F x) : RowB w g n F := by
  have : bl n E = bl n F := List.map_congr_left fun x hx => e x (List.mem_range.1 hx)
  unfold RowB at h ⊢
  rwa [← this]
theorem ldBnd {C : List I8} (hok : CfOk C) : ∀ {k : Nat}, k ≤ C.length → ∀ {x : Int}, x ∈ ldL C k → 0 ≤ x ∧ x ≤ C.length
  | 0, _, x, h => by
    rw [ldL, List.mem_singleton] at h
    subst h
    omega
  | k + 1, hk, x, h => by
    rw [ldS (by omega), List.mem_append] at h
    rcases h with h | h
    · exact ldBnd hok (by omega) h
    · have ht := hok.tgt C[k] (List.getElem_mem (by omega))
      unfold I8.jmp at ht
      unfold ldI at h
      split at h
      · rename_i hj
        have ht := ht (by simpa using hj)
        simp only [List.mem_cons, List.not_mem_nil, or_false] at h
        omega
      · split at h
        · rw [List.mem_singleton] at h; omega
        · cases h
/-- Is the number a leader, as far as those below k say? -/
def ldB (C : List I8) (k x : Nat) : Bool := decide ((x : Int) ∈ ldL C k)
def ldP (C : List I8) (n j : Nat) : List Int := ((List.range j).filter (ldB C n)).map Int.ofNat
theorem ldPS {C : List I8} {n j : Nat} : ldP C n (j + 1) = ldP C n j ++ if ldB C n j = true then [(j : Int)] else [] := by
  unfold ldP
  rw [List.range_succ, List.filter_append, List.map_append, List.filter_cons, List.filter_nil]
  cases ldB C n j <;> rfl
theorem ldPLen {C : List I8} {n j : Nat} : (ldP C n j).length ≤ j := by
  unfold ldP
  rw [List.length_map]
  exact Nat.le_trans (List.length_filter_le _ _) (by simp)
theorem ldPEnd {C : List I8} (hok : CfOk C) {n : Nat} (hn : C.length = n) : ldP C n n = min' (ldL C n) [(n : Int)] := by
  refine srtExt ?_ (srtMk _) fun x => ?_
  · unfold ldP Srt
    rw [List.pairwise_map]
    exact (List.pairwise_lt_range.filter _).imp fun h => by simpa using h
  · rw [memMin9, List.mem_singleton]
    unfold ldP
    rw [List.mem_map]
    constructor
    · rintro ⟨y, hy, rfl⟩
      rw [List.mem_filter, List.mem_range] at hy
      unfold ldB at hy
      refine ⟨of_decide_eq_true hy.2, fun h => ?_⟩
      have h : (y : Int) = n := h
      omega
    · rintro ⟨h1, h2⟩
      have hb := ldBnd hok (by omega) h1
      refine ⟨x.toNat, ?_, by simp; omega⟩
      rw [List.mem_filter, List.mem_range]
      unfold ldB
      have e : ((x.toNat : Nat) : Int) = x := by omega
      exact ⟨by omega, decide_eq_true (by rw [e]; exact h1)⟩
set_option maxRecDepth 100000 in
set_option maxHeartbeats 4000000 in
theorem rLeaders (nm : ByteArray) (C : List I8) (n : Nat) (hn : C.length = n) (A : Option Addr) (c : Nat) (w : World) (h : CdW w A c C) :
    Calls Tryd.prog 13 #[fnV nm A n c] w (GivesE9 (ldR C) (cfE C) w) := by
  obtain ⟨W, hW⟩ : ∃ W, w.alloc (.cells #[.string nm, .slice A n c] 24) = W := ⟨_, rfl⟩
  have hbW : Below w.heap.size w W := by rw [← hW]; exact belowAlloc w _
  have hB : Blk W w.heap.size 24 #[.string nm, .slice A n c] := by rw [← hW]; exact Blk.new w _ _
  have k0 : W.cell? ⟨w.heap.size, 0, none⟩ = some (.string nm) := hB.cell 0
  have k1 : W.cell? ⟨w.heap.size, 1, none⟩ = some (.slice A n c) := hB.cell 1
  have HKB := Lib.hid (fun X (hX : Below W.heap.size W X) => (⟨(hB.below' hX).cell 0, (hB.below' hX).cell 1⟩ : X.cell? ⟨w.heap.size, 0, none⟩ = some (.string nm) ∧ X.cell? ⟨w.heap.size, 1, none⟩ = some (.slice A n c)))
  have HCO := Lib.hid (rCk12 nm C n hn A c W (h.below hbW))
  have HCW := Lib.hid (fun X (hX : Below W.heap.size W X) => ((h.below hbW).below hX).rd)
  have HW := Lib.hid hW
  have HBW := Lib.hid hbW
  have hle := h.rd.le
  have hmx := h.rd.max
  rw [hn] at hle
  unfold maxLen at hmx
  clear h hB hW hbW
  unfold fnV at HCO ⊢
  by_cases hc : cfE C = 0
  rotate_left
  · have hne : (cfE C != 0) = true := by simpa using hc
    have e2 : ldR C = [] := by unfold ldR; rw [if_neg hc]
    rw [e2]
    generalize cfE C = E at HCO hne ⊢
    clear hc e2
    go_enter Tryd.func13, Tryd.ntmps13
    go_wp2_with fail
    rw [HW.out]
    refine HCO.out.mono ?_
    rintro e w1 ⟨rfl, b1⟩
    go_wp2
    go_ret2
    exact ⟨none, 0, rfl, Rd.nil, belowThen HBW.out b1⟩
  have hok := cfOk hc
  have h64 := hok.len
  rw [hn] at h64
  have e20 : ldR C = ldP C n n := by unfold ldR; rw [if_pos hc, hn, ldPEnd hok hn]
  rw [e20, hc]
  rw [hc] at HCO
  clear e20
  have HOK := Lib.hid hok
  have HN := Lib.hid hn
  obtain ⟨i0, hi, hz0, hz1, hz2⟩ := info_parts infoBool9
  obtain ⟨n1, hn1⟩ : ∃ n1, n + 1 = n1 := ⟨_, rfl⟩
  have hwn : IntKind.i64.wrap ((n : Int) + 1) = (n1 : Int) := by rw [IntKind.wrap_i64]; omega
  have HBY := Lib.hid (show i0.bytes * n1 ≤ 281474976710656 by rw [hz2]; omega)
  have HNM := Lib.hid (show n1 ≤ maxLen by unfold maxLen; omega)
  clear hc hok hn
  go_enter Tryd.func13, Tryd.ntmps13
  go_wp2_with fail
  rw [HW.out]
  refine HCO.out.mono ?_
  rintro e w1 ⟨rfl, b1⟩
  clear k0 k1
  obtain ⟨k0, k1⟩ := HKB.out w1 b1
  go_wp2_with (first
    | (at_make; refine wpList_make_full _ rfl (.tmp 18) (.tmp 18) 38 rfl 0 4 i0 _ 1 Tryd.underlying38 hi hz0 hz1 .i64 .i64 _ _ n1 rfl rfl rfl rfl HBY.out HNM.out (Nat.zero_le _) ?_; intro w2 o2 g2; have hrow := RowB.made o2; have hbe : Below w1.heap.size w1 w2 := (Below.refl _ w1).grown g2 (Nat.le_refl _) (fun k hk => by cases hk); have f0 := hrow.frozen 0; have c0 := hrow.cell (i := 0) (by omega); have HR0 := Lib.hid (hrow.set 0); have HBE := Lib.hid (belowThen b1 hbe); clear o2 g2 hrow hbe)
    | fail)
  have hzw : W.heap.size ≤ w1.heap.size := b1.size
  have HR1 : Hid (RowB (w2.setCell ⟨w1.heap.size, 0, none⟩ (.bool true)) w1.heap.size n1 (ldB C 0)) := Lib.hid (HR0.out.congr9 fun x _ => by
    unfold with_ ldB
    rw [ldL, Bool.false_or]
    exact decide_eq_decide.2 (by rw [List.mem_singleton]; omega))
  have HB1 := Lib.hid (belowSet9 HBE.out ⟨w1.heap.size, 0, none⟩ (.bool true) hzw)
  clear k0 k1 hi hz0 hz1 hz2 HR0 HBE b1 f0 c0
  go_loopw [6] (fun v X => ∃ k : Nat, k ≤ n ∧ v = .int .i64 k ∧ Hid (RowB X w1.heap.size n1 (ldB C k)) ∧ Hid (Below W.heap.size W X)) (fun v _ => n - (intOf v).toNat)
  case atStart => exact ⟨0, Nat.zero_le _, rfl, HR1, HB1⟩
  case round =>
    clear HR1 HB1
    obtain ⟨k, hk, rfl, HRW, HB⟩ := hrel
    obtain ⟨k0, k1⟩ := HKB.out wr HB.out
    by_cases hlt : k < n
    · have hkl : k < C.length := by rw [HN.out]; exact hlt
      obtain ⟨q, off, hA, _, i0, i1, i2, i3, i4, i5, i6, i7⟩ := (HCW.out wr HB.out).one hkl
      have hA : A = _ := hA
      subst hA
      have HST := Lib.hid (ldS hkl)
      have htg := HOK.out.tgt C[k] (List.getElem_mem hkl)
      rw [HN.out] at htg
      obtain ⟨ii, hii⟩ : ∃ x, C[k] = x := ⟨_, rfl⟩
      rw [hii] at i0 i5 HST htg
      clear hii i1 i2 i3 i4 i6 i7
      obtain ⟨op, ra, rb, rc, obj, m, fn, ord⟩ := ii
      simp only at i0 i5
      unfold I8.jmp at htg
      simp only at htg
      have hk0 : (0 : Int) ≤ k := by omega
      have hk1 : (k : Int) < n := by omega
      obtain ⟨kk, hkk⟩ : ∃ kk, k + 1 = kk := ⟨_, rfl⟩
      have hwk : IntKind.i64.wrap ((k : Int) + 1) = (kk : Int) := by rw [IntKind.wrap_i64]; omega
      have hkk1 : kk < n1 := by omega
      have ft := HRW.out.frozen
      by_cases hj : op = 4 ∨ op = 5
      · have hm := htg (by simpa using hj)
        obtain ⟨mm, rfl⟩ : ∃ mm : Nat, m = mm := ⟨m.toNat, by omega⟩
        have hmm : mm < n1 := by omega
        have hm0 : (0 : Int) ≤ mm := by omega
        have hm1 : (mm : Int) < n1 := by omega
        have hs1 := HRW.out.set mm
        have hs2 := hs1.set kk
        have hb1 := belowSet9 HB.out ⟨w1.heap.size, mm, none⟩ (.bool true) hzw
        have hb2 := belowSet9 hb1 ⟨w1.heap.size, kk, none⟩ (.bool true) hzw
        have c1 := HRW.out.cell hmm
        have f1 := ft mm
        have c2 := hs1.cell hkk1
        have f2 := hs1.frozen kk
        obtain ⟨z0, z1⟩ := HKB.out _ hb1
        have HRF : Hid (RowB ((wr.setCell ⟨w1.heap.size, mm, none⟩ (.bool true)).setCell ⟨w1.heap.size, kk, none⟩ (.bool true)) w1.heap.size n1 (ldB C (k + 1))) := Lib.hid (hs2.congr9 fun x _ => by
          unfold with_ ldB
          rw [HST.out]
          unfold ldI
          rw [if_pos hj, Bool.eq_iff_iff, Bool.or_eq_true, Bool.or_eq_true, decide_eq_true_iff, decide_eq_true_iff, decide_eq_true_iff, decide_eq_true_iff, List.mem_append, List.mem_cons, List.mem_singleton]
          constructor
          · rintro ((h | rfl) | rfl)
            · exact .inl h
            · exact .inr (.inl rfl)
            · exact .inr (.inr (by omega))
          · rintro (h | h | h)
            · exact .inl (.inl h)
            · exact .inl (.inr (by have h : (x : Int) = (mm : Int) := h; omega))
            · exact .inr (by omega))
        have HBF := Lib.hid hb2
        clear hs1 hs2 hb1 hb2 htg ft
        rcases hj with rfl | rfl
        all_goals (
          go_wp2
          all_goals first
            | (exfalso; omega)
            | go_roundw
          all_goals first
            | exact ⟨k + 1, by omega, by go_num, HRF, HBF⟩
            | (simp only [intOf]; omega))
      · have z4 : (op == 4) = false := by simp; omega
        have z5 : (op == 5) = false := by simp; omega
        by_cases h7 : op = 7
        · have c1 := HRW.out.cell hkk1
          have f1 := ft kk
          have HRF : Hid (RowB (wr.setCell ⟨w1.heap.size, kk, none⟩ (.bool true)) w1.heap.size n1 (ldB C (k + 1))) := Lib.hid ((HRW.out.set kk).congr9 fun x _ => by
            unfold with_ ldB
            rw [HST.out]
            unfold ldI
            rw [if_neg hj, if_pos h7, Bool.eq_iff_iff, Bool.or_eq_true, decide_eq_true_iff, decide_eq_true_iff, decide_eq_true_iff, List.mem_append, List.mem_singleton]
            constructor
            · rintro (h | rfl)
              · exact .inl h
              · exact .inr (by omega)
            · rintro (h | h)
              · exact .inl h
              · exact .inr (by omega))
          have HBF := Lib.hid (belowSet9 HB.out ⟨w1.heap.size, kk, none⟩ (.bool true) hzw)
          subst h7
          clear hj htg ft
          go_wp2
          all_goals first
            | (exfalso; omega)
            | go_roundw
          all_goals first
            | exact ⟨k + 1, by omega, by go_num, HRF, HBF⟩
            | (simp only [intOf]; omega)
        · have z7 : (op == 7) = false := by simpa using h7
          have HRF : Hid (RowB wr w1.heap.size n1 (ldB C (k + 1))) := Lib.hid (HRW.out.congr9 fun x _ => by
            unfold ldB
            rw [HST.out]
            unfold ldI
            rw [if_neg hj, if_neg h7, List.append_nil])
          clear hj h7 htg ft
          go_wp2
          all_goals first
            | (exfalso; omega)
            | go_roundw
          all_goals first
            | exact ⟨k + 1, by omega, by go_num, HRF, HB⟩
            | (simp only [intOf]; omega)
    · obtain rfl : k = n := by omega
      have HC9 := Lib.hid (fun X (hX : Below wr.heap.size wr X) j (hj : j < n1) => (hX.cell (p := ⟨w1.heap.size, j, none⟩) HRW.out.lt).trans (HRW.out.cell hj))
      have HBV := Lib.hid (fun X (hX : Below wr.heap.size wr X) => belowThen HB.out hX)
      have HKV := Lib.hid (fun X (hX : Below wr.heap.size wr X) => HKB.out X (belowThen HB.out hX))
      rename World => B0
      go_wp2_with fail
      all_goals first
        | (exfalso; omega)
        | skip
      clear k0 k1
      go_loopw [8, 9] (fun v i X => ∃ j : Nat, j ≤ k ∧ i = .int .i64 j ∧ Hid (OwnI X B0.heap.size v (ldP C k j)) ∧ Hid (Below B0.heap.size B0 X)) (fun _ i _ => k - (intOf i).toNat)
      case atStart => exact ⟨0, Nat.zero_le _, rfl, Lib.hid (OwnI.nil _ _), Lib.hid (Below.refl _ _)⟩
      case round =>
        obtain ⟨j, hj, rfl, HO, HBJ⟩ := hrel
        obtain ⟨A8, c8, rfl, r8, _⟩ := HO.out.rd
        have hlp := ldPLen (C := C) (n := k) (j := j)
        obtain ⟨k0, k1⟩ := HKV.out _ HBJ.out
        by_cases hlj : j < k
        · have c1 := HC9.out _ HBJ.out j (by omega)
          have hj0 : (0 : Int) ≤ j := by omega
          have hj1 : (j : Int) < n1 := by omega
          have hj2 : (j : Int) < k := by omega
          have HPS := Lib.hid (ldPS (C := C) (n := k) (j := j))
          have hz8 := HBJ.out.size
          have hlen8 : (ldP C k j).length + 1 ≤ 1000000 := by omega
          obtain ⟨m8, hm8⟩ : ∃ m8, (ldP C k j).length = m8 := ⟨_, rfl⟩
          rw [hm8] at HO ⊢
          clear r8 hlp hm8
          cases hb : ldB C k j with
          | true =>
            rw [hb] at c1 HPS
            go_wp2_with (at_builtin; refine appI _ rfl (.tmp 74) (.tmp 76) rfl B0.heap.size _ (ldP C k j) rfl (HO.out.alloc _) (some ⟨_, 0, none⟩) 1 1 [(j : Int)] rfl rfl (litI9 _ _ _) (by rw [List.length_singleton]; exact hlen8) (by simp; omega) ?_; intro v1 w4 o1 _ b4; have HO4 := Lib.hid (show OwnI w4 B0.heap.size v1 (ldP C k (j + 1)) by rw [HPS.out, if_pos rfl]; exact o1); have HB4 := Lib.hid (stepA HBJ.out b4); clear o1 b4)
            all_goals first
              | (exfalso; omega)
              | go_roundw
            all_goals first
              | exact ⟨j + 1, by omega, by go_num, HO4, HB4⟩
              | (simp only [intOf]; omega)
          | false =>
            rw [hb] at c1 HPS
            rw [if_neg (by simp), List.append_nil] at HPS
            have HO4 := Lib.hid (show OwnI wr B0.heap.size (.slice A8 m8 c8) (ldP C k (j + 1)) by rw [HPS.out]; exact HO.out)
            go_wp2
            all_goals first
              | (exfalso; omega)
              | go_roundw
            all_goals first
              | exact ⟨j + 1, by omega, by go_num, HO4, HBJ⟩
              | (simp only [intOf]; omega)
        · obtain rfl : j = k := by omega
          have HFB := Lib.hid (HBV.out _ HBJ.out)
          have HR8 := Lib.hid r8
          clear r8
          go_wp2
          all_goals first
            | (exfalso; omega)
            | (go_ret2; exact ⟨A8, c8, rfl, HR8.out, belowThen HBW.out HFB.out⟩)
end Go.Proofs.YtjoffidlfkmelaaDoor

namespace Go.Proofs.YtjoffidlfkmelaaDoor
open Go Go.RowKit Go.Shelf

theorem RowB.bools9 {w : World} {g n : Nat} {E : Nat → Bool} (h : RowB w g n E) {a : Addr} {u : Value} (hu : w.cell? a = some u) (hb : ∀ b, u ≠ .bool b) : a.block ≠ g := by
  intro e
  rcases h.2 with ⟨h2, _⟩ | ⟨k, cap, cur, hv, _, hg, hn, hm, hs, ht⟩
  · cases h2
  · injection hv with e1 _ e3
    injection e1 with e1
    injection e1 with e1
    subst e1; subst e3
    unfold World.cell? at hu
    rw [e, hg] at hu
    simp only at hu
    split at hu
    · cases hu
    · have h1 : cur.toList[a.off]? = some u := by simpa using hu
      have h2 : a.off < cur.toList.length := (List.getElem?_eq_some_iff.1 h1).1
      rw [List.take_of_length_le (by rw [Array.length_toList]; omega)] at ht
      rw [ht, List.getElem?_map] at h1
      cases e2 : (bl n E)[a.off]? with
      | none => rw [e2] at h1; cases h1
      | some b => rw [e2] at h1; exact hb b (by simpa using h1.symm)
set_option maxRecDepth 100000 in
theorem cutBH (A : Option Addr) (n c k : Nat) (hk : k ≤ c) (W : World) : (Instr.sliceAt 38 (.slice A n c) none (some (.int .i64 (k : Int))) none).run Tryd.prog W = .ok (.slice A k c) W := by
  rw [run_sliceAt_slice (h := Tryd.underlying38), run_slice_h (ht := Tryd.underlying38) (h0 := by omega) (h2 := by omega)]
  have : (sizeOf (Tryd.prog.elem 38)).run Tryd.prog W = .ok 1 W := by kernel_rfl
  rw [this]
  simp [Result.andThen, sliced]
  intro _
  cases A <;> rfl
def isZ (x : Nat) : Bool := decide (x = 0)
theorem wtFirst {n : Nat} {g : Nat → List Nat} {d : Int} : PsT n g (avd n d) isZ 0 (updB (fun _ => false) 0 (d != 0)) :=
  psStart (fun _ hx => (avdIff.1 hx).1) fun x hx => by
    have := (avdIff.1 hx).2
    unfold updB isZ
    by_cases e : x = 0
    · subst e
      rw [if_pos rfl, decide_eq_true rfl]
      simp
      omega
    · rw [if_neg e, decide_eq_false e]
theorem wtFirstN {d : Int} {x : Nat} (h : updB (fun _ => false) 0 (d != 0) x = true) : (x : Int) ≠ d := by
  unfold updB at h
  split at h
  · rename_i e
    subst e
    simp at h
    omega
  · cases h
/-- A pass over the table T that has seen the instructions below i: it holds E now. -/
structure WtSt (n : Nat) (g : Nat → List Nat) (d : Int) (T : Nat → Bool) (i : Nat) (E : Nat → Bool) : Prop where
  up : ∀ x, avd n d x = true → T x = true → E x = true
  sub : ∀ x, avd n d x = true → E x = true → ∃ s, isZ s = true ∧ Rc g (avd n d) s x
  cl : ∀ j, j < i → avd n d j = true → T j = true → ∀ y, y ∈ g j → avd n d y = true → E y = true
  no : ∀ x, E x = true → (x : Int) ≠ d
section
variable {n : Nat} {g : Nat → List Nat} {d : Int} {T E : Nat → Bool} {i p : Nat}
theorem wtStart (h : PsT n g (avd n d) isZ p T) (hn : ∀ x, T x = true → (x : Int) ≠ d) : WtSt n g d T 0 T := ⟨fun _ _ h => h, h.sub, (fun _ h => absurd h (Nat.not_lt_zero _)), hn⟩
theorem wtNext (h : PsT n g (avd n d) isZ p T) (hw : WtSt n g d T n E) : PsT n g (avd n d) isZ (p + 1) E :=
  psNext (fun _ hx => (avdIff.1 hx).1) h hw.up hw.sub fun i hi hT => hw.cl i (avdIff.1 hi).1 hi hT
theorem wtNo (h : WtSt n g d T i E) (hE : E i = false) : WtSt n g d T (i + 1) E := ⟨h.up, h.sub, fun j hj ha hT => by
  by_cases e : j = i
  · subst e
    rw [h.up j ha hT] at hE
    cases hE
  · exact h.cl j (by omega) ha hT, h.no⟩
/-- Among the successors l of i those below k have been put in. -/
structure WtIn (n : Nat) (g : Nat → List Nat) (d : Int) (T : Nat → Bool) (i : Nat) (l : List Int) (k : Nat) (E : Nat → Bool) : Prop extends WtSt n g d T i E where
  me : E i = true
  put : ∀ (j y : Nat), j < k → l[j]? = some (y : Int) → (y : Int) ≠ d → E y = true
theorem wtIn0 {l : List Int} (h : WtSt n g d T i E) (hE : E i = true) : WtIn n g d T i l 0 E := ⟨h, hE, fun _ _ h => absurd h (Nat.not_lt_zero _)⟩
theorem wtPut {l : List Int} {k y : Nat} (h : WtIn n g d T i l k E) (hi : i < n) (hy : y ∈ g i) (hl : l[k]? = some (y : Int)) (hd : (y : Int) ≠ d) : WtIn n g d T i l (k + 1) (with_ E y) := by
  refine ⟨⟨fun x ha hT => withIff.2 (.inl (h.up x ha hT)), fun x ha hx => ?_, fun j hj ha hT z hz hza => withIff.2 (.inl (h.cl j hj ha hT z hz hza)), fun x hx => ?_⟩, withIff.2 (.inl h.me), fun j z hj hlz hz => ?_⟩
  · rcases withIff.1 hx with hx | rfl
    · exact h.sub x ha hx
    · obtain ⟨s, hs, hr⟩ := h.sub i (avdIff.2 ⟨hi, h.no i h.me⟩) h.me
      exact ⟨s, hs, hr.snoc hy ha⟩
  · rcases withIff.1 hx with hx | rfl
    · exact h.no x hx
    · exact hd
  · by_cases e : j = k
    · subst e
      rw [hl] at hlz
      have : (y : Int) = z := Option.some.inj hlz
      exact withIff.2 (.inr (by omega))
    · exact withIff.2 (.inl (h.put j z (by omega) hlz hz))
theorem wtKeep {l : List Int} {k y : Nat} (h : WtIn n g d T i l k E) (hl : l[k]? = some (y : Int)) (hd : (y : Int) = d) : WtIn n g d T i l (k + 1) E :=
  ⟨h.toWtSt, h.me, fun j z hj hlz hz => by
    by_cases e : j = k
    · subst e
      rw [hl] at hlz
      have : (y : Int) = z := Option.some.inj hlz
      omega
    · exact h.put j z (by omega) hlz hz⟩
theorem wtEnd {l : List Int} {k : Nat} (h : WtIn n g d T i l k E) (hk : l.length ≤ k) (hl : ∀ y, y ∈ g i → (y : Int) ∈ l) : WtSt n g d T (i + 1) E := ⟨h.up, h.sub, fun j hj ha hT y hy hya => by
  by_cases e : j = i
  · subst e
    obtain ⟨q, hq⟩ := List.mem_iff_getElem?.1 (hl y hy)
    exact h.put q y (Nat.lt_of_lt_of_le (List.getElem?_eq_some_iff.1 hq).1 hk) hq (avdIff.1 hya).2
  · exact h.cl j (by omega) ha hT y hy hya, h.no⟩
theorem wtRes (h : PsT n g (avd n d) isZ n T) (hn : ∀ x, T x = true → (x : Int) ≠ d) {x : Nat} (hx : x < n) : T x = rcB n g d x := by
  rw [Bool.eq_iff_iff, rcIff]
  by_cases e : (x : Int) = d
  · exact ⟨fun h => absurd e (hn x h), fun h => absurd e (avdIff.1 h.right).2⟩
  · rw [psEnd h (avdIff.2 ⟨hx, e⟩)]
    unfold isZ
    exact ⟨fun ⟨s, hs, hr⟩ => (of_decide_eq_true hs) ▸ hr, fun hr => ⟨0, rfl, hr⟩⟩
end
/-- The call returns a table of Booleans. -/
def GivesT9 (n : Nat) (F : Nat → Bool) (w : World) (e : Ending) (w' : World) : Prop := ∃ gb n1 E, e = .returned (.slice (some ⟨gb, 0, none⟩) n n1) ∧ RowB w' gb n1 E ∧ n ≤ n1 ∧ n1 ≤ 4096 ∧ (∀ x, x < n → E x = F x) ∧ w.heap.size ≤ gb ∧ Below w.heap.size w w'
set_option maxRecDepth 100000 in
set_option maxHeartbeats 4000000 in
theorem rWithout (nm : ByteArray) (C : List I8) (hok : CfOk C) (n : Nat) (hn : C.length = n) (d : Int) (A : Option Addr) (c : Nat) (w : World) (hr : RdE 8 EI w A c C) :
    Calls Tryd.prog 49 #[fnV nm A n c, .int .i64 d] w (GivesT9 n (rcB n (sc C) d) w) := by
  obtain ⟨W, hW⟩ : ∃ W, w.alloc (.cells #[.string nm, .slice A n c] 24) = W := ⟨_, rfl⟩
  have hbW : Below w.heap.size w W := by rw [← hW]; exact belowAlloc w _
  have hB : Blk W w.heap.size 24 #[.string nm, .slice A n c] := by rw [← hW]; exact Blk.new w _ _
  have HKB := Lib.hid (fun X (hX : Below W.heap.size W X) => (⟨(hB.below' hX).cell 0, (hB.below' hX).cell 1⟩ : X.cell? ⟨w.heap.size, 0, none⟩ = some (.string nm) ∧ X.cell? ⟨w.heap.size, 1, none⟩ = some (.slice A n c)))
  obtain ⟨k0, k1⟩ := HKB.out W (Below.refl _ _)
  have HSC := Lib.hid (fun i (hi : i < n) X (hX : Below W.heap.size W X) => rSucc nm C hok n hn i hi A c X ((hr.below stabI hbW).below stabI hX))
  have HLE := Lib.hid (fun i y (hy : y ∈ sc C i) => (scLe hok hy).2)
  rw [hn] at HLE
  have HMEM := Lib.hid (fun i (x : Int) => scSMem (C := C) (k := i) (x := x))
  unfold fnV at HSC ⊢
  have hle := hr.le
  have hmx := hr.max
  have h64 := hok.len
  rw [hn] at hle h64
  unfold maxLen at hmx
  obtain ⟨i0, hi, hz0, hz1, hz2⟩ := info_parts infoBool9
  obtain ⟨n1, hn1⟩ : ∃ n1, n + 1 = n1 := ⟨_, rfl⟩
  have hwn : IntKind.i64.wrap ((n : Int) + 1) = (n1 : Int) := by rw [IntKind.wrap_i64]; omega
  have HBY := Lib.hid (show i0.bytes * n1 ≤ 281474976710656 by rw [hz2]; omega)
  have HNM := Lib.hid (show n1 ≤ maxLen by unfold maxLen; omega)
  obtain ⟨g, hg⟩ : ∃ g, sc C = g := ⟨_, rfl⟩
  rw [hg] at HLE HMEM ⊢
  obtain ⟨sl, hsl⟩ : ∃ sl, scS C = sl := ⟨_, rfl⟩
  rw [hsl] at HSC HMEM
  have HSL := Lib.hid (fun i => (show (sl i).length ≤ 2 by rw [← hsl]; exact scSLen))
  have hcut := cutBH
  have HCUT := Lib.hid (fun gb => cutBH (some ⟨gb, 0, none⟩) n1 n1 n (by omega))
  have HBW := Lib.hid hbW
  have HWE := Lib.hid hW
  clear hB hW hr hok hn hg hsl hbW hcut
  go_enter Tryd.func49, Tryd.ntmps49
  go_wp2_with (first
    | (at_make; rw [HWE.out]; refine wpList_make_full _ rfl (.tmp 13) (.tmp 13) 38 rfl 0 4 i0 _ 1 Tryd.underlying38 hi hz0 hz1 .i64 .i64 _ _ n1 rfl rfl rfl rfl HBY.out HNM.out (Nat.zero_le _) ?_; intro w2 o2 g2; have hrow := RowB.made o2; have hbe : Below W.heap.size W w2 := (Below.refl _ W).grown g2 (Nat.le_refl _) (fun k hk => by cases hk); have f0 := hrow.frozen 0; have c0 := hrow.cell (i := 0) (by omega); have HR0 := Lib.hid (hrow.put 0 (d != 0)); have HBE := Lib.hid hbe; clear o2 g2 hrow hbe)
    | fail)
  have hzw : W.heap.size ≤ W.heap.size := Nat.le_refl _
  have HB1 := Lib.hid (belowSet9 HBE.out ⟨W.heap.size, 0, none⟩ (.bool (d != 0)) hzw)
  have HP0 := Lib.hid (wtFirst (n := n) (g := g) (d := d))
  have HN0 := Lib.hid (fun x (h : updB (fun _ => false) 0 (d != 0) x = true) => wtFirstN h)
  clear k0 k1 hi hz0 hz1 hz2 HBE f0 c0
  go_loopw [6] (fun v X => ∃ (p : Nat) (T : Nat → Bool), p ≤ n ∧ v = .int .i64 p ∧ Hid (PsT n g (avd n d) isZ p T) ∧ Hid (∀ x, T x = true → (x : Int) ≠ d) ∧ Hid (RowB X W.heap.size n1 T) ∧ Hid (Below W.heap.size W X)) (fun v _ => n - (intOf v).toNat)
  case atStart => exact ⟨0, _, Nat.zero_le _, rfl, HP0, HN0, HR0, HB1⟩
  case round =>
    clear HP0 HN0 HR0 HB1
    obtain ⟨p, T, hp, rfl, HP, HNO, HRW, HB⟩ := hrel
    obtain ⟨k0, k1⟩ := HKB.out wr HB.out
    by_cases hpn : p < n
    · have HW0 := Lib.hid (wtStart HP.out HNO.out)
      go_wp2_with fail
      clear k0 k1
      go_loopw [7] (fun v X => ∃ (i : Nat) (E : Nat → Bool), i ≤ n ∧ v = .int .i64 i ∧ Hid (WtSt n g d T i E) ∧ Hid (RowB X W.heap.size n1 E) ∧ Hid (Below W.heap.size W X)) (fun v _ => n - (intOf v).toNat)
      case atStart => exact ⟨0, T, Nat.zero_le _, rfl, HW0, HRW, HB⟩
      case round =>
        clear HW0 HRW HB
        obtain ⟨i, E, hi, rfl, HWS, HRW, HB⟩ := hrel
        obtain ⟨k0, k1⟩ := HKB.out wr HB.out
        by_cases hin : i < n
        · have HC := Lib.hid (HSC.out i hin wr HB.out)
          go_wp2_with fail
          refine HC.out.mono ?_
          rintro e w4 ⟨A8, c8, rfl, r8, b4⟩
          have hq2 := HSL.out i
          obtain ⟨q, hq⟩ : ∃ q, (sl i).length = q := ⟨_, rfl⟩
          have hle8 := r8.le
          have hmx8 := r8.max
          rw [hq] at hle8 hq2 ⊢
          unfold maxLen at hmx8
          have HQ := Lib.hid hq
          have HR4 := Lib.hid (HRW.out.chg (Chg.ofBelow b4 fun _ => True) trivial)
          have HB4 := Lib.hid (belowThen HB.out b4)
          have HR8 := Lib.hid r8
          have HNE : Hid (∀ ad, A8 = some ad → 0 < (sl i).length → ad.block ≠ W.heap.size) := Lib.hid fun ad ha hl => by
            obtain ⟨ad', e', _, hc⟩ := r8.one hl
            rw [ha] at e'
            injection e' with e'
            subst e'
            have := HR4.out.bools9 hc (fun b e => by cases e)
            rwa [addBlock] at this
          clear r8 b4 hq k0 k1 HRW HB
          cases hE : E i with
          | false =>
            have HWN := Lib.hid (wtNo HWS.out hE)
            have hEi := Lib.hid hE
            clear hE
            go_wp2_with fail
            go_loopw [9] (fun v X => v = .int .i64 0 ∧ Hid (RowB X W.heap.size n1 E) ∧ Hid (Below W.heap.size W X)) (fun _ _ => 0)
            case atStart => exact ⟨rfl, HR4, HB4⟩
            case round =>
              clear HR4 HB4
              obtain ⟨rfl, HR5, HB5⟩ := hrel
              have ce := HR5.out.cell (i := i) (by omega)
              rw [hEi.out] at ce
              have hi0 : (0 : Int) ≤ i := by omega
              have hi1 : (i : Int) < n1 := by omega
              by_cases hq0 : 0 < q
              · have d1 : decide ((0 : Int) < (q : Int)) = true := decide_eq_true (by omega)
                go_wp2
                all_goals first
                  | (exfalso; omega)
                  | go_roundw
                all_goals first
                  | exact ⟨i + 1, E, by omega, by go_num, HWN, HR5, HB5⟩
                  | (simp only [intOf]; omega)
              · have d1 : decide ((0 : Int) < (q : Int)) = false := decide_eq_false (by omega)
                go_wp2
                all_goals first
                  | (exfalso; omega)
                  | go_roundw
                all_goals first
                  | exact ⟨i + 1, E, by omega, by go_num, HWN, HR5, HB5⟩
                  | (simp only [intOf]; omega)
          | true =>
            have HW0 := Lib.hid (wtIn0 (l := sl i) HWS.out hE)
            clear hE
            go_wp2_with fail
            go_loopw [9] (fun v X => ∃ (k : Nat) (E' : Nat → Bool), k ≤ q ∧ v = .int .i64 k ∧ Hid (WtIn n g d T i (sl i) k E') ∧ Hid (RowB X W.heap.size n1 E') ∧ Hid (Rd X A8 c8 (sl i)) ∧ Hid (Below W.heap.size W X)) (fun v _ => q - (intOf v).toNat)
            case atStart => exact ⟨0, E, Nat.zero_le _, rfl, HW0, HR4, HR8, HB4⟩
            case round =>
              clear HW0 HR4 HR8 HB4
              obtain ⟨k, E', hk, rfl, HWI, HR5, HR9, HB5⟩ := hrel
              have ce := HR5.out.cell (i := i) (by omega)
              rw [HWI.out.me] at ce
              have hi0 : (0 : Int) ≤ i := by omega
              have hi1 : (i : Int) < n1 := by omega
              have hk0 : (0 : Int) ≤ k := by omega
              by_cases hkq : k < q
              · have hkl : k < (sl i).length := by rw [HQ.out]; exact hkq
                have hk1 : (k : Int) < q := by omega
                have d1 : decide ((k : Int) < (q : Int)) = true := decide_eq_true (by omega)
                obtain ⟨ad, eA, _, cl⟩ := HR9.out.one hkl
                have hne := HNE.out ad eA (by omega)
                obtain ⟨y, hy, hyx⟩ := (HMEM.out i (sl i)[k]).1 (List.getElem_mem hkl)
                rw [hyx] at cl
                have HGK := Lib.hid (show (sl i)[k]? = some (y : Int) by rw [List.getElem?_eq_getElem hkl, hyx])
                have hyn := HLE.out i y hy
                have hy1 : y < n1 := by omega
                have hy0 : (0 : Int) ≤ y := by omega
                have hy2 : (y : Int) < n1 := by omega
                by_cases hyd : (y : Int) = d
                · have hb9 : ((y : Int) != d) = false := by simpa using hyd
                  have HNX := Lib.hid (wtKeep HWI.out HGK.out hyd)
                  subst eA
                  clear hy hyx hyd
                  go_wp2
                  all_goals first
                    | (exfalso; omega)
                    | go_roundw
                  all_goals first
                    | exact ⟨k + 1, E', by omega, by go_num, HNX, HR5, HR9, HB5⟩
                    | (simp only [intOf]; omega)
                · have hb9 : ((y : Int) != d) = true := by simpa using hyd
                  have HNX := Lib.hid (wtPut HWI.out hin hy HGK.out hyd)
                  have HR6 := Lib.hid (HR5.out.set y)
                  have HB6 := Lib.hid (belowSet9 HB5.out ⟨W.heap.size, y, none⟩ (.bool true) hzw)
                  have HR10 := Lib.hid (HR9.out.chg (Chg.setCell wr ⟨W.heap.size, y, none⟩ (.bool true)) HNE.out)
                  have cy := HR5.out.cell hy1
                  have fy := HR5.out.frozen y
                  subst eA
                  clear hy hyx hyd
                  go_wp2
                  all_goals first
                    | (exfalso; omega)
                    | go_roundw
                  all_goals first
                    | exact ⟨k + 1, with_ E' y, by omega, by go_num, HNX, HR6, HR10, HB6⟩
                    | (simp only [intOf]; omega)
              · have d1 : decide ((k : Int) < (q : Int)) = false := decide_eq_false (by omega)
                have HWN := Lib.hid (wtEnd HWI.out (by rw [HQ.out]; omega) fun y hy => (HMEM.out i (y : Int)).2 ⟨y, hy, rfl⟩)
                go_wp2
                all_goals first
                  | (exfalso; omega)
                  | go_roundw
                all_goals first
                  | exact ⟨i + 1, E', by omega, by go_num, HWN, HR5, HB5⟩
                  | (simp only [intOf]; omega)
        · obtain rfl : i = n := by omega
          have HPN := Lib.hid (wtNext HP.out HWS.out)
          have HNN := Lib.hid HWS.out.no
          go_wp2
          all_goals first
            | (exfalso; omega)
            | go_roundw
          all_goals first
            | exact ⟨p + 1, E, by omega, by go_num, HPN, HNN, HRW, HB⟩
            | (simp only [intOf]; omega)
    · obtain rfl : p = n := by omega
      have HFN := Lib.hid (fun x (hx : x < p) => wtRes HP.out HNO.out hx)
      have HFB := Lib.hid (belowThen HBW.out HB.out)
      have hcut := HCUT.out W.heap.size
      have hzz := HBW.out.size
      go_wp2
      all_goals first
        | (exfalso; omega)
        | (go_ret; exact ⟨W.heap.size, n1, T, rfl, HRW.out, by omega, by omega, HFN.out, by omega, HFB.out⟩)
end Go.Proofs.YtjoffidlfkmelaaDoor

namespace Go.Proofs.YtjoffidlfkmelaaDoor
open Go Go.RowKit Go.Shelf

theorem idxDiv {n d i : Nat} (hi : i < n) : (d * n + i) / n = d ∧ (d * n + i) % n = i := by
  refine ⟨?_, ?_⟩
  · rw [Nat.add_comm, Nat.add_mul_div_right _ _ (by omega), Nat.div_eq_of_lt hi, Nat.zero_add]
  · rw [Nat.add_comm, Nat.add_mul_mod_self_right, Nat.mod_eq_of_lt hi]
theorem idxOne {n d i e j : Nat} (hi : i < n) (hj : j < n) (h : d * n + i = e * n + j) : d = e ∧ i = j := by
  have h1 := idxDiv (d := d) hi
  have h2 := idxDiv (d := e) hj
  rw [h] at h1
  exact ⟨h1.1.symm.trans h2.1, h1.2.symm.trans h2.2⟩
theorem idxLt {n d i : Nat} (hd : d < n) (hi : i < n) : d * n + i < n * n := by
  have h : (d + 1) * n ≤ n * n := Nat.mul_le_mul_right n hd
  rw [Nat.add_mul, Nat.one_mul] at h
  omega
/-- The table where the rows below d and those below i of row d have been filled in. -/
def DtTo (n : Nat) (g : Nat → List Nat) (d i : Nat) (E : Nat → Bool) : Prop := ∀ e j, e < n → j < n → (e < d ∨ e = d ∧ j < i) → E (e * n + j) = dmB n g e j
theorem dtNext {n : Nat} {g : Nat → List Nat} {d i : Nat} {E : Nat → Bool} (h : DtTo n g d i E) (hi : i < n) : DtTo n g d (i + 1) (updB E (d * n + i) (dmB n g d i)) := fun e j he hj hc => by
  unfold updB
  by_cases h2 : e * n + j = d * n + i
  · obtain ⟨rfl, rfl⟩ := idxOne hj hi h2
    rw [if_pos rfl]
  · rw [if_neg h2]
    refine h e j he hj ?_
    rcases hc with hc | ⟨rfl, hc⟩
    · exact .inl hc
    · refine .inr ⟨rfl, ?_⟩
      by_cases e2 : j = i
      · subst e2; exact absurd rfl h2
      · omega
theorem dtRow {n : Nat} {g : Nat → List Nat} {d : Nat} {E : Nat → Bool} (h : DtTo n g d n E) : DtTo n g (d + 1) 0 E := fun e j he hj hc => h e j he hj (by
  rcases hc with hc | ⟨_, hc⟩
  · by_cases e2 : e = d
    · exact .inr ⟨e2, hj⟩
    · exact .inl (by omega)
  · omega)
theorem dt0 {n : Nat} {g : Nat → List Nat} {E : Nat → Bool} : DtTo n g 0 0 E := fun e j _ _ hc => by omega
/-- The call returns the table of dominance. -/
def GivesD9 (n : Nat) (g : Nat → List Nat) (w : World) (e : Ending) (w' : World) : Prop := ∃ ga nn E, e = .returned (.slice (some ⟨ga, 0, none⟩) nn nn) ∧ nn = n * n ∧ RowB w' ga nn E ∧ (∀ d i, d < n → i < n → E (d * n + i) = dmB n g d i) ∧ w.heap.size ≤ ga ∧ Below w.heap.size w w'
set_option maxRecDepth 100000 in
set_option maxHeartbeats 4000000 in
theorem rDomT (nm : ByteArray) (C : List I8) (hok : CfOk C) (n : Nat) (hn : C.length = n) (A : Option Addr) (c : Nat) (w : World) (hr : RdE 8 EI w A c C) :
    Calls Tryd.prog 31 #[fnV nm A n c] w (GivesD9 n (sc C) w) := by
  obtain ⟨W, hW⟩ : ∃ W, w.alloc (.cells #[.string nm, .slice A n c] 24) = W := ⟨_, rfl⟩
  have hbW : Below w.heap.size w W := by rw [← hW]; exact belowAlloc w _
  have hB : Blk W w.heap.size 24 #[.string nm, .slice A n c] := by rw [← hW]; exact Blk.new w _ _
  have HKB := Lib.hid (fun X (hX : Below W.heap.size W X) => (⟨(hB.below' hX).cell 0, (hB.below' hX).cell 1⟩ : X.cell? ⟨w.heap.size, 0, none⟩ = some (.string nm) ∧ X.cell? ⟨w.heap.size, 1, none⟩ = some (.slice A n c)))
  obtain ⟨k0, k1⟩ := HKB.out W (Below.refl _ _)
  have HWO := Lib.hid (fun d X (hX : Below W.heap.size W X) => rWithout nm C hok n hn d A c X ((hr.below stabI hbW).below stabI hX))
  unfold fnV at HWO ⊢
  have hle := hr.le
  have hmx := hr.max
  have h64 := hok.len
  rw [hn] at hle h64
  unfold maxLen at hmx
  obtain ⟨i0, hi, hz0, hz1, hz2⟩ := info_parts infoBool9
  obtain ⟨nn, hnn⟩ : ∃ nn, n * n = nn := ⟨_, rfl⟩
  have hnb : nn ≤ 4096 := by rw [← hnn]; exact Nat.mul_le_mul h64 h64
  have hwn : IntKind.i64.wrap ((n : Int) * (n : Int)) = (nn : Int) := by rw [IntKind.wrap_i64, ← hnn]; push_cast; omega
  have HBY := Lib.hid (show i0.bytes * nn ≤ 281474976710656 by rw [hz2]; omega)
  have HNM := Lib.hid (show nn ≤ maxLen by unfold maxLen; omega)
  obtain ⟨g, hg⟩ : ∃ g, sc C = g := ⟨_, rfl⟩
  rw [hg] at HWO ⊢
  have HNN := Lib.hid hnn
  have HBW := Lib.hid hbW
  have HWE := Lib.hid hW
  clear hB hW hr hok hn hg hbW hnn
  go_enter Tryd.func31, Tryd.ntmps31
  go_wp2_with (first
    | (at_make; rw [HWE.out]; refine wpList_make_full _ rfl (.tmp 14) (.tmp 14) 38 rfl 0 4 i0 _ 1 Tryd.underlying38 hi hz0 hz1 .i64 .i64 _ _ nn rfl rfl rfl rfl HBY.out HNM.out (Nat.zero_le _) ?_; intro w2 o2 g2; have HR0 := Lib.hid (RowB.made o2); have HB0 := Lib.hid (show Below W.heap.size W w2 from (Below.refl _ W).grown g2 (Nat.le_refl _) (fun k hk => by cases hk)); clear o2 g2; clear k0 k1; obtain ⟨k0, k1⟩ := HKB.out w2 HB0.out)
    | fail)
  refine (HWO.out (-1) w2 HB0.out).mono ?_
  rintro e w3 ⟨g5, n5, E5, rfl, hr5, hle5, hmx5, he5, hlo5, b3⟩
  have hza : W.heap.size < w2.heap.size := HR0.out.lt
  have HR1 := Lib.hid (HR0.out.chg (Chg.ofBelow b3 fun _ => True) trivial)
  have HR5 := Lib.hid hr5
  have HE5 := Lib.hid he5
  have HB3 := Lib.hid (belowThen HB0.out b3)
  have hne5 : g5 ≠ W.heap.size := by omega
  clear hi hz0 hz1 hz2 HR0 HB0 b3 hr5 he5 k0 k1
  go_wp2_with fail
  go_loopw [6] (fun v X => ∃ (d : Nat) (E : Nat → Bool), d ≤ n ∧ v = .int .i64 d ∧ Hid (DtTo n g d 0 E) ∧ Hid (RowB X W.heap.size nn E) ∧ Hid (RowB X g5 n5 E5) ∧ Hid (Below W.heap.size W X)) (fun v _ => n - (intOf v).toNat)
  case atStart => exact ⟨0, _, Nat.zero_le _, rfl, Lib.hid dt0, HR1, HR5, HB3⟩
  case round =>
    clear HR1 HR5 HB3
    obtain ⟨d, E, hd, rfl, HDT, HRA, HR5, HB⟩ := hrel
    obtain ⟨k0, k1⟩ := HKB.out wr HB.out
    by_cases hdn : d < n
    · have HC := Lib.hid (HWO.out (d : Int) wr HB.out)
      go_wp2_with fail
      refine HC.out.mono ?_
      rintro e w4 ⟨g7, n7, E7, rfl, hr7, hle7, hmx7, he7, hlo7, b4⟩
      have HR7 := Lib.hid hr7
      have HE7 := Lib.hid he7
      have hz1 := HRA.out.lt
      have hz5 := HR5.out.lt
      have hne7 : g7 ≠ W.heap.size := by omega
      have HRA4 := Lib.hid (HRA.out.chg (Chg.ofBelow b4 fun _ => True) trivial)
      have HR54 := Lib.hid (HR5.out.chg (Chg.ofBelow b4 fun _ => True) trivial)
      have HB4 := Lib.hid (belowThen HB.out b4)
      clear hr7 he7 b4 k0 k1 HRA HR5 HB HC
      go_wp2_with fail
      go_loopw [8] (fun v X => ∃ (i : Nat) (E : Nat → Bool), i ≤ n ∧ v = .int .i64 i ∧ Hid (DtTo n g d i E) ∧ Hid (RowB X W.heap.size nn E) ∧ Hid (RowB X g5 n5 E5) ∧ Hid (RowB X g7 n7 E7) ∧ Hid (Below W.heap.size W X)) (fun v _ => n - (intOf v).toNat)
      case atStart => exact ⟨0, E, Nat.zero_le _, rfl, HDT, HRA4, HR54, HR7, HB4⟩
      case round =>
        clear HDT HRA4 HR54 HR7 HB4
        obtain ⟨i, E, hi, rfl, HDT, HRA, HR5, HR7, HB⟩ := hrel
        by_cases hin : i < n
        · have c5d := HR5.out.cell (i := d) (by omega)
          have c5i := HR5.out.cell (i := i) (by omega)
          have c7i := HR7.out.cell (i := i) (by omega)
          rw [HE5.out d hdn] at c5d
          rw [HE5.out i hin] at c5i
          rw [HE7.out i hin] at c7i
          have hon := dmOn (n := n) (g := g) (d := d) (i := i)
          obtain ⟨dn, hdnn⟩ : ∃ dn, d * n = dn := ⟨_, rfl⟩
          obtain ⟨x, hx⟩ : ∃ x, dn + i = x := ⟨_, rfl⟩
          have hxl : x < nn := by rw [← hx, ← hdnn, ← HNN.out]; exact idxLt hdn hin
          have hdl : dn ≤ nn := by omega
          have hw1 : IntKind.i64.wrap ((d : Int) * (n : Int)) = (dn : Int) := by
            rw [IntKind.wrap_i64, ← hdnn]
            have : ((d * n : Nat) : Int) = (d : Int) * (n : Int) := by push_cast; rfl
            omega
          have hw2 : IntKind.i64.wrap ((dn : Int) + (i : Int)) = (x : Int) := by rw [IntKind.wrap_i64]; omega
          have hx0 : (0 : Int) ≤ x := by omega
          have hx1 : (x : Int) < nn := by omega
          have cx := HRA.out.cell hxl
          have fx := HRA.out.frozen x
          have HDN : Hid (DtTo n g d (i + 1) (updB E x (dmB n g d i))) := Lib.hid (by
            have h := dtNext HDT.out hin
            rw [hdnn, hx] at h
            exact h)
          have HRN := Lib.hid (HRA.out.put x (dmB n g d i))
          have HR5N := Lib.hid (HR5.out.chg (Chg.setCell wr ⟨W.heap.size, x, none⟩ (.bool (dmB n g d i))) hne5)
          have HR7N := Lib.hid (HR7.out.chg (Chg.setCell wr ⟨W.heap.size, x, none⟩ (.bool (dmB n g d i))) hne7)
          have HBN := Lib.hid (belowSet9 HB.out ⟨W.heap.size, x, none⟩ (.bool (dmB n g d i)) (Nat.le_refl _))
          have hd0 : (0 : Int) ≤ d := by omega
          have hd5 : (d : Int) < n5 := by omega
          have hd6 : (d : Int) < n := by omega
          have hi0 : (0 : Int) ≤ i := by omega
          have hi5 : (i : Int) < n5 := by omega
          have hi7 : (i : Int) < n7 := by omega
          have hi8 : (i : Int) < n := by omega
          clear hdnn hx
          obtain ⟨v, hv⟩ : ∃ v, dmB n g d i = v := ⟨_, rfl⟩
          rw [hv] at hon HDN HRN HR5N HR7N HBN
          generalize rcB n g (-1) d = a at c5d hon
          generalize rcB n g (-1) i = b at c5i hon
          generalize rcB n g (d : Int) i = l at c7i hon
          subst hon
          clear hv
          cases a <;> cases b <;> cases l
          all_goals (
            simp only [Bool.and_true, Bool.and_false, Bool.not_true, Bool.not_false] at HDN HRN HR5N HR7N HBN
            go_wp2
            all_goals first
              | (exfalso; omega)
              | go_roundw
            all_goals first
              | exact ⟨i + 1, _, by omega, by go_num, HDN, HRN, HR5N, HR7N, HBN⟩
              | (simp only [intOf]; omega))
        · obtain rfl : i = n := by omega
          have HDN := Lib.hid (dtRow HDT.out)
          go_wp2
          all_goals first
            | (exfalso; omega)
            | go_roundw
          all_goals first
            | exact ⟨d + 1, E, by omega, by go_num, HDN, HRA, HR5, HB⟩
            | (simp only [intOf]; omega)
    · obtain rfl : d = n := by omega
      have HFB := Lib.hid (belowThen HBW.out HB.out)
      have HFD := Lib.hid (fun e j (he : e < d) (hj : j < d) => HDT.out e j he hj (.inl he))
      have hzz := HBW.out.size
      go_wp2
      all_goals first
        | (exfalso; omega)
        | (go_ret; exact ⟨W.heap.size, nn, E, rfl, HNN.out.symm, HRA.out, HFD.out, hzz, HFB.out⟩)
end Go.Proofs.YtjoffidlfkmelaaDoor

namespace Go.Proofs.YtjoffidlfkmelaaDoor
open Go Go.RowKit Go.Shelf

/-- The immediate dominators of the instructions below k. -/
noncomputable def idP (n : Nat) (g : Nat → List Nat) (k : Nat) : List Int := (List.range k).map fun i => idm n g i
theorem idPS {n : Nat} {g : Nat → List Nat} {k : Nat} : idP n g (k + 1) = idP n g k ++ [idm n g k] := by
  unfold idP
  rw [List.range_succ, List.map_append]
  rfl
theorem idPLen {n : Nat} {g : Nat → List Nat} {k : Nat} : (idP n g k).length = k := by simp [idP]
theorem bsLow {n : Nat} {g : Nat → List Nat} {i k : Nat} {m : Int} (h : BsTo n g i k m) : m = -1 ∨ ∃ b : Nat, m = b ∧ b < n := by
  rcases h with ⟨h, _⟩ | ⟨d, h, _, h2, _⟩
  · exact .inl h
  · exact .inr ⟨d, h, (dmLt h2).1⟩
set_option maxRecDepth 100000 in
set_option maxHeartbeats 4000000 in
theorem rDominators (nm : ByteArray) (C : List I8) (n : Nat) (hn : C.length = n) (A : Option Addr) (c : Nat) (w : World) (h : CdW w A c C) :
    Calls Tryd.prog 15 #[fnV nm A n c] w (GivesE9 (doR C) (cfE C) w) := by
  obtain ⟨W, hW⟩ : ∃ W, w.alloc (.cells #[.string nm, .slice A n c] 24) = W := ⟨_, rfl⟩
  have hbW : Below w.heap.size w W := by rw [← hW]; exact belowAlloc w _
  have hB : Blk W w.heap.size 24 #[.string nm, .slice A n c] := by rw [← hW]; exact Blk.new w _ _
  have k0 : W.cell? ⟨w.heap.size, 0, none⟩ = some (.string nm) := hB.cell 0
  have k1 : W.cell? ⟨w.heap.size, 1, none⟩ = some (.slice A n c) := hB.cell 1
  have HKB := Lib.hid (fun X (hX : Below W.heap.size W X) => (⟨(hB.below' hX).cell 0, (hB.below' hX).cell 1⟩ : X.cell? ⟨w.heap.size, 0, none⟩ = some (.string nm) ∧ X.cell? ⟨w.heap.size, 1, none⟩ = some (.slice A n c)))
  have HCO := Lib.hid (rCk12 nm C n hn A c W (h.below hbW))
  have HCW := Lib.hid (fun X (hX : Below W.heap.size W X) => ((h.below hbW).below hX).rd)
  have HW := Lib.hid hW
  have HBW := Lib.hid hbW
  have hle := h.rd.le
  have hmx := h.rd.max
  rw [hn] at hle
  unfold maxLen at hmx
  clear h hB hW hbW
  by_cases hc : cfE C = 0
  rotate_left
  · unfold fnV at HCO ⊢
    have hne : (cfE C != 0) = true := by simpa using hc
    have e2 : doR C = [] := by unfold doR; rw [if_neg hc]
    rw [e2]
    generalize cfE C = E at HCO hne ⊢
    clear hc e2
    go_enter Tryd.func15, Tryd.ntmps15
    go_wp2_with fail
    rw [HW.out]
    refine HCO.out.mono ?_
    rintro e w1 ⟨rfl, b1⟩
    go_wp2
    go_ret2
    exact ⟨none, 0, rfl, Rd.nil, belowThen HBW.out b1⟩
  have hok := cfOk hc
  have h64 := hok.len
  rw [hn] at h64
  have e20 : doR C = idP n (sc C) n := by unfold doR; rw [if_pos hc, hn]; rfl
  rw [e20, hc]
  rw [hc] at HCO
  clear e20
  have HDM := Lib.hid (fun X (hX : Below W.heap.size W X) => rDomT nm C hok n hn A c X (HCW.out X hX))
  unfold fnV at HCO HDM ⊢
  obtain ⟨g, hg⟩ : ∃ g, sc C = g := ⟨_, rfl⟩
  rw [hg] at HDM ⊢
  clear hc hok hn hg
  go_enter Tryd.func15, Tryd.ntmps15
  go_wp2_with fail
  rw [HW.out]
  refine HCO.out.mono ?_
  rintro e w1 ⟨rfl, b1⟩
  clear k0 k1
  obtain ⟨k0, k1⟩ := HKB.out w1 b1
  go_wp2_with fail
  refine (HDM.out w1 b1).mono ?_
  rintro e B0 ⟨ga, nn, E, rfl, hnn, hra, hE, _, b2⟩
  have HRA := Lib.hid (fun X (hX : Below B0.heap.size B0 X) k (hk : k < nn) => (hX.cell (p := ⟨ga, k, none⟩) hra.lt).trans (hra.cell hk))
  have HEE := Lib.hid hE
  have HNN := Lib.hid hnn
  have HB2 := Lib.hid (belowThen b1 b2)
  have hnb : nn ≤ 4096 := by rw [hnn]; exact Nat.mul_le_mul h64 h64
  clear hra hE hnn b1 b2 k0 k1
  go_wp2_with fail
  go_loopw [7, 8] (fun v jv X => ∃ i : Nat, i ≤ n ∧ jv = .int .i64 i ∧ Hid (OwnI X B0.heap.size v (idP n g i)) ∧ Hid (Below B0.heap.size B0 X)) (fun _ jv _ => n - (intOf jv).toNat)
  case atStart => exact ⟨0, Nat.zero_le _, rfl, Lib.hid (OwnI.nil _ _), Lib.hid (Below.refl _ _)⟩
  case round =>
    obtain ⟨i, hi, rfl, HO, HBI⟩ := hrel
    obtain ⟨A7, c7, rfl, r7, _⟩ := HO.out.rd
    have hpl := idPLen (n := n) (g := g) (k := i)
    by_cases hin : i < n
    · rw [hpl] at HO ⊢
      have HIX := Lib.hid (fun e (he : e < n) j (hj : j < n) => (idxLt he hj : e * n + j < n * n))
      have HRW := Lib.hid (fun k (hk : k < nn) => HRA.out wr HBI.out k hk)
      clear r7
      go_wp2_with fail
      go_loopw [9, 10] (fun bv dv X => ∃ (d : Nat) (best : Int), d ≤ n ∧ bv = .int .i64 best ∧ dv = .int .i64 d ∧ Hid (BsTo n g i d best) ∧ X = wr) (fun _ dv _ => n - (intOf dv).toNat)
      case atStart => exact ⟨0, -1, Nat.zero_le _, rfl, rfl, Lib.hid (bsStart i), rfl⟩
      case round =>
        obtain ⟨d, best, hd, rfl, rfl, HBS, rfl⟩ := hrel
        by_cases hdn : d < n
        · by_cases hdi : d = i
          · have HN := Lib.hid (bsNo HBS.out (.inl hdi))
            have hb : ((d : Int) != (i : Int)) = false := by simp; omega
            go_wp2
            all_goals first
              | (exfalso; omega)
              | go_roundw
            all_goals first
              | exact ⟨d + 1, best, by omega, rfl, by go_num, HN, trivial⟩
              | (simp only [intOf]; omega)
          have hb : ((d : Int) != (i : Int)) = true := by simp; omega
          obtain ⟨dn, hdnn⟩ : ∃ dn, d * n = dn := ⟨_, rfl⟩
          obtain ⟨x, hx⟩ : ∃ x, dn + i = x := ⟨_, rfl⟩
          have hxl : x < nn := by rw [← hx, ← hdnn, HNN.out]; exact HIX.out d hdn i hin
          have hw1 : IntKind.i64.wrap ((d : Int) * (n : Int)) = (dn : Int) := by
            rw [IntKind.wrap_i64, ← hdnn]
            have : ((d * n : Nat) : Int) = (d : Int) * (n : Int) := by push_cast; rfl
            omega
          have hw2 : IntKind.i64.wrap ((dn : Int) + (i : Int)) = (x : Int) := by rw [IntKind.wrap_i64]; omega
          have hx0 : (0 : Int) ≤ x := by omega
          have hx1 : (x : Int) < nn := by omega
          have cx := HRW.out x hxl
          have hEx := HEE.out d i hdn hin
          rw [hdnn, hx] at hEx
          rw [hEx] at cx
          clear hdnn hx hEx
          cases hdm : dmB n g d i with
          | false =>
            have HN := Lib.hid (bsNo HBS.out (.inr hdm))
            rw [hdm] at cx
            clear hdm
            go_wp2
            all_goals first
              | (exfalso; omega)
              | go_roundw
            all_goals first
              | exact ⟨d + 1, best, by omega, rfl, by go_num, HN, trivial⟩
              | (simp only [intOf]; omega)
          | true =>
            rw [hdm] at cx
            rcases bsLow HBS.out with hb1 | ⟨b, hb1, hbn⟩
            · have HN := Lib.hid (bsPut HBS.out hdi hdm (.inl (by omega)))
              subst hb1
              clear hdm
              go_wp2
              all_goals first
                | (exfalso; omega)
                | go_roundw
              all_goals first
                | exact ⟨d + 1, d, by omega, rfl, by go_num, HN, trivial⟩
                | (simp only [intOf]; omega)
            · subst hb1
              have hneg : ¬ ((b : Int) < 0) := by omega
              obtain ⟨bn, hbnn⟩ : ∃ bn, b * n = bn := ⟨_, rfl⟩
              obtain ⟨y, hy⟩ : ∃ y, bn + d = y := ⟨_, rfl⟩
              have hyl : y < nn := by rw [← hy, ← hbnn, HNN.out]; exact HIX.out b hbn d hdn
              have hw3 : IntKind.i64.wrap ((b : Int) * (n : Int)) = (bn : Int) := by
                rw [IntKind.wrap_i64, ← hbnn]
                have : ((b * n : Nat) : Int) = (b : Int) * (n : Int) := by push_cast; rfl
                omega
              have hw4 : IntKind.i64.wrap ((bn : Int) + (d : Int)) = (y : Int) := by rw [IntKind.wrap_i64]; omega
              have hy0 : (0 : Int) ≤ y := by omega
              have hy1 : (y : Int) < nn := by omega
              have cy := HRW.out y hyl
              have hEy := HEE.out b d hbn hdn
              rw [hbnn, hy] at hEy
              rw [hEy] at cy
              clear hbnn hy hEy
              cases hbd : dmB n g b d with
              | true =>
                have HN := Lib.hid (bsPut HBS.out hdi hdm (.inr ⟨b, rfl, hbd⟩))
                rw [hbd] at cy
                clear hdm hbd
                go_wp2
                all_goals first
                  | (exfalso; omega)
                  | go_roundw
                all_goals first
                  | exact ⟨d + 1, d, by omega, rfl, by go_num, HN, trivial⟩
                  | (simp only [intOf]; omega)
              | false =>
                have HN := Lib.hid (bsKeep HBS.out hdm hbd)
                rw [hbd] at cy
                clear hdm hbd
                go_wp2
                all_goals first
                  | (exfalso; omega)
                  | go_roundw
                all_goals first
                  | exact ⟨d + 1, b, by omega, rfl, by go_num, HN, trivial⟩
                  | (simp only [intOf]; omega)
        · obtain rfl : d = n := by omega
          have hid := idEq (bsEnd HBS.out)
          have HPS := Lib.hid (show idP d g (i + 1) = idP d g i ++ [best] by rw [idPS, hid])
          have hz8 := HBI.out.size
          have hlen8 : (idP d g i).length + 1 ≤ 1000000 := by rw [hpl]; omega
          clear hid
          go_wp2_with (at_builtin; refine appI _ rfl (.tmp 59) (.tmp 61) rfl B0.heap.size _ (idP d g i) rfl (HO.out.alloc _) (some ⟨_, 0, none⟩) 1 1 [best] rfl rfl (litI9 _ _ _) (by rw [List.length_singleton]; exact hlen8) (by simp; omega) ?_; intro v1 w4 o1 _ b4; have HO4 := Lib.hid (show OwnI w4 B0.heap.size v1 (idP d g (i + 1)) by rw [HPS.out]; exact o1); have HB4 := Lib.hid (stepA HBI.out b4); clear o1 b4)
          all_goals first
            | (exfalso; omega)
            | go_roundw
          all_goals first
            | exact ⟨i + 1, by omega, by go_num, HO4, HB4⟩
            | (simp only [intOf]; omega)
    · obtain rfl : i = n := by omega
      have HFB := Lib.hid (belowThen HBW.out (belowThen HB2.out HBI.out))
      have HR7 := Lib.hid r7
      clear r7
      go_wp2
      all_goals first
        | (exfalso; omega)
        | (go_ret2; exact ⟨A7, c7, rfl, HR7.out, HFB.out⟩)
end Go.Proofs.YtjoffidlfkmelaaDoor

namespace Go.Proofs.YtjoffidlfkmelaaDoor

/-- Does a back edge of header h begin at x? -/
noncomputable def bgB (n : Nat) (g : Nat → List Nat) (h x : Nat) : Bool := decide (h ∈ g x) && dmB n g h x
/-- The search for the body enters it. -/
noncomputable def alh (n : Nat) (g : Nat → List Nat) (h x : Nat) : Bool := rcB n g (-1) x && decide (x ≠ h)
/-- Those of which x is a successor. -/
def pvr (n : Nat) (g : Nat → List Nat) (x : Nat) : List Nat := (List.range n).filter fun i => decide (x ∈ g i)
theorem pvrMem {n : Nat} {g : Nat → List Nat} {x i : Nat} : i ∈ pvr n g x ↔ i < n ∧ x ∈ g i := by unfold pvr; rw [List.mem_filter, List.mem_range, decide_eq_true_iff]
theorem alhIff {n : Nat} {g : Nat → List Nat} {h x : Nat} : alh n g h x = true ↔ rcB n g (-1) x = true ∧ x ≠ h := by unfold alh; rw [Bool.and_eq_true, decide_eq_true_iff]
theorem rcLt {n : Nat} {g : Nat → List Nat} {d : Int} {x : Nat} (h : rcB n g d x = true) : x < n := (avdIff.1 (rcIff.1 h).right).1
/-- Is x in the loop of h, x not h? -/
noncomputable def bdB (n : Nat) (g : Nat → List Nat) (h x : Nat) : Bool := @decide (∃ s, bgB n g h s = true ∧ Rc (pvr n g) (alh n g h) s x) (Classical.propDecidable _)
theorem bdIff {n : Nat} {g : Nat → List Nat} {h x : Nat} : bdB n g h x = true ↔ ∃ s, bgB n g h s = true ∧ Rc (pvr n g) (alh n g h) s x := by unfold bdB; exact @decide_eq_true_iff _ (Classical.propDecidable _)
/-- The loop of h: the header, and the others in order. -/
noncomputable def lpL (n : Nat) (g : Nat → List Nat) (h : Nat) : List Int := (h : Int) :: ((List.range n).filter (bdB n g h)).map Int.ofNat
/-- Does a back edge lead to h? -/
noncomputable def bkB (n : Nat) (g : Nat → List Nat) (h : Nat) : Bool := (List.range n).any (bgB n g h)
/-- The loops of the headers below k. -/
noncomputable def lpP (n : Nat) (g : Nat → List Nat) (k : Nat) : List (List Int) := ((List.range k).filter (bkB n g)).map (lpL n g)
theorem lpPS {n : Nat} {g : Nat → List Nat} {k : Nat} : lpP n g (k + 1) = lpP n g k ++ if bkB n g k = true then [lpL n g k] else [] := by
  unfold lpP
  rw [List.range_succ, List.filter_append, List.map_append, List.filter_cons, List.filter_nil]
  cases bkB n g k <;> rfl
section
variable {n : Nat} {g : Nat → List Nat} {h : Nat} {T E : Nat → Bool} {i p : Nat}
theorem bgOn {x : Nat} (hb : bgB n g h x = true) : rcB n g (-1) x = true := by
  unfold bgB at hb
  rw [Bool.and_eq_true] at hb
  exact rcIff.2 (dmIff.1 hb.2).1
/-! The table in which the back edges' beginnings are noted. -/
def BgTo (n : Nat) (g : Nat → List Nat) (h i : Nat) (E : Nat → Bool) : Prop := ∀ x, x < n → E x = (decide (x < i) && bgB n g h x)
theorem bg0 : BgTo n g h 0 (fun _ => false) := fun x _ => by rw [decide_eq_false (Nat.not_lt_zero x)]; rfl
/-- Those of i's successors l that come below k have been looked at. -/
def BgIn (n : Nat) (g : Nat → List Nat) (h i : Nat) (l : List Int) (k : Nat) (E : Nat → Bool) : Prop := ∀ x, x < n → E x = if x = i then decide ((h : Int) ∈ l.take k) && dmB n g h i else (decide (x < i) && bgB n g h x)
theorem bgIn0 {l : List Int} (hE : BgTo n g h i E) : BgIn n g h i l 0 E := fun x hx => by
  rw [hE x hx]
  split
  · rename_i e
    subst e
    rw [decide_eq_false (Nat.lt_irrefl x)]
    simp
  · rfl
theorem bgInNo {l : List Int} {k : Nat} (hE : BgIn n g h i l k E) (hk : k < l.length) (hn : ¬ (l[k] = (h : Int) ∧ dmB n g h i = true)) : BgIn n g h i l (k + 1) E := fun x hx => by
  rw [hE x hx]
  split
  · rename_i e
    cases hd : dmB n g h i
    · rw [Bool.and_false, Bool.and_false]
    · rw [Bool.and_true, Bool.and_true, List.take_succ_eq_append_getElem hk]
      refine decide_eq_decide.2 ?_
      rw [List.mem_append, List.mem_singleton]
      exact ⟨.inl, fun hh => hh.elim id fun hh => absurd ⟨hh.symm, hd⟩ hn⟩
  · rfl
theorem bgInYes {l : List Int} {k : Nat} (hE : BgIn n g h i l k E) (hk : k < l.length) (h1 : l[k] = (h : Int)) (h2 : dmB n g h i = true) : BgIn n g h i l (k + 1) (with_ E i) := fun x hx => by
  unfold with_
  rw [hE x hx]
  by_cases e : x = i
  · rw [if_pos e, if_pos e, decide_eq_true e, Bool.or_true, h2, Bool.and_true]
    refine (decide_eq_true ?_).symm
    rw [List.take_succ_eq_append_getElem hk, h1]
    simp
  · rw [if_neg e, if_neg e, decide_eq_false e, Bool.or_false]
theorem bgInEnd {l : List Int} {k : Nat} (hE : BgIn n g h i l k E) (hk : l.length ≤ k) (hl : (h : Int) ∈ l ↔ h ∈ g i) : BgTo n g h (i + 1) E := fun x hx => by
  rw [hE x hx, List.take_of_length_le hk]
  by_cases e : x = i
  · subst e
    rw [if_pos rfl, decide_eq_true (Nat.lt_succ_self x), Bool.true_and]
    unfold bgB
    rw [decide_eq_decide.2 hl]
  · rw [if_neg e]
    congr 1
    exact decide_eq_decide.2 (by omega)
theorem bgEnd (hE : BgTo n g h n E) {x : Nat} (hx : x < n) : E x = bgB n g h x := by rw [hE x hx, decide_eq_true hx, Bool.true_and]
/-! The passes. -/
/-- What the table holds behind p passes. -/
structure LpPs (n : Nat) (g : Nat → List Nat) (h p : Nat) (T : Nat → Bool) : Prop where
  ps : PsT n (pvr n g) (alh n g h) (bgB n g h) p T
  on : ∀ x, x < n → T x = true → rcB n g (-1) x = true
theorem lpStart (hT : ∀ x, x < n → T x = bgB n g h x) : LpPs n g h 0 T :=
  ⟨psStart (fun _ hx => rcLt (alhIff.1 hx).1) fun x hx => hT x (rcLt (alhIff.1 hx).1), fun x hx hTx => bgOn (by rw [← hT x hx]; exact hTx)⟩
/-- A pass over T that has seen the instructions below i: it holds E now. -/
structure LpSt (n : Nat) (g : Nat → List Nat) (h : Nat) (T : Nat → Bool) (i : Nat) (E : Nat → Bool) : Prop where
  up : ∀ x, x < n → T x = true → E x = true
  sub : ∀ x, alh n g h x = true → E x = true → ∃ s, bgB n g h s = true ∧ Rc (pvr n g) (alh n g h) s x
  on : ∀ x, x < n → E x = true → rcB n g (-1) x = true
  cl : ∀ j, j < i → alh n g h j = true → ∀ y, y ∈ g j → alh n g h y = true → T y = true → E j = true
theorem lsStart (hT : LpPs n g h p T) : LpSt n g h T 0 T := ⟨fun _ _ h => h, hT.ps.sub, hT.on, (fun _ h => absurd h (Nat.not_lt_zero _))⟩
theorem lsNext (hT : LpPs n g h p T) (hw : LpSt n g h T n E) : LpPs n g h (p + 1) E :=
  ⟨psNext (fun _ hx => rcLt (alhIff.1 hx).1) hT.ps (fun x hx => hw.up x (rcLt (alhIff.1 hx).1)) hw.sub fun y hy hTy x hx hax => hw.cl x (rcLt (alhIff.1 hax).1) hax y (pvrMem.1 hx).2 hy hTy, hw.on⟩
/-- Those of i's successors l that come below k have been looked at. -/
structure LsIn (n : Nat) (g : Nat → List Nat) (h : Nat) (T : Nat → Bool) (i : Nat) (l : List Int) (k : Nat) (E : Nat → Bool) : Prop extends LpSt n g h T i E where
  put : ∀ (j y : Nat), j < k → l[j]? = some (y : Int) → rcB n g (-1) i = true → alh n g h y = true → T y = true → E i = true
theorem lsIn0 {l : List Int} (hw : LpSt n g h T i E) : LsIn n g h T i l 0 E := ⟨hw, fun _ _ h => absurd h (Nat.not_lt_zero _)⟩
theorem lsPut {l : List Int} {k y : Nat} (hw : LsIn n g h T i l k E) (hi : i < n) (hy : y ∈ g i) (hon : rcB n g (-1) i = true) (hyn : y < n) (hyh : y ≠ h) (hE : E y = true) : LsIn n g h T i l (k + 1) (with_ E i) := by
  refine ⟨⟨fun x hx hT => withIff.2 (.inl (hw.up x hx hT)), fun x ha hx => ?_, fun x hxn hx => ?_, fun j hj ha z hz hza hT => withIff.2 (.inl (hw.cl j hj ha z hz hza hT))⟩, fun _ _ _ _ _ _ _ => withIff.2 (.inr rfl)⟩
  · rcases withIff.1 hx with hx | rfl
    · exact hw.sub x ha hx
    · obtain ⟨s, hs, hr⟩ := hw.sub y (alhIff.2 ⟨hw.on y hyn hE, hyh⟩) hE
      exact ⟨s, hs, hr.snoc (pvrMem.2 ⟨hi, hy⟩) ha⟩
  · rcases withIff.1 hx with hx | rfl
    · exact hw.on x hxn hx
    · exact hon
theorem lsKeep {l : List Int} {k y : Nat} (hw : LsIn n g h T i l k E) (hl : l[k]? = some (y : Int)) (hn : ¬ (rcB n g (-1) i = true ∧ y < n ∧ y ≠ h ∧ E y = true)) : LsIn n g h T i l (k + 1) E :=
  ⟨hw.toLpSt, fun j z hj hlz hon hz hT => by
    by_cases e : j = k
    · subst e
      rw [hl] at hlz
      have e2 : (y : Int) = z := Option.some.inj hlz
      obtain rfl : y = z := by omega
      have hzn := rcLt (alhIff.1 hz).1
      exact absurd ⟨hon, hzn, (alhIff.1 hz).2, hw.up y hzn hT⟩ hn
    · exact hw.put j z (by omega) hlz hon hz hT⟩
theorem lsEnd {l : List Int} {k : Nat} (hw : LsIn n g h T i l k E) (hk : l.length ≤ k) (hl : ∀ y, y ∈ g i → (y : Int) ∈ l) : LpSt n g h T (i + 1) E := ⟨hw.up, hw.sub, hw.on, fun j hj ha y hy hya hT => by
  by_cases e : j = i
  · subst e
    obtain ⟨q, hq⟩ := List.mem_iff_getElem?.1 (hl y hy)
    exact hw.put q y (Nat.lt_of_lt_of_le (List.getElem?_eq_some_iff.1 hq).1 hk) hq (alhIff.1 ha).1 hya hT
  · exact hw.cl j (by omega) ha y hy hya hT⟩
theorem lpRes (hT : LpPs n g h n T) {x : Nat} (hx : x < n) : (T x && decide (x ≠ h)) = bdB n g h x := by
  rw [Bool.eq_iff_iff, Bool.and_eq_true, decide_eq_true_iff, bdIff]
  constructor
  · rintro ⟨h1, h2⟩
    exact (psEnd hT.ps (alhIff.2 ⟨hT.on x hx h1, h2⟩)).1 h1
  · rintro ⟨s, hs, hr⟩
    have ha := hr.right
    exact ⟨(psEnd hT.ps ha).2 ⟨s, hs, hr⟩, (alhIff.1 ha).2⟩
end
/-- The others of the loop, those below k. -/
noncomputable def bdP (n : Nat) (g : Nat → List Nat) (h k : Nat) : List Int := (h : Int) :: ((List.range k).filter (bdB n g h)).map Int.ofNat
theorem bdPS {n : Nat} {g : Nat → List Nat} {h k : Nat} : bdP n g h (k + 1) = bdP n g h k ++ if bdB n g h k = true then [(k : Int)] else [] := by
  unfold bdP
  rw [List.range_succ, List.filter_append, List.map_append, List.filter_cons, List.filter_nil]
  cases bdB n g h k <;> rfl
theorem bdPLen {n : Nat} {g : Nat → List Nat} {h k : Nat} : (bdP n g h k).length ≤ k + 1 := by
  unfold bdP
  rw [List.length_cons, List.length_map]
  have : ((List.range k).filter (bdB n g h)).length ≤ k := Nat.le_trans (List.length_filter_le _ _) (by simp)
  omega
/-! Two loops; the header dominates. -/
section
variable {n : Nat} {g : Nat → List Nat} {h : Nat}
theorem bdDom {x : Nat} (hx : bdB n g h x = true) : dmB n g h x = true := by
  obtain ⟨s, hs, hr⟩ := bdIff.1 hx
  have h0 : dmB n g h s = true := by unfold bgB at hs; rw [Bool.and_eq_true] at hs; exact hs.2
  refine hr.fwd (P := fun x => dmB n g h x = true) h0 fun u v hu hp hv hav => ?_
  obtain ⟨hvn, hvu⟩ := pvrMem.1 hv
  have hun := rcLt (alhIff.1 hu).1
  refine dmIff.2 ⟨rcIff.1 (alhIff.1 hav).1, fun hno => (dmIff.1 hp).2 (hno.snoc hvu (avdIff.2 ⟨hun, ?_⟩))⟩
  have := (alhIff.1 hu).2
  omega
end
end Go.Proofs.YtjoffidlfkmelaaDoor

namespace Go.Proofs.YtjoffidlfkmelaaDoor
open Go Go.RowKit Go.Shelf

theorem ownMono9 {w : World} {base base' : Nat} {v : Value} {l : List Int} (h : OwnI w base v l) (hb : base' ≤ base) : OwnI w base' v l := by
  unfold OwnI at h ⊢
  refine ⟨h.1, h.2.imp id ?_⟩
  rintro ⟨g, cap, cur, h1, h2, h3⟩
  exact ⟨g, cap, cur, h1, Nat.le_trans hb h2, h3⟩
/-- The call returns a row of its own. -/
def GivesO9 (l : List Int) (w : World) (e : Ending) (w' : World) : Prop := ∃ A c, e = .returned (.slice A l.length c) ∧ OwnI w' w.heap.size (.slice A l.length c) l ∧ Below w.heap.size w w'
set_option maxRecDepth 100000 in
set_option maxHeartbeats 8000000 in
theorem rLoop (nm : ByteArray) (C : List I8) (hok : CfOk C) (n : Nat) (hn : C.length = n) (h : Nat) (hh : h < n) (gd nn : Nat) (Ed : Nat → Bool) (A : Option Addr) (c : Nat) (w : World) (hr : RdE 8 EI w A c C) (hd : RowB w gd nn Ed) (hnn : nn = n * n) (hE : ∀ d i, d < n → i < n → Ed (d * n + i) = dmB n (sc C) d i) :
    Calls Tryd.prog 39 #[fnV nm A n c, .slice (some ⟨gd, 0, none⟩) nn nn, .int .i64 (h : Int)] w (GivesO9 (lpL n (sc C) h) w) := by
  obtain ⟨W, hW⟩ : ∃ W, w.alloc (.cells #[.string nm, .slice A n c] 24) = W := ⟨_, rfl⟩
  have hbW : Below w.heap.size w W := by rw [← hW]; exact belowAlloc w _
  have hB : Blk W w.heap.size 24 #[.string nm, .slice A n c] := by rw [← hW]; exact Blk.new w _ _
  have HKB := Lib.hid (fun X (hX : Below W.heap.size W X) => (⟨(hB.below' hX).cell 0, (hB.below' hX).cell 1⟩ : X.cell? ⟨w.heap.size, 0, none⟩ = some (.string nm) ∧ X.cell? ⟨w.heap.size, 1, none⟩ = some (.slice A n c)))
  obtain ⟨k0, k1⟩ := HKB.out W (Below.refl _ _)
  have HSC := Lib.hid (fun i (hi : i < n) X (hX : Below W.heap.size W X) => rSucc nm C hok n hn i hi A c X ((hr.below stabI hbW).below stabI hX))
  have HWO := Lib.hid (fun X (hX : Below W.heap.size W X) => rWithout nm C hok n hn (-1) A c X ((hr.below stabI hbW).below stabI hX))
  have hdl := hd.lt
  have hds := hbW.size
  have HDC := Lib.hid (fun X (hX : Below W.heap.size W X) i (hi : i < n) => by
    have e := idxLt hh hi
    rw [← hnn] at e
    have h1 := (hX.cell (p := ⟨gd, h * n + i, none⟩) (Nat.lt_of_lt_of_le hdl hds)).trans ((hbW.cell (p := ⟨gd, h * n + i, none⟩) hdl).trans (hd.cell e))
    rw [hE h i hh hi] at h1
    exact (⟨e, h1⟩ : h * n + i < nn ∧ X.cell? ⟨gd, h * n + i, none⟩ = some (.bool (dmB n (sc C) h i))))
  have HLE := Lib.hid (fun i y (hy : y ∈ sc C i) => (scLe hok hy).2)
  rw [hn] at HLE
  have HMEM := Lib.hid (fun i (x : Int) => scSMem (C := C) (k := i) (x := x))
  unfold fnV at HSC HWO ⊢
  have hle := hr.le
  have hmx := hr.max
  have h64 := hok.len
  rw [hn] at hle h64
  unfold maxLen at hmx
  have hnb : nn ≤ 4096 := by rw [hnn]; exact Nat.mul_le_mul h64 h64
  obtain ⟨i0, hi, hz0, hz1, hz2⟩ := info_parts infoBool9
  have HBY := Lib.hid (show i0.bytes * n ≤ 281474976710656 by rw [hz2]; omega)
  have HNM := Lib.hid (show n ≤ maxLen by unfold maxLen; omega)
  obtain ⟨g, hg⟩ : ∃ g, sc C = g := ⟨_, rfl⟩
  rw [hg] at HLE HMEM HDC HWO ⊢
  obtain ⟨sl, hsl⟩ : ∃ sl, scS C = sl := ⟨_, rfl⟩
  rw [hsl] at HSC HMEM
  have HSL := Lib.hid (fun i => (show (sl i).length ≤ 2 by rw [← hsl]; exact scSLen))
  obtain ⟨hN, hhN⟩ : ∃ hN, h * n = hN := ⟨_, rfl⟩
  rw [hhN] at HDC
  have hhNl : hN ≤ nn := by rw [← hhN, hnn]; exact Nat.mul_le_mul_right n (Nat.le_of_lt hh)
  have hw1 : IntKind.i64.wrap ((h : Int) * (n : Int)) = (hN : Int) := by
    rw [IntKind.wrap_i64, ← hhN]
    have : ((h * n : Nat) : Int) = (h : Int) * (n : Int) := by push_cast; rfl
    omega
  have HBW := Lib.hid hbW
  have HWE := Lib.hid hW
  have hh0 : (0 : Int) ≤ h := by omega
  have hzw : W.heap.size ≤ W.heap.size := Nat.le_refl _
  clear hB hW hr hok hn hg hsl hbW hd hE hnn hhN hdl hds
  go_enter Tryd.func39, Tryd.ntmps39
  go_wp2_with (first
    | (at_make; rw [HWE.out]; refine wpList_make_full _ rfl (.tmp 22) (.tmp 22) 38 rfl 0 4 i0 _ 1 Tryd.underlying38 hi hz0 hz1 .i64 .i64 _ _ n rfl rfl rfl rfl HBY.out HNM.out (Nat.zero_le _) ?_; intro w2 o2 g2; have HR0 := Lib.hid (RowB.made o2); have HB0 := Lib.hid (show Below W.heap.size W w2 from (Below.refl _ W).grown g2 (Nat.le_refl _) (fun k hk => by cases hk)); clear o2 g2)
    | fail)
  clear hi hz0 hz1 hz2 k0 k1
  go_loopw [9] (fun v X => ∃ (i : Nat) (E : Nat → Bool), i ≤ n ∧ v = .int .i64 i ∧ Hid (BgTo n g h i E) ∧ Hid (RowB X W.heap.size n E) ∧ Hid (Below W.heap.size W X)) (fun v _ => n - (intOf v).toNat)
  case atStart => exact ⟨0, _, Nat.zero_le _, rfl, Lib.hid bg0, HR0, HB0⟩
  case round =>
    clear HR0 HB0
    obtain ⟨i, E, hi, rfl, HBG, HRW, HB⟩ := hrel
    obtain ⟨k0, k1⟩ := HKB.out wr HB.out
    by_cases hin : i < n
    · have HC := Lib.hid (HSC.out i hin wr HB.out)
      go_wp2_with fail
      refine HC.out.mono ?_
      rintro e w4 ⟨A8, c8, rfl, r8, b4⟩
      have hq2 := HSL.out i
      obtain ⟨q, hq⟩ : ∃ q, (sl i).length = q := ⟨_, rfl⟩
      have hle8 := r8.le
      have hmx8 := r8.max
      rw [hq] at hle8 hq2 ⊢
      unfold maxLen at hmx8
      have HQ := Lib.hid hq
      have HR4 := Lib.hid (HRW.out.chg (Chg.ofBelow b4 fun _ => True) trivial)
      have HB4 := Lib.hid (belowThen HB.out b4)
      have HR8 := Lib.hid r8
      have HNE : Hid (∀ ad, A8 = some ad → 0 < (sl i).length → ad.block ≠ W.heap.size) := Lib.hid fun ad ha hl => by
        obtain ⟨ad', e', _, hc⟩ := r8.one hl
        rw [ha] at e'
        injection e' with e'
        subst e'
        have := HR4.out.bools9 hc (fun b e => by cases e)
        rwa [addBlock] at this
      have HI0 := Lib.hid (bgIn0 (l := sl i) HBG.out)
      obtain ⟨x, hx⟩ : ∃ x, hN + i = x := ⟨_, rfl⟩
      have HDX := Lib.hid (fun X (hX : Below W.heap.size W X) => HDC.out X hX i hin)
      rw [hx] at HDX
      have hw2 : IntKind.i64.wrap ((hN : Int) + (i : Int)) = (x : Int) := by rw [IntKind.wrap_i64]; omega
      clear r8 b4 hq k0 k1 HRW HB HBG hx
      go_wp2_with fail
      go_loopw [11] (fun v X => ∃ (k : Nat) (E' : Nat → Bool), k ≤ q ∧ v = .int .i64 k ∧ Hid (BgIn n g h i (sl i) k E') ∧ Hid (RowB X W.heap.size n E') ∧ Hid (Rd X A8 c8 (sl i)) ∧ Hid (Below W.heap.size W X)) (fun v _ => q - (intOf v).toNat)
      case atStart => exact ⟨0, E, Nat.zero_le _, rfl, HI0, HR4, HR8, HB4⟩
      case round =>
        clear HI0 HR4 HR8 HB4
        obtain ⟨k, E', hk, rfl, HWI, HR5, HR9, HB5⟩ := hrel
        have hk0 : (0 : Int) ≤ k := by omega
        have hi0 : (0 : Int) ≤ i := by omega
        have hi1 : (i : Int) < n := by omega
        by_cases hkq : k < q
        · have hkl : k < (sl i).length := by rw [HQ.out]; exact hkq
          have hk1 : (k : Int) < q := by omega
          obtain ⟨ad, eA, _, cl⟩ := HR9.out.one hkl
          obtain ⟨y, hy, hyx⟩ := (HMEM.out i (sl i)[k]).1 (List.getElem_mem hkl)
          rw [hyx] at cl
          obtain ⟨hxl, cx⟩ := HDX.out wr HB5.out
          have hx0 : (0 : Int) ≤ x := by omega
          have hx1 : (x : Int) < nn := by omega
          by_cases hyh : y = h
          · have hb9 : ((y : Int) == (h : Int)) = true := by simp; omega
            cases hdm : dmB n g h i with
            | true =>
              rw [hdm] at cx
              have HN := Lib.hid (bgInYes HWI.out hkl (by rw [hyx]; omega) hdm)
              have HR6 := Lib.hid (HR5.out.set i)
              have HB6 := Lib.hid (belowSet9 HB5.out ⟨W.heap.size, i, none⟩ (.bool true) hzw)
              have HR10 := Lib.hid (HR9.out.chg (Chg.setCell wr ⟨W.heap.size, i, none⟩ (.bool true)) HNE.out)
              have cy := HR5.out.cell hin
              have fy := HR5.out.frozen i
              subst eA
              clear hy hyx hyh hdm
              go_wp2
              all_goals first
                | (exfalso; omega)
                | go_roundw
              all_goals first
                | exact ⟨k + 1, with_ E' i, by omega, by go_num, HN, HR6, HR10, HB6⟩
                | (simp only [intOf]; omega)
            | false =>
              rw [hdm] at cx
              have HN := Lib.hid (bgInNo HWI.out hkl (fun hh => by rw [hdm] at hh; cases hh.2))
              subst eA
              clear hy hyx hyh hdm
              go_wp2
              all_goals first
                | (exfalso; omega)
                | go_roundw
              all_goals first
                | exact ⟨k + 1, E', by omega, by go_num, HN, HR5, HR9, HB5⟩
                | (simp only [intOf]; omega)
          · have hb9 : ((y : Int) == (h : Int)) = false := by simp; omega
            have HN := Lib.hid (bgInNo HWI.out hkl (fun hh => by rw [hyx] at hh; have := hh.1; omega))
            subst eA
            clear hy hyx hyh
            go_wp2
            all_goals first
              | (exfalso; omega)
              | go_roundw
            all_goals first
              | exact ⟨k + 1, E', by omega, by go_num, HN, HR5, HR9, HB5⟩
              | (simp only [intOf]; omega)
        · have HN := Lib.hid (bgInEnd HWI.out (by rw [HQ.out]; omega) ((HMEM.out i (h : Int)).trans ⟨fun ⟨y, hy, e⟩ => (show h = y by omega) ▸ hy, fun hy => ⟨h, hy, rfl⟩⟩))
          go_wp2
          all_goals first
            | (exfalso; omega)
            | go_roundw
          all_goals first
            | exact ⟨i + 1, E', by omega, by go_num, HN, HR5, HB5⟩
            | (simp only [intOf]; omega)
    · have ein : n = i := by omega
      subst ein
      have HPS0 := Lib.hid (lpStart fun x hx => bgEnd HBG.out hx)
      have HC := Lib.hid (HWO.out wr HB.out)
      go_wp2_with fail
      refine HC.out.mono ?_
      rintro e w5 ⟨g5, n5, E5, rfl, hr5, hle5, hmx5, he5, hlo5, b5⟩
      have hzr := HRW.out.lt
      have hne5 : g5 ≠ W.heap.size := by omega
      have HR5 := Lib.hid hr5
      have HE5 := Lib.hid he5
      have HRT := Lib.hid (HRW.out.chg (Chg.ofBelow b5 fun _ => True) trivial)
      have HB5 := Lib.hid (belowThen HB.out b5)
      clear hr5 he5 b5 HRW HB HBG HC k0 k1 hin hi HDC
      go_wp2_with fail
      go_loopw [13] (fun v X => ∃ (p : Nat) (T : Nat → Bool), p ≤ n ∧ v = .int .i64 p ∧ Hid (LpPs n g h p T) ∧ Hid (RowB X W.heap.size n T) ∧ Hid (RowB X g5 n5 E5) ∧ Hid (Below W.heap.size W X)) (fun v _ => n - (intOf v).toNat)
      case atStart => exact ⟨0, E, Nat.zero_le _, rfl, HPS0, HRT, HR5, HB5⟩
      case round =>
        clear HPS0 HRT HR5 HB5
        obtain ⟨p, T, hp, rfl, HP, HRW, HR5, HB⟩ := hrel
        by_cases hpn : p < n
        · have HW0 := Lib.hid (lsStart HP.out)
          go_wp2_with fail
          go_loopw [14] (fun v X => ∃ (i : Nat) (E : Nat → Bool), i ≤ n ∧ v = .int .i64 i ∧ Hid (LpSt n g h T i E) ∧ Hid (RowB X W.heap.size n E) ∧ Hid (RowB X g5 n5 E5) ∧ Hid (Below W.heap.size W X)) (fun v _ => n - (intOf v).toNat)
          case atStart => exact ⟨0, T, Nat.zero_le _, rfl, HW0, HRW, HR5, HB⟩
          case round =>
            clear HW0 HRW HR5 HB
            obtain ⟨i, E, hi, rfl, HWS, HRW, HR5, HB⟩ := hrel
            obtain ⟨k0, k1⟩ := HKB.out wr HB.out
            by_cases hin : i < n
            · have HC := Lib.hid (HSC.out i hin wr HB.out)
              go_wp2_with fail
              refine HC.out.mono ?_
              rintro e w4 ⟨A8, c8, rfl, r8, b4⟩
              have hq2 := HSL.out i
              obtain ⟨q, hq⟩ : ∃ q, (sl i).length = q := ⟨_, rfl⟩
              have hle8 := r8.le
              have hmx8 := r8.max
              rw [hq] at hle8 hq2 ⊢
              unfold maxLen at hmx8
              have HQ := Lib.hid hq
              have HR4 := Lib.hid (HRW.out.chg (Chg.ofBelow b4 fun _ => True) trivial)
              have HR54 := Lib.hid (HR5.out.chg (Chg.ofBelow b4 fun _ => True) trivial)
              have HB4 := Lib.hid (belowThen HB.out b4)
              have HR8 := Lib.hid r8
              have HNE : Hid (∀ ad, A8 = some ad → 0 < (sl i).length → ad.block ≠ W.heap.size) := Lib.hid fun ad ha hl => by
                obtain ⟨ad', e', _, hc⟩ := r8.one hl
                rw [ha] at e'
                injection e' with e'
                subst e'
                have := HR4.out.bools9 hc (fun b e => by cases e)
                rwa [addBlock] at this
              have HI0 := Lib.hid (lsIn0 (l := sl i) HWS.out)
              clear r8 b4 hq k0 k1 HRW HR5 HB HWS HC
              go_wp2_with fail
              go_loopw [16] (fun v X => ∃ (k : Nat) (E' : Nat → Bool), k ≤ q ∧ v = .int .i64 k ∧ Hid (LsIn n g h T i (sl i) k E') ∧ Hid (RowB X W.heap.size n E') ∧ Hid (RowB X g5 n5 E5) ∧ Hid (Rd X A8 c8 (sl i)) ∧ Hid (Below W.heap.size W X)) (fun v _ => q - (intOf v).toNat)
              case atStart => exact ⟨0, E, Nat.zero_le _, rfl, HI0, HR4, HR54, HR8, HB4⟩
              case round =>
                clear HI0 HR4 HR54 HR8 HB4
                obtain ⟨k, E', hk, rfl, HWI, HR6, HR5, HR9, HB5⟩ := hrel
                have hk0 : (0 : Int) ≤ k := by omega
                have hi0 : (0 : Int) ≤ i := by omega
                have hi1 : (i : Int) < n := by omega
                have hi5 : (i : Int) < n5 := by omega
                by_cases hkq : k < q
                · have hkl : k < (sl i).length := by rw [HQ.out]; exact hkq
                  have hk1 : (k : Int) < q := by omega
                  obtain ⟨ad, eA, _, cl⟩ := HR9.out.one hkl
                  obtain ⟨y, hy, hyx⟩ := (HMEM.out i (sl i)[k]).1 (List.getElem_mem hkl)
                  rw [hyx] at cl
                  have HGK := Lib.hid (show (sl i)[k]? = some (y : Int) by rw [List.getElem?_eq_getElem hkl, hyx])
                  have c5 := HR5.out.cell (i := i) (by omega)
                  rw [HE5.out i hin] at c5
                  have hy0 : (0 : Int) ≤ y := by omega
                  cases hon : rcB n g (-1) i with
                  | false =>
                    rw [hon] at c5
                    have HN := Lib.hid (lsKeep HWI.out HGK.out (fun hh => by rw [hon] at hh; cases hh.1))
                    subst eA
                    clear hy hyx hon
                    go_wp2
                    all_goals first
                      | (exfalso; omega)
                      | go_roundw
                    all_goals first
                      | exact ⟨k + 1, E', by omega, by go_num, HN, HR6, HR5, HR9, HB5⟩
                      | (simp only [intOf]; omega)
                  | true =>
                    rw [hon] at c5
                    by_cases hyn : y < n
                    · have d1 : decide ((y : Int) < (n : Int)) = true := decide_eq_true (by omega)
                      have hyn2 : (y : Int) < n := by omega
                      have cy := HR6.out.cell hyn
                      by_cases hyh : y = h
                      · have hb9 : ((y : Int) != (h : Int)) = false := by simp; omega
                        have HN := Lib.hid (lsKeep HWI.out HGK.out (fun hh => hh.2.2.1 hyh))
                        subst eA
                        clear hy hyx hon hyh
                        go_wp2
                        all_goals first
                          | (exfalso; omega)
                          | go_roundw
                        all_goals first
                          | exact ⟨k + 1, E', by omega, by go_num, HN, HR6, HR5, HR9, HB5⟩
                          | (simp only [intOf]; omega)
                      · have hb9 : ((y : Int) != (h : Int)) = true := by simp; omega
                        cases hEy : E' y with
                        | false =>
                          rw [hEy] at cy
                          have HN := Lib.hid (lsKeep HWI.out HGK.out (fun hh => by rw [hEy] at hh; cases hh.2.2.2))
                          subst eA
                          clear hy hyx hon hyh hEy
                          go_wp2
                          all_goals first
                            | (exfalso; omega)
                            | go_roundw
                          all_goals first
                            | exact ⟨k + 1, E', by omega, by go_num, HN, HR6, HR5, HR9, HB5⟩
                            | (simp only [intOf]; omega)
                        | true =>
                          rw [hEy] at cy
                          have HN := Lib.hid (lsPut (l := sl i) (k := k) HWI.out hin hy hon hyn hyh hEy)
                          have HR7 := Lib.hid (HR6.out.set i)
                          have HB6 := Lib.hid (belowSet9 HB5.out ⟨W.heap.size, i, none⟩ (.bool true) hzw)
                          have HR10 := Lib.hid (HR9.out.chg (Chg.setCell wr ⟨W.heap.size, i, none⟩ (.bool true)) HNE.out)
                          have HR55 := Lib.hid (HR5.out.chg (Chg.setCell wr ⟨W.heap.size, i, none⟩ (.bool true)) hne5)
                          have ci := HR6.out.cell hin
                          have fi := HR6.out.frozen i
                          subst eA
                          clear hy hyx hon hyh hEy
                          go_wp2
                          all_goals first
                            | (exfalso; omega)
                            | go_roundw
                          all_goals first
                            | exact ⟨k + 1, with_ E' i, by omega, by go_num, HN, HR7, HR55, HR10, HB6⟩
                            | (simp only [intOf]; omega)
                    · have d1 : decide ((y : Int) < (n : Int)) = false := decide_eq_false (by omega)
                      have hyn2 : ¬ ((y : Int) < n) := by omega
                      have HN := Lib.hid (lsKeep HWI.out HGK.out (fun hh => hyn hh.2.1))
                      subst eA
                      clear hy hyx hon
                      go_wp2
                      all_goals first
                        | (exfalso; omega)
                        | go_roundw
                      all_goals first
                        | exact ⟨k + 1, E', by omega, by go_num, HN, HR6, HR5, HR9, HB5⟩
                        | (simp only [intOf]; omega)
                · have HN := Lib.hid (lsEnd HWI.out (by rw [HQ.out]; omega) fun y hy => (HMEM.out i (y : Int)).2 ⟨y, hy, rfl⟩)
                  go_wp2
                  all_goals first
                    | (exfalso; omega)
                    | go_roundw
                  all_goals first
                    | exact ⟨i + 1, E', by omega, by go_num, HN, HR6, HR5, HB5⟩
                    | (simp only [intOf]; omega)
            · have ein : n = i := by omega
              subst ein
              have HPN := Lib.hid (lsNext HP.out HWS.out)
              go_wp2
              all_goals first
                | (exfalso; omega)
                | go_roundw
              all_goals first
                | exact ⟨p + 1, E, by omega, by go_num, HPN, HRW, HR5, HB⟩
                | (simp only [intOf]; omega)
        · have epn : n = p := by omega
          subst epn
          rename World => B0
          have HFN := Lib.hid (fun x (hx : x < n) => lpRes HP.out hx)
          obtain ⟨V, hV⟩ : ∃ V, B0.alloc (.cells #[.int .i64 (h : Int)] 3) = V := ⟨_, rfl⟩
          have hbV : Below B0.heap.size B0 V := by rw [← hV]; exact belowAlloc B0 _
          have HO0 : Hid (OwnI V B0.heap.size (.slice (some ⟨B0.heap.size, 0, none⟩) 1 1) (bdP n g h 0)) := by
            rw [← hV]
            exact Lib.hid (ownLit9 B0 B0.heap.size (Nat.le_refl _) h)
          have HC9 := Lib.hid (fun X (hX : Below B0.heap.size B0 X) j (hj : j < n) => (hX.cell (p := ⟨W.heap.size, j, none⟩) HRW.out.lt).trans (HRW.out.cell hj))
          have HBZ := Lib.hid HB.out.size
          have HBV := Lib.hid hbV
          have HBF := Lib.hid (fun X (hX : Below B0.heap.size B0 X) => belowThen HBW.out (belowThen HB.out hX))
          have HVE := Lib.hid hV
          clear hV hbV HRW HR5 HB hpn hp
          go_wp2_with fail
          all_goals first
            | (exfalso; omega)
            | skip
          rw [HVE.out]
          go_loopw [17, 18] (fun v jv X => ∃ j : Nat, j ≤ n ∧ jv = .int .i64 j ∧ Hid (OwnI X B0.heap.size v (bdP n g h j)) ∧ Hid (Below B0.heap.size B0 X)) (fun _ jv _ => n - (intOf jv).toNat)
          case atStart => exact ⟨0, Nat.zero_le _, rfl, HO0, HBV⟩
          case round =>
            clear HO0 HBV
            obtain ⟨j, hj, rfl, HO, HBJ⟩ := hrel
            obtain ⟨A7, c7, rfl, r7, _⟩ := HO.out.rd
            have hpl := bdPLen (n := n) (g := g) (h := h) (k := j)
            by_cases hjn : j < n
            · have cj := HC9.out wr HBJ.out j hjn
              have hfn := HFN.out j hjn
              have HPS := Lib.hid (bdPS (n := n) (g := g) (h := h) (k := j))
              have hj0 : (0 : Int) ≤ j := by omega
              have hj1 : (j : Int) < n := by omega
              have hz8 := HBJ.out.size
              have hlen8 : (bdP n g h j).length + 1 ≤ 1000000 := by omega
              obtain ⟨m8, hm8⟩ : ∃ m8, (bdP n g h j).length = m8 := ⟨_, rfl⟩
              rw [hm8] at HO ⊢
              clear r7 hpl hm8
              cases hT : T j with
              | false =>
                rw [hT] at cj hfn
                rw [← hfn, Bool.false_and, if_neg (by simp), List.append_nil] at HPS
                have HON := Lib.hid (show OwnI wr B0.heap.size (.slice A7 m8 c7) (bdP n g h (j + 1)) by rw [HPS.out]; exact HO.out)
                clear hT hfn
                go_wp2
                all_goals first
                  | (exfalso; omega)
                  | go_roundw
                all_goals first
                  | exact ⟨j + 1, by omega, by go_num, HON, HBJ⟩
                  | (simp only [intOf]; omega)
              | true =>
                rw [hT] at cj hfn
                by_cases hjh : j = h
                · have hb9 : ((j : Int) != (h : Int)) = false := by simp; omega
                  rw [← hfn, decide_eq_false (fun hh => hh hjh), Bool.and_false, if_neg (by simp), List.append_nil] at HPS
                  have HON := Lib.hid (show OwnI wr B0.heap.size (.slice A7 m8 c7) (bdP n g h (j + 1)) by rw [HPS.out]; exact HO.out)
                  clear hT hfn hjh
                  go_wp2
                  all_goals first
                    | (exfalso; omega)
                    | go_roundw
                  all_goals first
                    | exact ⟨j + 1, by omega, by go_num, HON, HBJ⟩
                    | (simp only [intOf]; omega)
                · have hb9 : ((j : Int) != (h : Int)) = true := by simp; omega
                  rw [← hfn, decide_eq_true hjh, Bool.and_true, if_pos rfl] at HPS
                  clear hT hfn hjh
                  go_wp2_with (at_builtin; refine appI _ rfl (.tmp 126) (.tmp 128) rfl B0.heap.size _ (bdP n g h j) rfl (HO.out.alloc _) (some ⟨_, 0, none⟩) 1 1 [(j : Int)] rfl rfl (litI9 _ _ _) (by rw [List.length_singleton]; exact hlen8) (by simp; omega) ?_; intro v1 w4 o1 _ b4; have HO4 := Lib.hid (show OwnI w4 B0.heap.size v1 (bdP n g h (j + 1)) by rw [HPS.out]; exact o1); have HB4 := Lib.hid (stepA HBJ.out b4); clear o1 b4)
                  all_goals first
                    | (exfalso; omega)
                    | go_roundw
                  all_goals first
                    | exact ⟨j + 1, by omega, by go_num, HO4, HB4⟩
                    | (simp only [intOf]; omega)
            · have ejn : n = j := by omega
              subst ejn
              have HFB := Lib.hid (HBF.out wr HBJ.out)
              have HR7 := Lib.hid (ownMono9 HO.out (Nat.le_trans HBW.out.size HBZ.out))
              clear r7
              go_wp2
              all_goals first
                | (exfalso; omega)
                | (go_ret; exact ⟨A7, c7, rfl, HR7.out, HFB.out⟩)
end Go.Proofs.YtjoffidlfkmelaaDoor

namespace Go.Proofs.YtjoffidlfkmelaaDoor
open Go Go.RowKit Go.Shelf

theorem litV9 (w : World) (v : Value) (T : TypeId) : Rds (w.alloc (.cells #[v] T)) (some ⟨w.heap.size, 0, none⟩) 1 [v] :=
  ⟨Nat.le_refl _, by unfold maxLen; omega, fun _ => ⟨_, rfl, by simp, fun j u hu => by
    have hj : j = 0 := by
      have := (List.getElem?_eq_some_iff.1 hu).1
      simpa using this
    subst hj
    have : u = v := by simpa using hu.symm
    subst this
    exact (Blk.new w T #[u]).cell 0⟩⟩
theorem apart9 {w : World} {base base' : Nat} {F : Nat → Prop} {va : Value} {ws : List Value} (ho : OwnL w base' va ws) : ∀ {vs : List Value} {ls : List (List Int)}, IsL w base F vs ls → IsL w base (fun g => va.ownBlock ≠ some g) vs ls
  | [], [], _ => trivial
  | _ :: _, _ :: _, h => ⟨h.1, fun _ hg => ownApart h.1 ho (by decide) hg, apart9 ho h.2.2⟩
theorem lpPLen {n : Nat} {g : Nat → List Nat} {k : Nat} : (lpP n g k).length ≤ k := by
  unfold lpP
  rw [List.length_map]
  exact Nat.le_trans (List.length_filter_le _ _) (by simp)
/-- What Loops gives. -/
noncomputable def loR (C : List I8) : List (List Int) := if cfE C = 0 then lpP C.length (sc C) C.length else []
/-- The call gives a list of lists and an error. -/
def GivesQ9 (ls : List (List Int)) (k : Int) (w : World) (e : Ending) (w' : World) : Prop := ∃ A c, e = .returned (.tuple #[.slice A ls.length c, .int .i64 k]) ∧ RdL w' A c ls ∧ Below w.heap.size w w'
/-- The loops found so far. -/
structure LoSt (B0 : World) (n : Nat) (g : Nat → List Nat) (k : Nat) (v : Value) (X : World) : Prop where
  ex : ∃ vs, OwnL X B0.heap.size v vs ∧ IsL X B0.heap.size (fun _ => True) vs (lpP n g k)
  bel : Below B0.heap.size B0 X
theorem LoSt.below {B0 X Y : World} {n k : Nat} {g : Nat → List Nat} {v : Value} (h : LoSt B0 n g k v X) (hb : Below X.heap.size X Y) : LoSt B0 n g k v Y := by
  obtain ⟨⟨vs, h1, h2⟩, h3⟩ := h
  exact ⟨⟨vs, ownChg h1 (Chg.ofBelow hb fun _ => True) fun _ _ => trivial, h2.chg (Chg.ofBelow hb fun _ => True) fun _ _ _ => trivial⟩, belowThen h3 hb⟩
/-- Is a back edge among those of the first k of i's successors l, or among those that begin below i? -/
noncomputable def bkI (n : Nat) (g : Nat → List Nat) (h i : Nat) (l : List Int) (k : Nat) : Bool := (List.range i).any (bgB n g h) || (decide ((h : Int) ∈ l.take k) && dmB n g h i)
theorem bkI0 {n : Nat} {g : Nat → List Nat} {h i : Nat} {l : List Int} : bkI n g h i l 0 = (List.range i).any (bgB n g h) := by
  unfold bkI
  simp
theorem bkINo {n : Nat} {g : Nat → List Nat} {h i : Nat} {l : List Int} {k : Nat} (hk : k < l.length) (hn : ¬ (l[k] = (h : Int) ∧ dmB n g h i = true)) : bkI n g h i l (k + 1) = bkI n g h i l k := by
  unfold bkI
  congr 1
  cases hd : dmB n g h i
  · rw [Bool.and_false, Bool.and_false]
  · rw [Bool.and_true, Bool.and_true, List.take_succ_eq_append_getElem hk]
    refine decide_eq_decide.2 ?_
    rw [List.mem_append, List.mem_singleton]
    exact ⟨fun hh => hh.elim id fun hh => absurd ⟨hh.symm, hd⟩ hn, .inl⟩
theorem bkIYes {n : Nat} {g : Nat → List Nat} {h i : Nat} {l : List Int} {k : Nat} (hk : k < l.length) (h1 : l[k] = (h : Int)) (h2 : dmB n g h i = true) : bkI n g h i l (k + 1) = true := by
  unfold bkI
  rw [h2, Bool.and_true, List.take_succ_eq_append_getElem hk, h1]
  simp
theorem bkIEnd {n : Nat} {g : Nat → List Nat} {h i : Nat} {l : List Int} {k : Nat} (hk : l.length ≤ k) (hl : (h : Int) ∈ l ↔ h ∈ g i) : bkI n g h i l k = (List.range (i + 1)).any (bgB n g h) := by
  unfold bkI
  have e : decide ((h : Int) ∈ l) = decide (h ∈ g i) := decide_eq_decide.2 hl
  rw [List.take_of_length_le hk, List.range_succ, List.any_append, e]
  simp [bgB]
set_option maxRecDepth 100000 in
set_option maxHeartbeats 8000000 in
theorem rLoops (nm : ByteArray) (C : List I8) (n : Nat) (hn : C.length = n) (A : Option Addr) (c : Nat) (w : World) (h : CdW w A c C) :
    Calls Tryd.prog 17 #[fnV nm A n c] w (GivesQ9 (loR C) (cfE C) w) := by
  obtain ⟨W, hW⟩ : ∃ W, w.alloc (.cells #[.string nm, .slice A n c] 24) = W := ⟨_, rfl⟩
  have hbW : Below w.heap.size w W := by rw [← hW]; exact belowAlloc w _
  have hB : Blk W w.heap.size 24 #[.string nm, .slice A n c] := by rw [← hW]; exact Blk.new w _ _
  have k0 : W.cell? ⟨w.heap.size, 0, none⟩ = some (.string nm) := hB.cell 0
  have k1 : W.cell? ⟨w.heap.size, 1, none⟩ = some (.slice A n c) := hB.cell 1
  have HKB := Lib.hid (fun X (hX : Below W.heap.size W X) => (⟨(hB.below' hX).cell 0, (hB.below' hX).cell 1⟩ : X.cell? ⟨w.heap.size, 0, none⟩ = some (.string nm) ∧ X.cell? ⟨w.heap.size, 1, none⟩ = some (.slice A n c)))
  have HCO := Lib.hid (rCk12 nm C n hn A c W (h.below hbW))
  have HCW := Lib.hid (fun X (hX : Below W.heap.size W X) => ((h.below hbW).below hX).rd)
  have HW := Lib.hid hW
  have HBW := Lib.hid hbW
  have hle := h.rd.le
  have hmx := h.rd.max
  rw [hn] at hle
  unfold maxLen at hmx
  clear h hB hW hbW
  by_cases hc : cfE C = 0
  rotate_left
  · unfold fnV at HCO ⊢
    have hne : (cfE C != 0) = true := by simpa using hc
    have e2 : loR C = [] := by unfold loR; rw [if_neg hc]
    rw [e2]
    generalize cfE C = E at HCO hne ⊢
    clear hc e2
    go_enter Tryd.func17, Tryd.ntmps17
    go_wp2_with fail
    rw [HW.out]
    refine HCO.out.mono ?_
    rintro e w1 ⟨rfl, b1⟩
    go_wp2
    go_ret2
    exact ⟨none, 0, rfl, ⟨[], Rds.nil, rfl, fun _ h => absurd h (by simp)⟩, belowThen HBW.out b1⟩
  have hok := cfOk hc
  have h64 := hok.len
  rw [hn] at h64
  have e20 : loR C = lpP n (sc C) n := by unfold loR; rw [if_pos hc, hn]
  rw [e20, hc]
  rw [hc] at HCO
  clear e20
  have HDM := Lib.hid (fun X (hX : Below W.heap.size W X) => rDomT nm C hok n hn A c X (HCW.out X hX))
  have HSC := Lib.hid (fun i (hi : i < n) X (hX : Below W.heap.size W X) => rSucc nm C hok n hn i hi A c X (HCW.out X hX))
  have HLP := Lib.hid (fun k (hk : k < n) gd nn Ed X (hX : Below W.heap.size W X) hd hnn hE => rLoop nm C hok n hn k hk gd nn Ed A c X (HCW.out X hX) hd hnn hE)
  have HMEM := Lib.hid (fun i (x : Int) => scSMem (C := C) (k := i) (x := x))
  unfold fnV at HCO HDM HSC HLP ⊢
  obtain ⟨g, hg⟩ : ∃ g, sc C = g := ⟨_, rfl⟩
  rw [hg] at HDM HLP HMEM ⊢
  obtain ⟨sl, hsl⟩ : ∃ sl, scS C = sl := ⟨_, rfl⟩
  rw [hsl] at HSC HMEM
  have HSL := Lib.hid (fun i => (show (sl i).length ≤ 2 by rw [← hsl]; exact scSLen))
  clear hc hok hn hg hsl
  go_enter Tryd.func17, Tryd.ntmps17
  go_wp2_with fail
  rw [HW.out]
  refine HCO.out.mono ?_
  rintro e w1 ⟨rfl, b1⟩
  clear k0 k1
  obtain ⟨k0, k1⟩ := HKB.out w1 b1
  go_wp2_with fail
  refine (HDM.out w1 b1).mono ?_
  rintro e B0 ⟨ga, nn, E, rfl, hnn, hra, hE, _, b2⟩
  have HRA := Lib.hid (fun X (hX : Below B0.heap.size B0 X) => (hra.chg (Chg.ofBelow hX fun _ => True) trivial : RowB X ga nn E))
  have HEE := Lib.hid hE
  have HNN := Lib.hid hnn
  have HB2 := Lib.hid (belowThen b1 b2)
  have hnb : nn ≤ 4096 := by rw [hnn]; exact Nat.mul_le_mul h64 h64
  clear hra hE hnn b1 b2 k0 k1
  go_wp2_with fail
  go_loopw [7, 8] (fun v jv X => ∃ h : Nat, h ≤ n ∧ jv = .int .i64 h ∧ Hid (LoSt B0 n g h v X)) (fun _ jv _ => n - (intOf jv).toNat)
  case atStart => exact ⟨0, Nat.zero_le _, rfl, Lib.hid ⟨⟨[], OwnL.nil _ _, trivial⟩, Below.refl _ _⟩⟩
  case round =>
    obtain ⟨h, hh, rfl, HLO⟩ := hrel
    by_cases hhn : h < n
    · obtain ⟨hN, hhN⟩ : ∃ hN, h * n = hN := ⟨_, rfl⟩
      have hhNl : hN ≤ nn := by rw [← hhN, HNN.out]; exact Nat.mul_le_mul_right n (Nat.le_of_lt hhn)
      have hw1 : IntKind.i64.wrap ((h : Int) * (n : Int)) = (hN : Int) := by
        rw [IntKind.wrap_i64, ← hhN]
        have : ((h * n : Nat) : Int) = (h : Int) * (n : Int) := by push_cast; rfl
        omega
      have HDC := Lib.hid (fun X (hX : Below B0.heap.size B0 X) i (hi : i < n) => by
        have e := idxLt hhn hi
        rw [← HNN.out] at e
        have h1 := (HRA.out X hX).cell e
        rw [HEE.out h i hhn hi, hhN] at h1
        rw [hhN] at e
        exact (⟨e, h1⟩ : hN + i < nn ∧ X.cell? ⟨ga, hN + i, none⟩ = some (.bool (dmB n g h i))))
      clear hhN
      rename World => Y1
      go_wp2_with fail
      go_loopw [9, 10] (fun bv iv X => ∃ (i : Nat) (b : Bool), i ≤ n ∧ iv = .int .i64 i ∧ bv = .bool b ∧ Hid (b = (List.range i).any (bgB n g h)) ∧ Hid (Below Y1.heap.size Y1 X)) (fun _ iv _ => n - (intOf iv).toNat)
      case atStart => exact ⟨0, false, Nat.zero_le _, rfl, rfl, Lib.hid rfl, Lib.hid (Below.refl _ _)⟩
      case round =>
        obtain ⟨i, b, hi, rfl, rfl, HBK, HBI⟩ := hrel
        have HBB := Lib.hid (belowThen HLO.out.bel HBI.out)
        have HBC := Lib.hid (belowThen HB2.out HBB.out)
        obtain ⟨k0, k1⟩ := HKB.out wr HBC.out
        by_cases hin : i < n
        · have HC := Lib.hid (HSC.out i hin wr HBC.out)
          go_wp2_with fail
          refine HC.out.mono ?_
          rintro e w4 ⟨A8, c8, rfl, r8, b4⟩
          have hq2 := HSL.out i
          obtain ⟨q, hq⟩ : ∃ q, (sl i).length = q := ⟨_, rfl⟩
          have hle8 := r8.le
          have hmx8 := r8.max
          rw [hq] at hle8 hq2 ⊢
          unfold maxLen at hmx8
          have HQ := Lib.hid hq
          have HR8 := Lib.hid r8
          have HB4 := Lib.hid (belowThen HBI.out b4)
          have HDX := Lib.hid (HDC.out w4 (belowThen HLO.out.bel (belowThen HBI.out b4)) i hin)
          obtain ⟨x, hx⟩ : ∃ x, hN + i = x := ⟨_, rfl⟩
          rw [hx] at HDX
          have hw2 : IntKind.i64.wrap ((hN : Int) + (i : Int)) = (x : Int) := by
            have := HDX.out.1
            rw [IntKind.wrap_i64]; omega
          have HBK0 := Lib.hid (HBK.out.trans (bkI0 (l := sl i)).symm)
          clear r8 b4 hq hx k0 k1 HBK HBB HBC HC HBI
          go_wp2_with fail
          go_loopw [9, 12] (fun bv kv X => ∃ (k : Nat) (b : Bool), k ≤ q ∧ kv = .int .i64 k ∧ bv = .bool b ∧ Hid (b = bkI n g h i (sl i) k) ∧ X = w4) (fun _ kv _ => q - (intOf kv).toNat)
          case atStart => exact ⟨0, b, Nat.zero_le _, rfl, rfl, HBK0, rfl⟩
          case round =>
            clear HBK0
            obtain ⟨k, b, hk, rfl, rfl, HBK, rfl⟩ := hrel
            have hk0 : (0 : Int) ≤ k := by omega
            by_cases hkq : k < q
            · have hkl : k < (sl i).length := by rw [HQ.out]; exact hkq
              have hk1 : (k : Int) < q := by omega
              obtain ⟨ad, eA, _, cl⟩ := HR8.out.one hkl
              obtain ⟨y, hy, hyx⟩ := (HMEM.out i (sl i)[k]).1 (List.getElem_mem hkl)
              rw [hyx] at cl
              obtain ⟨hxl, cx⟩ := HDX.out
              have hx0 : (0 : Int) ≤ x := by omega
              have hx1 : (x : Int) < nn := by omega
              by_cases hyh : y = h
              · have hb9 : ((y : Int) == (h : Int)) = true := by simp; omega
                cases hdm : dmB n g h i with
                | true =>
                  rw [hdm] at cx
                  have HN := Lib.hid (bkIYes (n := n) hkl (by rw [hyx]; omega) hdm).symm
                  subst eA
                  clear hy hyx hyh hdm
                  go_wp2
                  all_goals first
                    | (exfalso; omega)
                    | go_roundw
                  all_goals first
                    | exact ⟨k + 1, true, by omega, by go_num, rfl, HN, trivial⟩
                    | (simp only [intOf]; omega)
                | false =>
                  rw [hdm] at cx
                  have HN := Lib.hid (HBK.out.trans (bkINo hkl (fun hh => by rw [hdm] at hh; cases hh.2)).symm)
                  subst eA
                  clear hy hyx hyh hdm
                  go_wp2
                  all_goals first
                    | (exfalso; omega)
                    | go_roundw
                  all_goals first
                    | exact ⟨k + 1, b, by omega, by go_num, rfl, HN, trivial⟩
                    | (simp only [intOf]; omega)
              · have hb9 : ((y : Int) == (h : Int)) = false := by simp; omega
                have HN := Lib.hid (HBK.out.trans (bkINo (n := n) (g := g) hkl (fun hh => by rw [hyx] at hh; have := hh.1; omega)).symm)
                subst eA
                clear hy hyx hyh
                go_wp2
                all_goals first
                  | (exfalso; omega)
                  | go_roundw
                all_goals first
                  | exact ⟨k + 1, b, by omega, by go_num, rfl, HN, trivial⟩
                  | (simp only [intOf]; omega)
            · have HN := Lib.hid (HBK.out.trans (bkIEnd (by rw [HQ.out]; omega) ((HMEM.out i (h : Int)).trans ⟨fun ⟨y, hy, e⟩ => (show h = y by omega) ▸ hy, fun hy => ⟨h, hy, rfl⟩⟩)))
              go_wp2
              all_goals first
                | (exfalso; omega)
                | go_roundw
              all_goals first
                | exact ⟨i + 1, b, by omega, by go_num, rfl, HN, HB4⟩
                | (simp only [intOf]; omega)
        · have ein : n = i := by omega
          subst ein
          have HPS := Lib.hid (lpPS (n := n) (g := g) (k := h))
          have HL2 := Lib.hid (HLO.out.below HBI.out)
          have hbk : b = bkB n g h := HBK.out
          cases b with
          | false =>
            rw [← hbk, if_neg (by simp), List.append_nil] at HPS
            have HL3 : Hid (LoSt B0 n g (h + 1) _ wr) := Lib.hid ⟨by rw [HPS.out]; exact HL2.out.ex, HL2.out.bel⟩
            clear hbk
            go_wp2
            all_goals first
              | (exfalso; omega)
              | go_roundw
            all_goals first
              | exact ⟨h + 1, by omega, by go_num, HL3⟩
              | (simp only [intOf]; omega)
          | true =>
            rw [← hbk, if_pos rfl] at HPS
            have HC := Lib.hid (HLP.out h hhn ga nn E wr HBC.out (HRA.out wr HBB.out) HNN.out HEE.out)
            clear hbk
            go_wp2_with fail
            refine HC.out.mono ?_
            rintro e w5 ⟨A9, c9, rfl, o9, b5⟩
            obtain ⟨q9, hq9⟩ : ∃ q, (lpL n g h).length = q := ⟨_, rfl⟩
            rw [hq9] at o9 ⊢
            obtain ⟨⟨vs, h1, h2⟩, h3⟩ := HL2.out.below b5
            have hvl : vs.length + 1 ≤ 10000000 := by
              have := h2.len
              have := lpPLen (n := n) (g := g) (k := h)
              omega
            have hcA := Chg.ofBelow (belowAlloc w5 (.cells #[.slice A9 q9 c9] 26)) fun _ => True
            have HA := Lib.hid (ownChg h1 hcA fun _ _ => trivial : OwnL (w5.alloc (.cells #[.slice A9 q9 c9] 26)) B0.heap.size _ vs)
            have HI1 := Lib.hid (apart9 HA.out (h2.chg hcA fun _ _ _ => trivial))
            have ho9 : OwnI w5 B0.heap.size (.slice A9 q9 c9) (lpL n g h) := ownMono9 o9 HBB.out.size
            have hone : IsL (w5.alloc (.cells #[.slice A9 q9 c9] 26)) B0.heap.size (fun _ => True) [.slice A9 q9 c9] [lpL n g h] := ⟨ownChg ho9 hcA fun _ _ => trivial, fun _ _ => trivial, trivial⟩
            have HI2 := Lib.hid (apart9 HA.out hone)
            have HB5 := Lib.hid (h3.alloc h3.size (.cells #[.slice A9 q9 c9] 26))
            have hz5 : B0.heap.size ≤ w5.heap.size := h3.size
            clear h1 h2 h3 ho9 hone hcA b5 HLO HL2 o9 hq9
            go_wp2_with (at_builtin; refine appL _ rfl (.tmp 59) (.tmp 64) rfl B0.heap.size _ vs rfl HA.out (some ⟨_, 0, none⟩) 1 1 [.slice A9 q9 c9] rfl rfl (litV9 _ _ _) (by intro u hu; rw [List.mem_singleton] at hu; subst hu; rfl) hvl (by simp; omega) ?_; intro v7 w7 o7 g7 _; have HO7 := Lib.hid o7; have HG7 := Lib.hid g7; clear o7 g7)
            have hc7 := Chg.ofGrown HG7.out (F := fun g => Value.ownBlock _ ≠ some g) fun _ h => h
            have HF : Hid (LoSt B0 n g (h + 1) v7 w7) := Lib.hid ⟨⟨vs ++ [.slice A9 q9 c9], HO7.out, by
              rw [HPS.out]
              exact IsL.append ((HI1.out.chg hc7 fun _ h _ => h).mono fun _ _ => trivial) ((HI2.out.chg hc7 fun _ h _ => h).mono fun _ _ => trivial)⟩, HB5.out.grown HG7.out (by simp; omega) fun q hq => (World.ownsRow.lt HA.out q hq).1⟩
            clear hc7
            all_goals first
              | (exfalso; omega)
              | go_roundw
            all_goals first
              | exact ⟨h + 1, by omega, by go_num, HF⟩
              | (simp only [intOf]; omega)
    · have ehn : n = h := by omega
      subst ehn
      obtain ⟨⟨vs, h1, h2⟩, h3⟩ := HLO.out
      obtain ⟨A7, c7, rfl, hrl⟩ := RdL.ofOwn h1 h2
      have HRL := Lib.hid hrl
      have HFB := Lib.hid (belowThen HBW.out (belowThen HB2.out h3))
      clear h1 h2 h3 hrl HLO
      go_wp2
      all_goals first
        | (exfalso; omega)
        | (go_ret2; exact ⟨A7, c7, rfl, HRL.out, HFB.out⟩)
end Go.Proofs.YtjoffidlfkmelaaDoor
