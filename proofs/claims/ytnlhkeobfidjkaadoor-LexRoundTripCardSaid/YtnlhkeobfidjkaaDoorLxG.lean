/-
  The contract of lex.isValid.
-/
import Derived.Test.YtnlhkeobfidjkaaDoorLxJ
import Derived.Test.YtnlhkeobfidjkaaDoorLxS
import Derived.Test.YtnlhkeobfidjkaaDoorLxG0
namespace Go.Proofs.YtnlhkeobfidjkaaDoor
open Go Go.RowKit

theorem kdZero {i : Nat} (h : 2 ≤ i) (h6 : i < 6) : kd i ≠ 0 := by unfold kd; rw [if_neg (by omega)]; omega
theorem retBk {a b : Bool} (h : a = b) : Ending.returned (.bool a) = .returned (.bool b) := by rw [h]
set_option maxRecDepth 100000 in
set_option maxHeartbeats 8000000 in
theorem iValid (K V q : Int) (s : ByteArray) (hs : s.size ≤ 281474976710656) (g : Nat) (w : World) (hE : Ev w) (hsh : ShpW w g) :
    Calls Tryd.prog 21 #[.slice (some ⟨g, 0, none⟩) 6 6, .agg #[.int .i64 K, .string s, .int .i64 V, .int .i64 q]] w fun e w' => e = .returned (.bool (okB9 ⟨K, s.data.toList, V, q⟩)) ∧ Below w.heap.size w w' := by
  obtain ⟨R, hR⟩ : ∃ R, okB9 ⟨K, s.data.toList, V, q⟩ = R := ⟨_, rfl⟩
  rw [hR]
  have HR := Lib.hid hR
  obtain ⟨W, hWE⟩ : ∃ W, w.alloc (.cells #[.int .i64 K, .string s, .int .i64 V, .int .i64 q] 40) = W := ⟨_, rfl⟩
  have hbW : Below w.heap.size w W := by rw [← hWE]; exact belowAlloc w _
  have hB : Blk W w.heap.size 40 #[.int .i64 K, .string s, .int .i64 V, .int .i64 q] := by rw [← hWE]; exact Blk.new w _ _
  have d0 : W.cell? ⟨w.heap.size, 0, none⟩ = some (.int .i64 K) := hB.cell 0
  have d1 : W.cell? ⟨w.heap.size, 1, none⟩ = some (.string s) := hB.cell 1
  have d2 : W.cell? ⟨w.heap.size, 2, none⟩ = some (.int .i64 V) := hB.cell 2
  have HCC : Hid (∀ X, Below W.heap.size W X → X.cell? ⟨w.heap.size, 0, none⟩ = some (.int .i64 K) ∧ X.cell? ⟨w.heap.size, 1, none⟩ = some (.string s) ∧ X.cell? ⟨w.heap.size, 2, none⟩ = some (.int .i64 V)) :=
    Lib.hid fun X hX => ⟨(hX.cell hB.lt).trans d0, (hX.cell hB.lt).trans d1, (hX.cell hB.lt).trans d2⟩
  have HW := Lib.hid hWE
  have HBW := Lib.hid hbW
  have HEV := Lib.hid (fun X (hX : Below W.heap.size W X) => (hE.stays hbW).stays hX)
  have HSH := Lib.hid (fun X (hX : Below W.heap.size W X) => (hsh.below hbW).below hX)
  clear hWE hB hR hE hbW hsh d2
  by_cases hK : K = 0
  · subst hK
    have HX : Hid (R = false) := Lib.hid (by rw [← HR.out]; exact okKind fun j h2 h6 => kdZero h2 h6)
    clear d1
    go_enter Tryd.func21, Tryd.ntmps21
    go_wp2_with fail
    rw [HW.out]
    go_wp2
    go_ret
    exact ⟨retBk HX.out.symm, HBW.out⟩
  · have hK0 : (K == 0) = false := by simpa using hK
    by_cases h0 : s.size = 0
    · have hse : s = ⟨#[]⟩ := by
        have : s.data.size = 0 := h0
        have h2 : s.data = #[] := Array.eq_empty_of_size_eq_zero this
        cases s; simp only at h2; rw [h2]
      subst hse
      have HX : Hid (R = false) := Lib.hid (by rw [← HR.out]; exact okNoText rfl)
      clear hK
      go_enter Tryd.func21, Tryd.ntmps21
      go_wp2_with fail
      rw [HW.out]
      go_wp2
      go_ret
      exact ⟨retBk HX.out.symm, HBW.out⟩
    · have HNE := Lib.hid (neOf h0)
      have hse := emptyOf h0
      have HK := Lib.hid hK
      clear hK h0
      go_enter Tryd.func21, Tryd.ntmps21
      go_wp2_with fail
      rw [HW.out]
      go_wp2
      go_loopw [19] (fun vj wr => ∃ j : Nat, j ≤ 6 ∧ vj = .int .i64 j ∧ Below W.heap.size W wr ∧ Hid (∀ i, i < j → kd i ≠ K)) (fun i _ => 6 - (intOf i).toNat)
      case atStart => exact ⟨0, Nat.zero_le _, rfl, Below.refl _ _, Lib.hid fun i h => by omega⟩
      case round =>
        obtain ⟨j, hj, rfl, hbj, HJ⟩ := hrel
        by_cases hj6 : j < 6
        · obtain ⟨f, L, f', L', c0, c1, c2, k1, k2⟩ := (HSH.out wr hbj).at_ j hj6
          have hj0 : (0 : Int) ≤ j := by omega
          have hj1 : (j : Int) < 6 := by omega
          obtain ⟨E, hE⟩ : ∃ E, 0 + endP (fun c => cls c == j + 1) (rst (j + 1)) (s.data.toList.drop 0) = E := ⟨_, rfl⟩
          have HEND := Lib.hid (fun X (hX : Below wr.heap.size wr X) => iEnd (kd j) f f' L L' _ _ s 0 hs (Nat.zero_le _) X (k1.below hX) (k2.below hX))
          rw [hE] at HEND
          have HE := Lib.hid hE
          have HBJ := Lib.hid hbj
          obtain ⟨kz, hkz⟩ : ∃ z, kd j = z := ⟨_, rfl⟩
          rw [hkz] at c0 HEND
          have HKZ := Lib.hid hkz
          clear hE k1 k2 hkz hbj d0 d1
          obtain ⟨d0', d1', d2'⟩ := HCC.out (wr.alloc (.cells #[.int .i64 kz, .func (.func f) #[] L, .func (.func f') #[] L'] 47)) (belowThen HBJ.out (belowAlloc wr _))
          by_cases hc : kz = K
          · subst hc
            have hj2 : 2 ≤ j := by
              rcases Nat.lt_or_ge j 2 with h | h
              · exact absurd (by rw [← HKZ.out]; unfold kd; rw [if_pos (by omega)]) HK.out
              · exact h
            obtain ⟨V1, hV⟩ : ∃ V1, numV kz s.data.toList = V1 := ⟨_, rfl⟩
            obtain ⟨N, hN⟩ : ∃ N, numE kz s.data.toList = N := ⟨_, rfl⟩
            have HNUM := Lib.hid (fun X (hX : Below W.heap.size W X) => iNumber kz s hs V1 N hV hN X (HEV.out X hX))
            have HX : Hid (((E == s.size) && (N == 0 && V1 == V)) = R) := Lib.hid (by
              rw [← HR.out, okAt ⟨kz, s.data.toList, V, q⟩ j hj2 hj6 HKZ.out HNE.out, hN, hV, ← HE.out, Nat.zero_add, List.drop_zero]
              rfl)
            clear hV hN
            have hb2 := fun o => Lib.hid (belowAlloc wr o)
            go_wp2_with fail
            refine (HNUM.out _ (belowThen HBJ.out (hb2 _).out)).mono ?_
            rintro e w2 ⟨rfl, b2⟩
            have B2 := Lib.hid (belowThen (hb2 _).out b2)
            have HBX := Lib.hid ((Blk.new wr 47 #[.int .i64 kz, .func (.func f) #[] L, .func (.func f') #[] L']).below' b2)
            clear b2
            obtain ⟨d0, d1, d2⟩ := HCC.out w2 (belowThen HBJ.out B2.out)
            have hbd : Below w2.heap.size w2 w2.drew := (Below.refl _ w2).drew
            have HKP := Lib.hid (fun Y (hY : Below w2.heap.size w2 Y) => (show Below w2.heap.size w2 Y ∧ Y.cell? ⟨w.heap.size, 1, none⟩ = some (.string s) ∧ Y.cell? ⟨w.heap.size, 2, none⟩ = some (.int .i64 V) ∧ Y.cell? ⟨wr.heap.size, 0, none⟩ = some (.int .i64 kz) ∧ Y.cell? ⟨wr.heap.size, 1, none⟩ = some (.func (.func f) #[] L) ∧ Y.cell? ⟨wr.heap.size, 2, none⟩ = some (.func (.func f') #[] L') from
              ⟨hY, (HCC.out Y (belowThen HBJ.out (belowThen B2.out hY))).2.1, (HCC.out Y (belowThen HBJ.out (belowThen B2.out hY))).2.2, (HBX.out.below' hY).cell 0, (HBX.out.below' hY).cell 1, (HBX.out.below' hY).cell 2⟩))
            have HEN := Lib.hid (fun Y (hY : Below w2.heap.size w2 Y) => HEND.out Y (belowThen B2.out hY))
            clear d0' d1' d2'
            go_wp2_with fail
            refine wp_region_held_drew (S := (fun w' => Below w2.heap.size w2 w' ∧ w'.cell? ⟨w.heap.size, 1, none⟩ = some (.string s) ∧ w'.cell? ⟨w.heap.size, 2, none⟩ = some (.int .i64 V) ∧ w'.cell? ⟨wr.heap.size, 0, none⟩ = some (.int .i64 kz) ∧ w'.cell? ⟨wr.heap.size, 1, none⟩ = some (.func (.func f) #[] L) ∧ w'.cell? ⟨wr.heap.size, 2, none⟩ = some (.func (.func f') #[] L'))) (by kernel_rfl) ?_ (fun hHeld => ?_)
            · with_reducible exact HKP.out _ hbd
            refine wpAnyH_take (i := 0) (oi := ⟨some 36, _, _, _, _, _⟩) (v := ?v0) rfl (by kernel_rfl) (by kernel_rfl) (by kernel_rfl) (fun _ _ _ h => h) (Or.inl ⟨by rfl, ?h0⟩) (by assumption) ?r0
            case h0 => (intro w hSw; (try dsimp only at hSw); go_simp; try with_reducible rfl)
            (try simp only [Act.put, List.setIfInBounds_toArray, List.set_cons_zero, List.set_cons_succ])
            refine wpAnyH_take (i := 1) (oi := ⟨some 37, _, _, _, _, _⟩) (v := ?v1) rfl (by kernel_rfl) (by kernel_rfl) (by kernel_rfl) (fun _ _ _ h => h) (Or.inl ⟨by rfl, ?h1⟩) (by assumption) ?r1
            case h1 => (intro w hSw; (try dsimp only at hSw); go_simp; try with_reducible rfl)
            (try simp only [Act.put, List.setIfInBounds_toArray, List.set_cons_zero, List.set_cons_succ])
            refine wpAnyH_take (i := 2) (oi := ⟨some 38, _, _, _, _, _⟩) (v := ?v2) rfl (by kernel_rfl) (by kernel_rfl) (by kernel_rfl) (fun _ _ _ h => h) (Or.inl ⟨by rfl, ?h2⟩) (by assumption) ?r2
            case h2 => (intro w hSw; (try dsimp only at hSw); go_simp; try with_reducible rfl)
            (try simp only [Act.put, List.setIfInBounds_toArray, List.set_cons_zero, List.set_cons_succ])
            refine wpAnyH_take (i := 4) (oi := ⟨some 40, _, _, _, _, _⟩) (v := ?v4) rfl (by kernel_rfl) (by kernel_rfl) (by kernel_rfl) (fun _ _ _ h => h) (Or.inl ⟨by rfl, ?h4⟩) (by assumption) ?r4
            case h4 => (intro w hSw; (try dsimp only at hSw); go_simp; try with_reducible rfl)
            (try simp only [Act.put, List.setIfInBounds_toArray, List.set_cons_zero, List.set_cons_succ])
            refine wpAnyH_take (i := 5) (oi := ⟨some 41, _, _, _, _, _⟩) (v := ?v5) rfl (by kernel_rfl) (by kernel_rfl) (by kernel_rfl) (fun _ _ _ h => h) (Or.inl ⟨by rfl, ?h5⟩) (by assumption) ?r5
            case h5 => (intro w hSw; (try dsimp only at hSw); go_simp; try with_reducible rfl)
            (try simp only [Act.put, List.setIfInBounds_toArray, List.set_cons_zero, List.set_cons_succ])
            refine wpAnyH_take (i := 6) (oi := ⟨some 42, _, _, _, _, _⟩) (v := ?v6) rfl (by kernel_rfl) (by kernel_rfl) (by kernel_rfl) (fun _ _ _ h => h) (Or.inl ⟨by rfl, ?h6⟩) (by assumption) ?r6
            case h6 => (intro w hSw; (try dsimp only at hSw); go_simp; try with_reducible rfl)
            (try simp only [Act.put, List.setIfInBounds_toArray, List.set_cons_zero, List.set_cons_succ])
            refine wpAnyH_ready (rs := [3]) (by kernel_rfl) (by simp) ?_
            refine AllReadyH.cons (o := ⟨some 39, _, _, _, _, _⟩) rfl (fun K hK => ?_) AllReadyH.nil
            go_simp
            refine (HEN.out _ (‹Below w2.heap.size w2 _ ∧ _›).1).mono ?_; rintro e wa ⟨rfl, bk⟩
            refine hK.out _ _ ?_ (fun hHeld3 => ?_)
            · (first
                  | with_reducible assumption
                  | with_reducible exact HKP.out _ hbd
                  | exact HKP.out _ (belowThen (‹Below w2.heap.size w2 _ ∧ _›).1 bk))
            clear hK K
            (try simp only [Act.put, List.setIfInBounds_toArray, List.set_cons_zero, List.set_cons_succ])
            by_cases hEs : E = s.size
            · subst hEs
              by_cases hN0 : N = 0
              · subst hN0
                have HF : Hid ((V1 == V) = R) := Lib.hid (by rw [← HX.out]; simp)
                refine wpAnyH_take (i := 7) (oi := ⟨some 43, _, _, _, _, _⟩) (v := ?v7a) rfl (by kernel_rfl) (by kernel_rfl) (by kernel_rfl) (fun _ _ _ h => h) (Or.inl ⟨by rfl, ?h7a⟩) (by assumption) ?r7a
                case h7a => (intro w hSw; (try dsimp only at hSw); go_simp; try with_reducible rfl)
                (try simp only [Act.put, List.setIfInBounds_toArray, List.set_cons_zero, List.set_cons_succ])
                refine wpAnyH_take (i := 8) (oi := ⟨some 44, _, _, _, _, _⟩) (v := ?v8a) rfl (by kernel_rfl) (by kernel_rfl) (by kernel_rfl) (fun _ _ _ h => h) (Or.inl ⟨by rfl, ?h8a⟩) (by assumption) ?r8a
                case h8a => (intro w hSw; (try dsimp only at hSw); go_simp; try with_reducible rfl)
                (try simp only [Act.put, List.setIfInBounds_toArray, List.set_cons_zero, List.set_cons_succ])
                refine wpAnyH_take (i := 9) (oi := ⟨some 45, _, _, _, _, _⟩) (v := ?v9a) rfl (by kernel_rfl) (by kernel_rfl) (by kernel_rfl) (fun _ _ _ h => h) (Or.inl ⟨by rfl, ?h9a⟩) (by assumption) ?r9a
                case h9a => (intro w hSw; (try dsimp only at hSw); go_simp; try with_reducible rfl)
                (try simp only [Act.put, List.setIfInBounds_toArray, List.set_cons_zero, List.set_cons_succ])
                refine wpAnyH_take (i := 10) (oi := ⟨some 46, _, _, _, _, _⟩) (v := ?v10a) rfl (by kernel_rfl) (by kernel_rfl) (by kernel_rfl) (fun _ _ _ h => h) (Or.inl ⟨by rfl, ?h10a⟩) (by assumption) ?r10a
                case h10a => (intro w hSw; (try dsimp only at hSw); go_simp; try with_reducible rfl)
                (try simp only [Act.put, List.setIfInBounds_toArray, List.set_cons_zero, List.set_cons_succ])
                refine wpAnyH_take (i := 11) (oi := ⟨some 47, _, _, _, _, _⟩) (v := ?v11a) rfl (by kernel_rfl) (by kernel_rfl) (by kernel_rfl) (fun _ _ _ h => h) (Or.inl ⟨by rfl, ?h11a⟩) (by assumption) ?r11a
                case h11a => (intro w hSw; (try dsimp only at hSw); go_simp; try with_reducible rfl)
                (try simp only [Act.put, List.setIfInBounds_toArray, List.set_cons_zero, List.set_cons_succ])
                refine wpAnyH_take (i := 12) (oi := ⟨some 48, _, _, _, _, _⟩) (v := ?v12a) rfl (by kernel_rfl) (by kernel_rfl) (by kernel_rfl) (fun _ _ _ h => h) (Or.inl ⟨by rfl, ?h12a⟩) (by assumption) ?r12a
                case h12a => (intro w hSw; (try dsimp only at hSw); go_simp; try with_reducible rfl)
                (try simp only [Act.put, List.setIfInBounds_toArray, List.set_cons_zero, List.set_cons_succ])
                refine wpAnyH_take (i := 13) (oi := ⟨some 49, _, _, _, _, _⟩) (v := ?v13a) rfl (by kernel_rfl) (by kernel_rfl) (by kernel_rfl) (fun _ _ _ h => h) (Or.inl ⟨by rfl, ?h13a⟩) (by assumption) ?r13a
                case h13a => (intro w hSw; (try dsimp only at hSw); go_simp; try with_reducible rfl)
                (try simp only [Act.put, List.setIfInBounds_toArray, List.set_cons_zero, List.set_cons_succ])
                refine wpAnyH_take (i := 14) (oi := ⟨some 50, _, _, _, _, _⟩) (v := ?v14a) rfl (by kernel_rfl) (by kernel_rfl) (by kernel_rfl) (fun _ _ _ h => h) (Or.inl ⟨by rfl, ?h14a⟩) (by assumption) ?r14a
                case h14a => (intro w hSw; (try dsimp only at hSw); go_simp; try with_reducible rfl)
                (try simp only [Act.put, List.setIfInBounds_toArray, List.set_cons_zero, List.set_cons_succ])
                refine wpAnyH_take (i := 15) (oi := ⟨some 51, _, _, _, _, _⟩) (v := ?v15a) rfl (by kernel_rfl) (by kernel_rfl) (by kernel_rfl) (fun _ _ _ h => h) (Or.inl ⟨by rfl, ?h15a⟩) (by assumption) ?r15a
                case h15a => (intro w hSw; (try dsimp only at hSw); go_simp; try with_reducible rfl)
                (try simp only [Act.put, List.setIfInBounds_toArray, List.set_cons_zero, List.set_cons_succ])
                refine wpAnyH_take (i := 16) (oi := ⟨some 52, _, _, _, _, _⟩) (v := ?v16a) rfl (by kernel_rfl) (by kernel_rfl) (by kernel_rfl) (fun _ _ _ h => h) (Or.inl ⟨by rfl, ?h16a⟩) (by assumption) ?r16a
                case h16a => (intro w hSw; (try dsimp only at hSw); go_simp; try with_reducible rfl)
                (try simp only [Act.put, List.setIfInBounds_toArray, List.set_cons_zero, List.set_cons_succ])
                refine wpAnyH_take (i := 17) (oi := ⟨some 53, _, _, _, _, _⟩) (v := ?v17a) rfl (by kernel_rfl) (by kernel_rfl) (by kernel_rfl) (fun _ _ _ h => h) (Or.inl ⟨by rfl, ?h17a⟩) (by assumption) ?r17a
                case h17a => (intro w hSw; (try dsimp only at hSw); go_simp; try with_reducible rfl)
                (try simp only [Act.put, List.setIfInBounds_toArray, List.set_cons_zero, List.set_cons_succ])
                refine wpAnyH_take (i := 18) (oi := ⟨some 4, _, _, _, _, _⟩) (v := ?v18a) rfl (by kernel_rfl) (by kernel_rfl) (by kernel_rfl) (fun _ _ _ h => h) (Or.inl ⟨by rfl, ?h18a⟩) (by assumption) ?r18a
                case h18a => (intro w hSw; (try dsimp only at hSw); go_simp; try with_reducible rfl)
                (try simp only [Act.put, List.setIfInBounds_toArray, List.set_cons_zero, List.set_cons_succ])
                refine wpAnyH_done (by kernel_rfl) ?_ _
                have HB5 := Lib.hid (‹Below w2.heap.size w2 wa ∧ _›).1
                go_wp2
                go_ret
                exact ⟨retBk HF.out, belowThen HBW.out (belowThen HBJ.out (belowThen B2.out HB5.out))⟩
              · have g2 : (N == 0) = false := by simpa using hN0
                have HF : Hid (R = false) := Lib.hid (by rw [← HX.out, g2]; simp)
                clear hN0
                refine wpAnyH_take (i := 7) (oi := ⟨some 43, _, _, _, _, _⟩) (v := ?v7b) rfl (by kernel_rfl) (by kernel_rfl) (by kernel_rfl) (fun _ _ _ h => h) (Or.inl ⟨by rfl, ?h7b⟩) (by assumption) ?r7b
                case h7b => (intro w hSw; (try dsimp only at hSw); go_simp; try with_reducible rfl)
                (try simp only [Act.put, List.setIfInBounds_toArray, List.set_cons_zero, List.set_cons_succ])
                refine wpAnyH_take (i := 8) (oi := ⟨some 44, _, _, _, _, _⟩) (v := ?v8b) rfl (by kernel_rfl) (by kernel_rfl) (by kernel_rfl) (fun _ _ _ h => h) (Or.inl ⟨by rfl, ?h8b⟩) (by assumption) ?r8b
                case h8b => (intro w hSw; (try dsimp only at hSw); go_simp; try with_reducible rfl)
                (try simp only [Act.put, List.setIfInBounds_toArray, List.set_cons_zero, List.set_cons_succ])
                refine wpAnyH_take (i := 9) (oi := ⟨some 45, _, _, _, _, _⟩) (v := ?v9b) rfl (by kernel_rfl) (by kernel_rfl) (by kernel_rfl) (fun _ _ _ h => h) (Or.inl ⟨by rfl, ?h9b⟩) (by assumption) ?r9b
                case h9b => (intro w hSw; (try dsimp only at hSw); go_simp; try with_reducible rfl)
                (try simp only [Act.put, List.setIfInBounds_toArray, List.set_cons_zero, List.set_cons_succ])
                refine wpAnyH_take (i := 10) (oi := ⟨some 46, _, _, _, _, _⟩) (v := ?v10b) rfl (by kernel_rfl) (by kernel_rfl) (by kernel_rfl) (fun _ _ _ h => h) (Or.inl ⟨by rfl, ?h10b⟩) (by assumption) ?r10b
                case h10b => (intro w hSw; (try dsimp only at hSw); go_simp; try with_reducible rfl)
                (try simp only [Act.put, List.setIfInBounds_toArray, List.set_cons_zero, List.set_cons_succ])
                refine wpAnyH_take (i := 11) (oi := ⟨some 47, _, _, _, _, _⟩) (v := ?v11b) rfl (by kernel_rfl) (by kernel_rfl) (by kernel_rfl) (fun _ _ _ h => h) (Or.inl ⟨by rfl, ?h11b⟩) (by assumption) ?r11b
                case h11b => (intro w hSw; (try dsimp only at hSw); go_simp; try with_reducible rfl)
                (try simp only [Act.put, List.setIfInBounds_toArray, List.set_cons_zero, List.set_cons_succ])
                refine wpAnyH_take (i := 12) (oi := ⟨some 48, _, _, _, _, _⟩) (v := ?v12b) rfl (by kernel_rfl) (by kernel_rfl) (by kernel_rfl) (fun _ _ _ h => h) (Or.inl ⟨by rfl, ?h12b⟩) (by assumption) ?r12b
                case h12b => (intro w hSw; (try dsimp only at hSw); go_simp; try with_reducible rfl)
                (try simp only [Act.put, List.setIfInBounds_toArray, List.set_cons_zero, List.set_cons_succ])
                refine wpAnyH_take (i := 13) (oi := ⟨some 49, _, _, _, _, _⟩) rfl (by kernel_rfl) (by kernel_rfl) (by kernel_rfl) (fun _ _ _ h => h) (Or.inr ⟨by rfl, rfl⟩) (by assumption) ?r13b
                (try simp only [Act.put, List.setIfInBounds_toArray, List.set_cons_zero, List.set_cons_succ])
                refine wpAnyH_take (i := 14) (oi := ⟨some 50, _, _, _, _, _⟩) rfl (by kernel_rfl) (by kernel_rfl) (by kernel_rfl) (fun _ _ _ h => h) (Or.inr ⟨by rfl, rfl⟩) (by assumption) ?r14b
                (try simp only [Act.put, List.setIfInBounds_toArray, List.set_cons_zero, List.set_cons_succ])
                refine wpAnyH_take (i := 15) (oi := ⟨some 51, _, _, _, _, _⟩) rfl (by kernel_rfl) (by kernel_rfl) (by kernel_rfl) (fun _ _ _ h => h) (Or.inr ⟨by rfl, rfl⟩) (by assumption) ?r15b
                (try simp only [Act.put, List.setIfInBounds_toArray, List.set_cons_zero, List.set_cons_succ])
                refine wpAnyH_take (i := 16) (oi := ⟨some 52, _, _, _, _, _⟩) rfl (by kernel_rfl) (by kernel_rfl) (by kernel_rfl) (fun _ _ _ h => h) (Or.inr ⟨by rfl, rfl⟩) (by assumption) ?r16b
                (try simp only [Act.put, List.setIfInBounds_toArray, List.set_cons_zero, List.set_cons_succ])
                refine wpAnyH_take (i := 17) (oi := ⟨some 53, _, _, _, _, _⟩) (v := ?v17b) rfl (by kernel_rfl) (by kernel_rfl) (by kernel_rfl) (fun _ _ _ h => h) (Or.inl ⟨by rfl, ?h17b⟩) (by assumption) ?r17b
                case h17b => (intro w hSw; (try dsimp only at hSw); go_simp; try with_reducible rfl)
                (try simp only [Act.put, List.setIfInBounds_toArray, List.set_cons_zero, List.set_cons_succ])
                refine wpAnyH_take (i := 18) (oi := ⟨some 4, _, _, _, _, _⟩) (v := ?v18b) rfl (by kernel_rfl) (by kernel_rfl) (by kernel_rfl) (fun _ _ _ h => h) (Or.inl ⟨by rfl, ?h18b⟩) (by assumption) ?r18b
                case h18b => (intro w hSw; (try dsimp only at hSw); go_simp; try with_reducible rfl)
                (try simp only [Act.put, List.setIfInBounds_toArray, List.set_cons_zero, List.set_cons_succ])
                refine wpAnyH_done (by kernel_rfl) ?_ _
                have HB5 := Lib.hid (‹Below w2.heap.size w2 wa ∧ _›).1
                go_wp2
                go_ret
                exact ⟨retBk HF.out.symm, belowThen HBW.out (belowThen HBJ.out (belowThen B2.out HB5.out))⟩
            · have g1 : ((E : Int) == (s.size : Int)) = false := beq_eq_false_iff_ne.2 (by omega)
              have HF : Hid (R = false) := Lib.hid (by rw [← HX.out]; have : (E == s.size) = false := beq_eq_false_iff_ne.2 hEs; rw [this]; rfl)
              clear hEs
              refine wpAnyH_take (i := 7) (oi := ⟨some 43, _, _, _, _, _⟩) (v := ?v7c) rfl (by kernel_rfl) (by kernel_rfl) (by kernel_rfl) (fun _ _ _ h => h) (Or.inl ⟨by rfl, ?h7c⟩) (by assumption) ?r7c
              case h7c => (intro w hSw; (try dsimp only at hSw); go_simp; try with_reducible rfl)
              (try simp only [Act.put, List.setIfInBounds_toArray, List.set_cons_zero, List.set_cons_succ])
              refine wpAnyH_take (i := 8) (oi := ⟨some 44, _, _, _, _, _⟩) (v := ?v8c) rfl (by kernel_rfl) (by kernel_rfl) (by kernel_rfl) (fun _ _ _ h => h) (Or.inl ⟨by rfl, ?h8c⟩) (by assumption) ?r8c
              case h8c => (intro w hSw; (try dsimp only at hSw); go_simp; try with_reducible rfl)
              (try simp only [Act.put, List.setIfInBounds_toArray, List.set_cons_zero, List.set_cons_succ])
              refine wpAnyH_take (i := 9) (oi := ⟨some 45, _, _, _, _, _⟩) rfl (by kernel_rfl) (by kernel_rfl) (by kernel_rfl) (fun _ _ _ h => h) (Or.inr ⟨by rfl, rfl⟩) (by assumption) ?r9c
              (try simp only [Act.put, List.setIfInBounds_toArray, List.set_cons_zero, List.set_cons_succ])
              refine wpAnyH_take (i := 10) (oi := ⟨some 46, _, _, _, _, _⟩) rfl (by kernel_rfl) (by kernel_rfl) (by kernel_rfl) (fun _ _ _ h => h) (Or.inr ⟨by rfl, rfl⟩) (by assumption) ?r10c
              (try simp only [Act.put, List.setIfInBounds_toArray, List.set_cons_zero, List.set_cons_succ])
              refine wpAnyH_take (i := 11) (oi := ⟨some 47, _, _, _, _, _⟩) (v := ?v11c) rfl (by kernel_rfl) (by kernel_rfl) (by kernel_rfl) (fun _ _ _ h => h) (Or.inl ⟨by rfl, ?h11c⟩) (by assumption) ?r11c
              case h11c => (intro w hSw; (try dsimp only at hSw); go_simp; try with_reducible rfl)
              (try simp only [Act.put, List.setIfInBounds_toArray, List.set_cons_zero, List.set_cons_succ])
              refine wpAnyH_take (i := 12) (oi := ⟨some 48, _, _, _, _, _⟩) (v := ?v12c) rfl (by kernel_rfl) (by kernel_rfl) (by kernel_rfl) (fun _ _ _ h => h) (Or.inl ⟨by rfl, ?h12c⟩) (by assumption) ?r12c
              case h12c => (intro w hSw; (try dsimp only at hSw); go_simp; try with_reducible rfl)
              (try simp only [Act.put, List.setIfInBounds_toArray, List.set_cons_zero, List.set_cons_succ])
              refine wpAnyH_take (i := 13) (oi := ⟨some 49, _, _, _, _, _⟩) rfl (by kernel_rfl) (by kernel_rfl) (by kernel_rfl) (fun _ _ _ h => h) (Or.inr ⟨by rfl, rfl⟩) (by assumption) ?r13c
              (try simp only [Act.put, List.setIfInBounds_toArray, List.set_cons_zero, List.set_cons_succ])
              refine wpAnyH_take (i := 14) (oi := ⟨some 50, _, _, _, _, _⟩) rfl (by kernel_rfl) (by kernel_rfl) (by kernel_rfl) (fun _ _ _ h => h) (Or.inr ⟨by rfl, rfl⟩) (by assumption) ?r14c
              (try simp only [Act.put, List.setIfInBounds_toArray, List.set_cons_zero, List.set_cons_succ])
              refine wpAnyH_take (i := 15) (oi := ⟨some 51, _, _, _, _, _⟩) rfl (by kernel_rfl) (by kernel_rfl) (by kernel_rfl) (fun _ _ _ h => h) (Or.inr ⟨by rfl, rfl⟩) (by assumption) ?r15c
              (try simp only [Act.put, List.setIfInBounds_toArray, List.set_cons_zero, List.set_cons_succ])
              refine wpAnyH_take (i := 16) (oi := ⟨some 52, _, _, _, _, _⟩) rfl (by kernel_rfl) (by kernel_rfl) (by kernel_rfl) (fun _ _ _ h => h) (Or.inr ⟨by rfl, rfl⟩) (by assumption) ?r16c
              (try simp only [Act.put, List.setIfInBounds_toArray, List.set_cons_zero, List.set_cons_succ])
              refine wpAnyH_take (i := 17) (oi := ⟨some 53, _, _, _, _, _⟩) (v := ?v17c) rfl (by kernel_rfl) (by kernel_rfl) (by kernel_rfl) (fun _ _ _ h => h) (Or.inl ⟨by rfl, ?h17c⟩) (by assumption) ?r17c
              case h17c => (intro w hSw; (try dsimp only at hSw); go_simp; try with_reducible rfl)
              (try simp only [Act.put, List.setIfInBounds_toArray, List.set_cons_zero, List.set_cons_succ])
              refine wpAnyH_take (i := 18) (oi := ⟨some 4, _, _, _, _, _⟩) (v := ?v18c) rfl (by kernel_rfl) (by kernel_rfl) (by kernel_rfl) (fun _ _ _ h => h) (Or.inl ⟨by rfl, ?h18c⟩) (by assumption) ?r18c
              case h18c => (intro w hSw; (try dsimp only at hSw); go_simp; try with_reducible rfl)
              (try simp only [Act.put, List.setIfInBounds_toArray, List.set_cons_zero, List.set_cons_succ])
              refine wpAnyH_done (by kernel_rfl) ?_ _
              have HB5 := Lib.hid (‹Below w2.heap.size w2 wa ∧ _›).1
              go_wp2
              go_ret
              exact ⟨retBk HF.out.symm, belowThen HBW.out (belowThen HBJ.out (belowThen B2.out HB5.out))⟩
          · have hcf : (kz == K) = false := by simpa using hc
            have HX : Hid (∀ i, i < j + 1 → kd i ≠ K) := Lib.hid fun i hi => by
              rcases Nat.lt_or_ge i j with h' | h'
              · exact HJ.out i h'
              · have e : i = j := by omega
                subst e
                rw [HKZ.out]; exact hc
            clear hc
            have hb2 := fun o => Lib.hid (belowAlloc wr o)
            go_wp2
            go_roundw
            case rel => exact ⟨j + 1, by omega, by go_num, belowThen HBJ.out (hb2 _).out, HX⟩
            case measure => simp [intOf]; omega
        · have HX : Hid (R = false) := Lib.hid (by
            rw [← HR.out]; exact okKind fun i h2 h6 => HJ.out i (by omega))
          go_wp2
          go_ret
          exact ⟨retBk HX.out.symm, belowThen HBW.out hbj⟩
end Go.Proofs.YtnlhkeobfidjkaaDoor
