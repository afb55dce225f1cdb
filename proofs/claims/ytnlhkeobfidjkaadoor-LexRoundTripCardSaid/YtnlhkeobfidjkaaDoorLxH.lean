/-
  The contract of the specification's Valid.
-/
import Derived.Test.YtnlhkeobfidjkaaDoorLxJ
import Derived.Test.YtnlhkeobfidjkaaDoorLxU
import Derived.Test.YtnlhkeobfidjkaaDoorLxG0
namespace Go.Proofs.YtnlhkeobfidjkaaDoor
open Go Go.RowKit

theorem retBh {a b : Bool} (h : a = b) : Ending.returned (.bool a) = .returned (.bool b) := by rw [h]
/-- What the specification's Valid compares. -/
theorem okRef (t : Tok) (h : t.text ≠ []) {k : Int} {u : List UInt8} {n e : Int} (hr : refT t.text = (k, u, n, e)) : okB9 t = (e == 0 && k == t.kind && u == t.text && n == t.n) := by
  cases ht : t.text with
  | nil => exact absurd ht h
  | cons c r =>
    rw [ht] at hr
    unfold okB9 okT
    rw [ht]
    simp only
    rw [refT] at hr
    by_cases h2 : cls c ≤ 2
    · rw [if_pos h2] at hr
      have : decide (3 ≤ cls c) = false := by simp; omega
      rw [this]
      injection hr with e1 hr; injection hr with e2 hr; injection hr with e3 e4
      rw [← e4]; rfl
    · rw [if_neg h2] at hr
      have : decide (3 ≤ cls c) = true := by simp; omega
      rw [this, Bool.true_and]
      cases hk : mkTok parE parV (cls c) (c :: r.take (more c r)) 0 with
      | error x =>
        rw [hk] at hr
        injection hr with e1 hr; injection hr with e2 hr; injection hr with e3 e4
        have hz : (e == 0) = false := by rw [← e4]; simpa using mkTokErr parE parV hk
        rw [hz]
        by_cases hm : more c r = r.length
        · rw [hm, List.take_length] at hk
          rw [hk]; simp
        · have hmm : (more c r == r.length) = false := by simpa using hm
          rw [hmm]; simp
      | ok x =>
        rw [hk] at hr
        injection hr with e1 hr; injection hr with e2 hr; injection hr with e3 e4
        have hx := (mkTokOk parE parV hk).1
        rw [← e1, ← e2, ← e3, ← e4]
        by_cases hm : more c r = r.length
        · rw [hm, List.take_length] at hk hx
          rw [hk, hm, hx]; simp
        · have hmm : (more c r == r.length) = false := by simpa using hm
          have hne : (x.text == c :: r) = false := by
            rw [beq_eq_false_iff_ne, hx]
            intro h
            injection h with _ h
            have h3 := congrArg List.length h
            rw [List.length_take] at h3
            have := moreLe c r
            omega
          rw [hmm, hne]; simp
set_option maxRecDepth 100000 in
set_option maxHeartbeats 8000000 in
theorem rValid (K V q : Int) (s : ByteArray) (hs : s.size ≤ 281474976710656) (w : World) :
    Calls Tryd.prog 25 #[.agg #[.int .i64 K, .string s, .int .i64 V, .int .i64 q]] w fun e w' => e = .returned (.bool (okB9 ⟨K, s.data.toList, V, q⟩)) ∧ Below w.heap.size w w' := by
  obtain ⟨R, hR⟩ : ∃ R, okB9 ⟨K, s.data.toList, V, q⟩ = R := ⟨_, rfl⟩
  rw [hR]
  have HR := Lib.hid hR
  obtain ⟨W, hWE⟩ : ∃ W, w.alloc (.cells #[.int .i64 K, .string s, .int .i64 V, .int .i64 q] 40) = W := ⟨_, rfl⟩
  have hbW : Below w.heap.size w W := by rw [← hWE]; exact belowAlloc w _
  have hB : Blk W w.heap.size 40 #[.int .i64 K, .string s, .int .i64 V, .int .i64 q] := by rw [← hWE]; exact Blk.new w _ _
  have d1 : W.cell? ⟨w.heap.size, 1, none⟩ = some (.string s) := hB.cell 1
  have HCC : Hid (∀ X, Below W.heap.size W X → X.cell? ⟨w.heap.size, 0, none⟩ = some (.int .i64 K) ∧ X.cell? ⟨w.heap.size, 1, none⟩ = some (.string s) ∧ X.cell? ⟨w.heap.size, 2, none⟩ = some (.int .i64 V)) :=
    Lib.hid fun X hX => ⟨(hX.cell hB.lt).trans (hB.cell 0), (hX.cell hB.lt).trans d1, (hX.cell hB.lt).trans (hB.cell 2)⟩
  have HW := Lib.hid hWE
  have HBW := Lib.hid hbW
  clear hWE hB hR hbW
  by_cases h0 : s.size = 0
  · have hse : s = ⟨#[]⟩ := by
      have : s.data.size = 0 := h0
      have h2 : s.data = #[] := Array.eq_empty_of_size_eq_zero this
      cases s; simp only at h2; rw [h2]
    subst hse
    have HX : Hid (R = false) := Lib.hid (by rw [← HR.out]; exact okNoText rfl)
    go_enter Tryd.func25, Tryd.ntmps25
    go_wp2_with fail
    rw [HW.out]
    go_wp2
    go_ret
    exact ⟨retBh HX.out.symm, HBW.out⟩
  · have hse := emptyOf h0
    have hne := neOf h0
    obtain ⟨⟨k, u, n, e0⟩, hx⟩ : ∃ x, refT s.data.toList = x := ⟨_, rfl⟩
    have HX : Hid ((e0 == 0 && k == K && u == s.data.toList && n == V) = R) := Lib.hid (by rw [← HR.out]; exact (okRef ⟨K, s.data.toList, V, q⟩ hne hx).symm)
    have HT := Lib.hid (fun X => rToken s (by omega) hs X)
    rw [hx] at HT
    clear hne hx
    go_enter Tryd.func25, Tryd.ntmps25
    go_wp2_with fail
    rw [HW.out]
    go_wp2_with fail
    refine (HT.out _).mono ?_
    rintro e w1 ⟨he, b1⟩
    have he : e = .returned (.tuple #[.agg #[.int .i64 k, .string (bs u), .int .i64 n, .int .i64 0], .int .i64 e0]) := he
    subst he
    obtain ⟨d0', d1', d2'⟩ := HCC.out (w1.alloc (.cells #[.int .i64 k, .string (bs u), .int .i64 n, .int .i64 0] 40)) (belowThen b1 (belowAlloc w1 _))
    have B1 := Lib.hid b1
    have B2 := fun o => Lib.hid (belowThen b1 (belowAlloc w1 o))
    clear b1 d1
    by_cases h1 : e0 = 0
    · subst h1
      by_cases h2 : k = K
      · subst h2
        by_cases h3 : u = s.data.toList
        · subst h3
          have HY : Hid ((n == V) = R) := Lib.hid (by rw [← HX.out]; simp)
          rw [bsOf] at d0' d1' d2'
          rw [bsOf]
          go_wp2
          go_ret
          exact ⟨retBh HY.out, belowThen HBW.out (B2 _).out⟩
        · have g3 : ((bs u).toList == s.toList) = false := by
            rw [ByteArray.toList_eq, ByteArray.toList_eq, bsTo, beq_eq_false_iff_ne]; exact h3
          have HF : Hid (R = false) := Lib.hid (by rw [← HX.out, show (u == s.data.toList) = false from beq_eq_false_iff_ne.2 h3]; simp)
          clear h3
          go_wp2
          go_ret
          exact ⟨retBh HF.out.symm, belowThen HBW.out (B2 _).out⟩
      · have g2 : (k == K) = false := by simpa using h2
        have HF : Hid (R = false) := Lib.hid (by rw [← HX.out, g2]; simp)
        clear h2
        go_wp2
        go_ret
        exact ⟨retBh HF.out.symm, belowThen HBW.out (B2 _).out⟩
    · have g1 : (e0 == 0) = false := by simpa using h1
      have HF : Hid (R = false) := Lib.hid (by rw [← HX.out, g1]; simp)
      clear h1
      go_wp2
      go_ret
      exact ⟨retBh HF.out.symm, belowThen HBW.out (B2 _).out⟩
end Go.Proofs.YtnlhkeobfidjkaaDoor
