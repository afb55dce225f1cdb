/-
  The contract of the specification's Same: whether two lists of tokens are equal.
-/
import Derived.Test.YtnlhkeobfidjkaaDoorLxW
import Derived.Test.YtnlhkeobfidjkaaDoorLxC
import Derived.Laws.StructEq
namespace Go.Proofs.YtnlhkeobfidjkaaDoor
open Go Go.RowKit

theorem tokExt {a b : Tok} (h1 : a.kind = b.kind) (h2 : a.text = b.text) (h3 : a.n = b.n) (h4 : a.pos = b.pos) : a = b := by
  obtain ⟨_, _, _, _⟩ := a; obtain ⟨_, _, _, _⟩ := b; simp_all
theorem bsList (l : List UInt8) : (bs l).toList = l := by rw [ByteArray.toList_eq]; exact bsTo l
theorem sameNo {l m : List Tok} {k : Nat} (h1 : k < l.length) (h2 : k < m.length) (h : l[k] ≠ m[k]) : false = decide (l = m) := by
  symm; rw [decide_eq_false_iff_not]; intro e; subst e; exact h rfl
theorem sameYes {l m : List Tok} {n : Nat} (h1 : l.length = n) (h2 : m.length = n) (h : ∀ j (hj : j < l.length) (hm : j < m.length), l[j] = m[j]) : true = decide (l = m) := by
  symm; rw [decide_eq_true_iff]; exact List.ext_getElem (h1.trans h2.symm) fun i a b => h i a b
set_option maxRecDepth 100000 in
set_option maxHeartbeats 2000000 in
theorem rSame (l m : List Tok) (n k : Nat) (hn : l.length = n) (hk : m.length = k) (A B : Option Addr) (c d : Nat) (w : World) (ha : Rk w A c l) (hb : Rk w B d m) :
    Calls Tryd.prog 11 #[.slice A n c, .slice B k d] w fun e w' => e = .returned (.bool (decide (l = m))) ∧ Below w.heap.size w w' := by
  obtain ⟨r, hr⟩ : ∃ r, decide (l = m) = r := ⟨_, rfl⟩
  rw [hr]
  have HR := Lib.hid hr
  have HA := Lib.hid (fun Y (hY : Below w.heap.size w Y) => ha.below hY)
  have HB := Lib.hid (fun Y (hY : Below w.heap.size w Y) => hb.below hY)
  have h1 := ha.le
  have h2 := ha.max
  have h3 := hb.le
  have h4 := hb.max
  rw [hn] at h1
  rw [hk] at h3
  unfold maxLen at h2 h4
  have HN := Lib.hid hn
  have HM := Lib.hid hk
  clear hr ha hb hn hk
  by_cases hnk : n = k
  rotate_left
  · have hne : ((n : Int) != (k : Int)) = true := by simp; omega
    have HX := Lib.hid (show false = r by rw [← HR.out]; symm; rw [decide_eq_false_iff_not]; intro e; exact hnk (by rw [← HN.out, ← HM.out, e]))
    go_enter Tryd.func11, Tryd.ntmps11
    go_wp2
    go_ret
    exact ⟨retBc HX.out, Below.refl _ _⟩
  subst hnk
  go_enter Tryd.func11, Tryd.ntmps11
  go_wp2
  go_loopw [5] (fun i wr => ∃ j : Nat, j ≤ n ∧ i = .int .i64 j ∧ Below w.heap.size w wr ∧ Hid (∀ i (h1 : i < l.length) (h2 : i < m.length), i < j → l[i] = m[i])) (fun i _ => n - (intOf i).toNat)
  case atStart => exact ⟨0, Nat.zero_le _, rfl, Below.refl _ _, Lib.hid fun i _ _ h => by omega⟩
  case round =>
    obtain ⟨j, hj, rfl, hb, HE⟩ := hrel
    by_cases hlt : j < n
    · have hjl : j < l.length := by rw [HN.out]; exact hlt
      have hjm : j < m.length := by rw [HM.out]; exact hlt
      obtain ⟨b1, o1, e1, _, x0, x1, x2, x3⟩ := (HA.out wr hb).one hjl
      obtain ⟨b2, o2, e2, _, y0, y1, y2, y3⟩ := (HB.out wr hb).one hjm
      have hj0 : (0 : Int) ≤ j := by omega
      have hj1 : (j : Int) < n := by omega
      subst e1; subst e2
      have HDN := Lib.hid (fun nq => belowDrewN hb nq)
      by_cases he : l[j] = m[j]
      · have HX : Hid (∀ i (h1 : i < l.length) (h2 : i < m.length), i < j + 1 → l[i] = m[i]) := Lib.hid fun i h1 h2 hlt => by
          rcases Nat.lt_or_ge i j with h' | h'
          · exact HE.out i h1 h2 h'
          · have e : i = j := by omega
            subst e
            exact he
        rw [← he] at y0 y1 y2 y3
        generalize l[j] = t at *
        obtain ⟨K, T, N, P⟩ := t
        simp only at *
        clear he
        go_wp2_with fail
        go_quiet (fail)
        go_wp2
        go_roundw
        case rel => exact ⟨j + 1, by omega, by go_num, HDN.out _, HX⟩
        case measure => simp [intOf]; omega
      · have HX := Lib.hid ((sameNo hjl hjm he).trans HR.out)
        generalize l[j] = t at *
        generalize m[j] = u at *
        obtain ⟨K, T, N, P⟩ := t
        obtain ⟨K', T', N', P'⟩ := u
        simp only at *
        by_cases g1 : K = K'
        rotate_left
        · have f1 : (K == K') = false := by simpa using g1
          clear g1 he
          go_wp2_with fail
          go_quiet (fail)
          go_wp2
          go_ret
          exact ⟨retBc HX.out, HDN.out _⟩
        subst g1
        by_cases g2 : T = T'
        rotate_left
        · have f1 : ((bs T).toList == (bs T').toList) = false := by rw [bsList, bsList]; simpa using g2
          clear g2 he
          go_wp2_with fail
          go_quiet (fail)
          go_wp2
          go_ret
          exact ⟨retBc HX.out, HDN.out _⟩
        subst g2
        by_cases g3 : N = N'
        rotate_left
        · have f1 : (N == N') = false := by simpa using g3
          clear g3 he
          go_wp2_with fail
          go_quiet (fail)
          go_wp2
          go_ret
          exact ⟨retBc HX.out, HDN.out _⟩
        subst g3
        have f1 : (P == P') = false := by
          rw [beq_eq_false_iff_ne]; intro e; subst e; exact he rfl
        clear he
        go_wp2_with fail
        go_quiet (fail)
        go_wp2
        go_ret
        exact ⟨retBc HX.out, HDN.out _⟩
    · have HX := Lib.hid ((sameYes HN.out HM.out fun i h1 h2 => HE.out i h1 h2 (by rw [HN.out] at h1; omega)).trans HR.out)
      go_wp2
      go_ret
      exact ⟨retBc HX.out, hb⟩
end Go.Proofs.YtnlhkeobfidjkaaDoor
