/-
  The specification's small functions: in, value, Keywords, Name, nodes, FewExpr, Strings.
-/
import Derived.Test.YtiaendggmamnkaaGreatDoorEQn
import Derived.Test.YtiaendggmamnkaaGreatDoorENk
namespace Go.Proofs.YtiaendggmamnkaaGreatDoor
open Go Go.RowKit

set_option maxHeartbeats 1000000 in
theorem rIn16 (l : List ByteArray) (n c : Nat) (hn : l.length = n) (A : Option Addr) (s : ByteArray) (w : World) (hr : RdE 1 ES w A c l) :
    Calls Tryz.prog 53 #[.slice A n c, .string s] w fun e w' => e = .returned (.bool (inS s l)) ∧ w = w' := by
  obtain ⟨b, hb⟩ : ∃ b, inS s l = b := ⟨_, rfl⟩
  rw [hb]
  have HB := Lib.hid hb
  have hm := hr.max
  have hle := hr.le
  rw [hn] at hle
  unfold maxLen at hm
  have HR := Lib.hid hr
  have HN := Lib.hid hn
  clear hb hr hn
  go_enter Tryz.func53, Tryz.ntmps53
  go_wp2
  go_loop [5] (fun i => ∃ k : Nat, k ≤ n ∧ i = .int .i64 k ∧ Hid (∀ j (hj : j < l.length), j < k → (s.toList == l[j].toList) = false)) (fun i => n - (intOf i).toNat)
  case atStart => exact ⟨0, Nat.zero_le _, rfl, Lib.hid fun j _ h => by omega⟩
  case round =>
    obtain ⟨k, hk, rfl, HA⟩ := hrel
    by_cases hlt : k < n
    · have hkl : k < l.length := by rw [HN.out]; exact hlt
      obtain ⟨q, off, hA, _, h1⟩ := HR.out.one hkl
      subst hA
      unfold ES at h1
      rw [Nat.mul_one] at h1
      obtain ⟨t, ht⟩ : ∃ t, l[k] = t := ⟨_, rfl⟩
      rw [ht] at h1
      have HT := Lib.hid ht
      have hk0 : (0 : Int) ≤ k := by omega
      have hk1 : (k : Int) < n := by omega
      clear ht
      have hsym : (s.toList == t.toList) = (t.toList == s.toList) := by rw [Bool.eq_iff_iff]; simp only [beq_iff_eq]; exact ⟨Eq.symm, Eq.symm⟩
      have HSY := Lib.hid hsym
      clear hsym
      cases hq : (t.toList == s.toList)
      · have HX := Lib.hid (show ∀ j (hj : j < l.length), j < k + 1 → (s.toList == l[j].toList) = false from fun j hj h => by
          rcases Nat.lt_or_ge j k with h' | h'
          · exact HA.out j hj h'
          · obtain rfl : j = k := by omega
            rw [HT.out, HSY.out]; exact hq)
        go_wp2
        go_round
        case rel => exact ⟨k + 1, by omega, by go_num, HX⟩
        case measure => simp [intOf]; omega
      · have HX := Lib.hid ((show inS s l = true from inSYes hkl (by rw [HT.out, HSY.out]; exact hq)).symm.trans HB.out)
        go_wp2
        go_ret
        exact ⟨retBl HX.out, rfl⟩
    · have HX := Lib.hid ((show inS s l = false from inSNo fun j hj => HA.out j hj (by have := HN.out; omega)).symm.trans HB.out)
      go_wp2
      go_ret
      exact ⟨retBl HX.out, rfl⟩
theorem rValue16 (k : Int) (w : World) : Calls Tryz.prog 51 #[.int .i64 k] w fun e w' => e = .returned (.bool (vlOk k)) ∧ w = w' := by
  unfold vlOk
  by_cases h1 : -2147483648 ≤ k
  · by_cases h2 : k ≤ 2147483647
    · rw [decide_eq_true h1, decide_eq_true h2]
      go_enter Tryz.func51, Tryz.ntmps51
      go_wp2
      all_goals first
        | (exfalso; omega)
        | (go_ret; exact ⟨rfl, rfl⟩)
    · rw [decide_eq_true h1, decide_eq_false h2]
      go_enter Tryz.func51, Tryz.ntmps51
      go_wp2
      all_goals first
        | (exfalso; omega)
        | (go_ret; exact ⟨rfl, rfl⟩)
  · rw [decide_eq_false h1]
    go_enter Tryz.func51, Tryz.ntmps51
    go_wp2
    all_goals first
      | (exfalso; omega)
      | (go_ret; exact ⟨rfl, rfl⟩)
/-- nodes: some number. -/
def GivesInt (w : World) (e : Ending) (w' : World) : Prop := ∃ v : Int, e = .returned (.int .i64 v) ∧ w = w'
set_option maxRecDepth 100000 in
set_option maxHeartbeats 1000000 in
theorem rNodes : ∀ (d : Nat) (ts : List Ex) (n c : Nat) (_ : ts.length = n) (A : Option Addr) (k : Int) (w : World) (_ : RdE 5 (EX d) w A c ts),
    Calls Tryz.prog 54 #[.slice A n c, .int .i64 k] w (GivesInt w)
  | d, ts, n, c, hn, A, k, w, hr => by
    have HI := Lib.hid (show ∀ d', d' < d → ∀ (ts : List Ex) (n c : Nat) (_ : ts.length = n) (A : Option Addr) (k : Int) (w : World) (_ : RdE 5 (EX d') w A c ts), Calls Tryz.prog 54 #[.slice A n c, .int .i64 k] w (GivesInt w) from fun d' h ts n c hn A k w hr => rNodes d' ts n c hn A k w hr)
    have hm := hr.max
    have hle := hr.le
    rw [hn] at hle
    unfold maxLen at hm
    have HR := Lib.hid hr
    have HN := Lib.hid hn
    clear hr hn
    go_enter Tryz.func54, Tryz.ntmps54
    go_wp2
    go_loopw [5, 6] (fun x i wr => ∃ (v : Int) (j : Nat), x = .int .i64 v ∧ i = .int .i64 j ∧ j ≤ n ∧ wr = w) (fun _ i _ => n - (intOf i).toNat)
    case atStart => exact ⟨_, 0, rfl, rfl, Nat.zero_le _, rfl⟩
    case round =>
      obtain ⟨v, j, rfl, rfl, hj, rfl⟩ := hrel
      by_cases hlt : j < n
      · by_cases hk : 0 < k
        · have hjl : j < ts.length := by rw [HN.out]; exact hlt
          have hj0 : (0 : Int) ≤ j := by omega
          have hj1 : (j : Int) < n := by omega
          cases d with
          | zero => exact (HR.out.one hjl).elim fun _ h => h.elim fun _ h => h.2.2.elim
          | succ d1 =>
            obtain ⟨b, o, hA, _, _, _, _, _, _, v4, x4, A4, c4, rfl, r4⟩ := HR.out.one hjl
            subst hA
            obtain ⟨P, hP⟩ : ∃ x, ts[j] = x := ⟨_, rfl⟩
            rw [hP] at x4 r4
            obtain ⟨n4, hn4⟩ : ∃ n, P.fst.length = n := ⟨_, rfl⟩
            rw [hn4] at x4
            have HC := Lib.hid (fun k => HI.out d1 (Nat.lt_succ_self _) P.fst n4 c4 hn4 A4 k wr r4)
            clear hP hn4 r4
            go_wp2_with fail
            refine (HC.out _).mono ?_
            rintro e w2 ⟨v2, rfl, rfl⟩
            go_wp2_with fail
            go_roundw
            case rel => exact ⟨_, j + 1, rfl, by go_num, by omega, trivial⟩
            case measure => simp [intOf]; omega
        · go_wp2
          all_goals first
            | (exfalso; omega)
            | (go_ret; exact ⟨_, rfl, rfl⟩)
            | (go_ret; exact ⟨_, rfl, trivial⟩)
      · go_wp2
        all_goals first
          | (exfalso; omega)
          | (go_ret; exact ⟨_, rfl, rfl⟩)
          | (go_ret; exact ⟨_, rfl, trivial⟩)
termination_by d => d
end Go.Proofs.YtiaendggmamnkaaGreatDoor
