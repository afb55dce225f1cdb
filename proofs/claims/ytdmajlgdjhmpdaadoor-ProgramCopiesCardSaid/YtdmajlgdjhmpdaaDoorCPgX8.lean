/-
  slices.Equal at four kinds of elements, slices.EqualFunc at functions; the program's comparison of two programs.
-/
import Derived.Test.YtdmajlgdjhmpdaaDoorCPgX6
namespace Go.Proofs.YtdmajlgdjhmpdaaDoor
open Go Go.RowKit

theorem listNo {α : Type} [DecidableEq α] {l m : List α} {k : Nat} (h1 : k < l.length) (h2 : k < m.length) (h : l[k] ≠ m[k]) : false = decide (l = m) := by
  rw [decide_eq_false fun e => ?_]
  subst e
  exact h rfl
theorem listLen {α : Type} [DecidableEq α] {l m : List α} (h : l.length ≠ m.length) : false = decide (l = m) := by
  rw [decide_eq_false fun e => h (by rw [e])]
theorem listYes {α : Type} [DecidableEq α] {l m : List α} {k : Nat} (hu : UpTo l m k) (hl : l.length = m.length) (hk : l.length ≤ k) : true = decide (l = m) := by
  rw [decide_eq_true (hu.eq hl hk)]

set_option maxRecDepth 100000 in
set_option maxHeartbeats 2000000 in
theorem iEqV (l m : List (ByteArray × Int)) (n k : Nat) (hn : l.length = n) (hm : m.length = k) (A B : Option Addr) (c d : Nat) (w : World) (ha : RdE 2 EV w A c l) (hb : RdE 2 EV w B d m) :
    Calls Tryd.prog 27 #[.slice A n c, .slice B k d] w fun e w' => e = .returned (.bool (decide (l = m))) ∧ Below w.heap.size w w' := by
  obtain ⟨r, hr⟩ : ∃ r, decide (l = m) = r := ⟨_, rfl⟩
  rw [hr]
  have HR := Lib.hid hr
  have HA := Lib.hid (fun X (hX : Below w.heap.size w X) j (hj : j < l.length) => (ha.below stabV hX).one hj)
  have HB := Lib.hid (fun X (hX : Below w.heap.size w X) j (hj : j < m.length) => (hb.below stabV hX).one hj)
  have HN := Lib.hid hn
  have HM := Lib.hid hm
  have g1 := ha.le
  have g2 := ha.max
  have g3 := hb.le
  have g4 := hb.max
  rw [hn] at g1
  rw [hm] at g3
  unfold maxLen at g2 g4
  clear hr ha hb hn hm
  by_cases hnk : n = k
  rotate_left
  · have HX := Lib.hid ((listLen (l := l) (m := m) (by rw [HN.out, HM.out]; exact hnk)).trans HR.out)
    have hne : ((n : Int) != (k : Int)) = true := by simp; omega
    have hne2 : decide (n = k) = false := by simpa using hnk
    have hb0 := Below.refl w.heap.size w
    go_enter Tryd.func27, Tryd.ntmps27
    go_wp2
    all_goals first
      | (exfalso; omega)
      | (go_ret; exact ⟨retBl HX.out, hb0⟩)
  subst hnk
  go_enter Tryd.func27, Tryd.ntmps27
  go_wp2
  go_loopw [5, 13] (fun _ i wr => ∃ j : Nat, j ≤ n ∧ i = .int .i64 j ∧ Below w.heap.size w wr ∧ Hid (UpTo l m j)) (fun _ i _ => n - (intOf i).toNat)
  case atStart => exact ⟨0, Nat.zero_le _, rfl, Below.refl _ _, Lib.hid UpTo.zero⟩
  case round =>
    obtain ⟨j, hj, rfl, hb, HU⟩ := hrel
    by_cases hlt : j < n
    · have h1 : j < l.length := by rw [HN.out]; exact hlt
      have h2 : j < m.length := by rw [HM.out]; exact hlt
      obtain ⟨q, o, hA, _, hc⟩ := HA.out wr hb j h1
      obtain ⟨q', o', hB, _, hd⟩ := HB.out wr hb j h2
      subst hA hB
      have hj0 : (0 : Int) ≤ j := by omega
      have hj1 : (j : Int) < n := by omega
      have HN2 := Lib.hid (fun nq => belowDrewN hb nq)
      obtain ⟨⟨s, x⟩, hx⟩ : ∃ x, l[j] = x := ⟨_, rfl⟩
      obtain ⟨⟨t, y⟩, hy⟩ : ∃ y, m[j] = y := ⟨_, rfl⟩
      rw [hx] at hc
      rw [hy] at hd
      obtain ⟨p0, p1⟩ := hc
      obtain ⟨r0, r1⟩ := hd
      simp only at p0 p1 r0 r1
      have HQ := fun X => eqVarIs s t x y X
      cases he : (sEq s t && x == y)
      · have HX := Lib.hid ((listNo (l := l) (m := m) h1 h2 (by
          rw [hx, hy]
          intro e
          injection e with e1 e2
          subst e1 e2
          rw [Bool.and_eq_false_iff] at he
          rcases he with he | he
          · rw [sEqIff] at he; simp at he
          · simp at he)).trans HR.out)
        rw [he] at HQ
        clear he
        clear hx hy h1 h2 HU
        go_wp2_with fail
        go_quiet (fail)
        go_wp2
        go_ret
        exact ⟨retBl HX.out, HN2.out _⟩
      · have HX := Lib.hid (HU.out.succ h1 h2 (by
          rw [Bool.and_eq_true] at he
          rw [hx, hy, sEqTo he.1, of_decide_eq_true (show decide (x = y) = true from he.2)]))
        rw [he] at HQ
        clear he
        clear hx hy h1 h2 HU
        go_wp2_with fail
        go_quiet (fail)
        go_wp2
        go_roundw
        case rel => exact ⟨j + 1, by omega, by go_num, HN2.out _, HX⟩
        case measure => simp [intOf]; omega
    · have HX := Lib.hid ((listYes HU.out (by rw [HN.out, HM.out]) (by rw [HN.out]; omega)).trans HR.out)
      go_wp2
      go_ret
      exact ⟨retBl HX.out, hb⟩

set_option maxRecDepth 100000 in
set_option maxHeartbeats 2000000 in
theorem iEqS (l m : List ByteArray) (n k : Nat) (hn : l.length = n) (hm : m.length = k) (A B : Option Addr) (c d : Nat) (w : World) (ha : RdE 1 ES w A c l) (hb : RdE 1 ES w B d m) :
    Calls Tryd.prog 28 #[.slice A n c, .slice B k d] w fun e w' => e = .returned (.bool (decide (l = m))) ∧ Below w.heap.size w w' := by
  obtain ⟨r, hr⟩ : ∃ r, decide (l = m) = r := ⟨_, rfl⟩
  rw [hr]
  have HR := Lib.hid hr
  have HA := Lib.hid (fun X (hX : Below w.heap.size w X) j (hj : j < l.length) => (ha.below stabS hX).one hj)
  have HB := Lib.hid (fun X (hX : Below w.heap.size w X) j (hj : j < m.length) => (hb.below stabS hX).one hj)
  have HN := Lib.hid hn
  have HM := Lib.hid hm
  have g1 := ha.le
  have g2 := ha.max
  have g3 := hb.le
  have g4 := hb.max
  rw [hn] at g1
  rw [hm] at g3
  unfold maxLen at g2 g4
  clear hr ha hb hn hm
  by_cases hnk : n = k
  rotate_left
  · have HX := Lib.hid ((listLen (l := l) (m := m) (by rw [HN.out, HM.out]; exact hnk)).trans HR.out)
    have hne : ((n : Int) != (k : Int)) = true := by simp; omega
    have hne2 : decide (n = k) = false := by simpa using hnk
    have hb0 := Below.refl w.heap.size w
    go_enter Tryd.func28, Tryd.ntmps28
    go_wp2
    all_goals first
      | (exfalso; omega)
      | (go_ret; exact ⟨retBl HX.out, hb0⟩)
  subst hnk
  go_enter Tryd.func28, Tryd.ntmps28
  go_wp2
  go_loopw [5, 13] (fun _ i wr => ∃ j : Nat, j ≤ n ∧ i = .int .i64 j ∧ Below w.heap.size w wr ∧ Hid (UpTo l m j)) (fun _ i _ => n - (intOf i).toNat)
  case atStart => exact ⟨0, Nat.zero_le _, rfl, Below.refl _ _, Lib.hid UpTo.zero⟩
  case round =>
    obtain ⟨j, hj, rfl, hb, HU⟩ := hrel
    by_cases hlt : j < n
    · have h1 : j < l.length := by rw [HN.out]; exact hlt
      have h2 : j < m.length := by rw [HM.out]; exact hlt
      obtain ⟨q, o, hA, _, hc⟩ := HA.out wr hb j h1
      obtain ⟨q', o', hB, _, hd⟩ := HB.out wr hb j h2
      subst hA hB
      have hj0 : (0 : Int) ≤ j := by omega
      have hj1 : (j : Int) < n := by omega
      have HN2 := Lib.hid (fun nq => belowDrewN hb nq)
      obtain ⟨s, hx⟩ : ∃ x, l[j] = x := ⟨_, rfl⟩
      obtain ⟨t, hy⟩ : ∃ y, m[j] = y := ⟨_, rfl⟩
      rw [hx] at hc
      rw [hy] at hd
      unfold ES at hc hd
      rw [Nat.mul_one] at hc hd
      cases he : sEq s t
      · have HX := Lib.hid ((listNo (l := l) (m := m) h1 h2 (by
          rw [hx, hy]
          intro e
          subst e
          rw [sEqIff] at he
          simp at he)).trans HR.out)
        unfold sEq at he
        clear hx hy h1 h2 HU
        go_wp2_with fail
        go_quiet (fail)
        go_wp2
        go_ret
        exact ⟨retBl HX.out, HN2.out _⟩
      · have HX := Lib.hid (HU.out.succ h1 h2 (by
          rw [hx, hy, sEqTo he]))
        unfold sEq at he
        clear hx hy h1 h2 HU
        go_wp2_with fail
        go_quiet (fail)
        go_wp2
        go_roundw
        case rel => exact ⟨j + 1, by omega, by go_num, HN2.out _, HX⟩
        case measure => simp [intOf]; omega
    · have HX := Lib.hid ((listYes HU.out (by rw [HN.out, HM.out]) (by rw [HN.out]; omega)).trans HR.out)
      go_wp2
      go_ret
      exact ⟨retBl HX.out, hb⟩

set_option maxRecDepth 100000 in
set_option maxHeartbeats 2000000 in
theorem iEqT (l m : List (Int × Int)) (n k : Nat) (hn : l.length = n) (hm : m.length = k) (A B : Option Addr) (c d : Nat) (w : World) (ha : RdE 2 ET w A c l) (hb : RdE 2 ET w B d m) :
    Calls Tryd.prog 30 #[.slice A n c, .slice B k d] w fun e w' => e = .returned (.bool (decide (l = m))) ∧ Below w.heap.size w w' := by
  obtain ⟨r, hr⟩ : ∃ r, decide (l = m) = r := ⟨_, rfl⟩
  rw [hr]
  have HR := Lib.hid hr
  have HA := Lib.hid (fun X (hX : Below w.heap.size w X) j (hj : j < l.length) => (ha.below stabT hX).one hj)
  have HB := Lib.hid (fun X (hX : Below w.heap.size w X) j (hj : j < m.length) => (hb.below stabT hX).one hj)
  have HN := Lib.hid hn
  have HM := Lib.hid hm
  have g1 := ha.le
  have g2 := ha.max
  have g3 := hb.le
  have g4 := hb.max
  rw [hn] at g1
  rw [hm] at g3
  unfold maxLen at g2 g4
  clear hr ha hb hn hm
  by_cases hnk : n = k
  rotate_left
  · have HX := Lib.hid ((listLen (l := l) (m := m) (by rw [HN.out, HM.out]; exact hnk)).trans HR.out)
    have hne : ((n : Int) != (k : Int)) = true := by simp; omega
    have hne2 : decide (n = k) = false := by simpa using hnk
    have hb0 := Below.refl w.heap.size w
    go_enter Tryd.func30, Tryd.ntmps30
    go_wp2
    all_goals first
      | (exfalso; omega)
      | (go_ret; exact ⟨retBl HX.out, hb0⟩)
  subst hnk
  go_enter Tryd.func30, Tryd.ntmps30
  go_wp2
  go_loopw [5, 13] (fun _ i wr => ∃ j : Nat, j ≤ n ∧ i = .int .i64 j ∧ Below w.heap.size w wr ∧ Hid (UpTo l m j)) (fun _ i _ => n - (intOf i).toNat)
  case atStart => exact ⟨0, Nat.zero_le _, rfl, Below.refl _ _, Lib.hid UpTo.zero⟩
  case round =>
    obtain ⟨j, hj, rfl, hb, HU⟩ := hrel
    by_cases hlt : j < n
    · have h1 : j < l.length := by rw [HN.out]; exact hlt
      have h2 : j < m.length := by rw [HM.out]; exact hlt
      obtain ⟨q, o, hA, _, hc⟩ := HA.out wr hb j h1
      obtain ⟨q', o', hB, _, hd⟩ := HB.out wr hb j h2
      subst hA hB
      have hj0 : (0 : Int) ≤ j := by omega
      have hj1 : (j : Int) < n := by omega
      have HN2 := Lib.hid (fun nq => belowDrewN hb nq)
      obtain ⟨⟨s, x⟩, hx⟩ : ∃ x, l[j] = x := ⟨_, rfl⟩
      obtain ⟨⟨t, y⟩, hy⟩ : ∃ y, m[j] = y := ⟨_, rfl⟩
      rw [hx] at hc
      rw [hy] at hd
      obtain ⟨p0, p1⟩ := hc
      obtain ⟨r0, r1⟩ := hd
      simp only at p0 p1 r0 r1
      have HQ := fun X => eqStartIs s t x y X
      cases he : (s == t && x == y)
      · have HX := Lib.hid ((listNo (l := l) (m := m) h1 h2 (by
          rw [hx, hy]
          intro e
          injection e with e1 e2
          subst e1 e2
          simp at he)).trans HR.out)
        rw [he] at HQ
        clear he
        clear hx hy h1 h2 HU
        go_wp2_with fail
        go_quiet (fail)
        go_wp2
        go_ret
        exact ⟨retBl HX.out, HN2.out _⟩
      · have HX := Lib.hid (HU.out.succ h1 h2 (by
          rw [Bool.and_eq_true] at he
          rw [hx, hy, of_decide_eq_true (show decide (s = t) = true from he.1), of_decide_eq_true (show decide (x = y) = true from he.2)]))
        rw [he] at HQ
        clear he
        clear hx hy h1 h2 HU
        go_wp2_with fail
        go_quiet (fail)
        go_wp2
        go_roundw
        case rel => exact ⟨j + 1, by omega, by go_num, HN2.out _, HX⟩
        case measure => simp [intOf]; omega
    · have HX := Lib.hid ((listYes HU.out (by rw [HN.out, HM.out]) (by rw [HN.out]; omega)).trans HR.out)
      go_wp2
      go_ret
      exact ⟨retBl HX.out, hb⟩

set_option maxRecDepth 100000 in
set_option maxHeartbeats 2000000 in
theorem iEqI (l m : List I8) (n k : Nat) (hn : l.length = n) (hm : m.length = k) (A B : Option Addr) (c d : Nat) (w : World) (ha : RdE 8 EI w A c l) (hb : RdE 8 EI w B d m) :
    Calls Tryd.prog 26 #[.slice A n c, .slice B k d] w fun e w' => e = .returned (.bool (decide (l = m))) ∧ Below w.heap.size w w' := by
  obtain ⟨r, hr⟩ : ∃ r, decide (l = m) = r := ⟨_, rfl⟩
  rw [hr]
  have HR := Lib.hid hr
  have HA := Lib.hid (fun X (hX : Below w.heap.size w X) j (hj : j < l.length) => (ha.below stabI hX).one hj)
  have HB := Lib.hid (fun X (hX : Below w.heap.size w X) j (hj : j < m.length) => (hb.below stabI hX).one hj)
  have HN := Lib.hid hn
  have HM := Lib.hid hm
  have g1 := ha.le
  have g2 := ha.max
  have g3 := hb.le
  have g4 := hb.max
  rw [hn] at g1
  rw [hm] at g3
  unfold maxLen at g2 g4
  clear hr ha hb hn hm
  by_cases hnk : n = k
  rotate_left
  · have HX := Lib.hid ((listLen (l := l) (m := m) (by rw [HN.out, HM.out]; exact hnk)).trans HR.out)
    have hne : ((n : Int) != (k : Int)) = true := by simp; omega
    have hne2 : decide (n = k) = false := by simpa using hnk
    have hb0 := Below.refl w.heap.size w
    go_enter Tryd.func26, Tryd.ntmps26
    go_wp2
    all_goals first
      | (exfalso; omega)
      | (go_ret; exact ⟨retBl HX.out, hb0⟩)
  subst hnk
  go_enter Tryd.func26, Tryd.ntmps26
  go_wp2
  go_loopw [5, 13] (fun _ i wr => ∃ j : Nat, j ≤ n ∧ i = .int .i64 j ∧ Below w.heap.size w wr ∧ Hid (UpTo l m j)) (fun _ i _ => n - (intOf i).toNat)
  case atStart => exact ⟨0, Nat.zero_le _, rfl, Below.refl _ _, Lib.hid UpTo.zero⟩
  case round =>
    obtain ⟨j, hj, rfl, hb, HU⟩ := hrel
    by_cases hlt : j < n
    · have h1 : j < l.length := by rw [HN.out]; exact hlt
      have h2 : j < m.length := by rw [HM.out]; exact hlt
      obtain ⟨q, o, hA, _, hc⟩ := HA.out wr hb j h1
      obtain ⟨q', o', hB, _, hd⟩ := HB.out wr hb j h2
      subst hA hB
      have hj0 : (0 : Int) ≤ j := by omega
      have hj1 : (j : Int) < n := by omega
      have HN2 := Lib.hid (fun nq => belowDrewN hb nq)
      obtain ⟨x, hx⟩ : ∃ x, l[j] = x := ⟨_, rfl⟩
      obtain ⟨y, hy⟩ : ∃ y, m[j] = y := ⟨_, rfl⟩
      rw [hx] at hc
      rw [hy] at hd
      cases he : i8Eq x y
      · have HX := Lib.hid ((listNo (l := l) (m := m) h1 h2 (by
          rw [hx, hy]
          intro e
          subst e
          rw [i8EqIff] at he
          simp at he)).trans HR.out)
        obtain ⟨x0, x1, x2, x3, x4, x5, x6, x7⟩ := x
        obtain ⟨y0, y1, y2, y3, y4, y5, y6, y7⟩ := y
        have HQ := fun X => eqInstIs x0 x1 x2 x3 x4 x5 x6 x7 y0 y1 y2 y3 y4 y5 y6 y7 X
        unfold i8Eq at he
        simp only at he
        rw [he] at HQ
        obtain ⟨p0, p1, p2, p3, p4, p5, p6, p7⟩ := hc
        obtain ⟨r0, r1, r2, r3, r4, r5, r6, r7⟩ := hd
        simp only at p0 p1 p2 p3 p4 p5 p6 p7 r0 r1 r2 r3 r4 r5 r6 r7
        clear he
        clear hx hy h1 h2 HU
        go_wp2_with fail
        go_quiet (fail)
        go_wp2
        go_ret
        exact ⟨retBl HX.out, HN2.out _⟩
      · have HX := Lib.hid (HU.out.succ h1 h2 (by
          rw [hx, hy, i8EqTo he]))
        obtain ⟨x0, x1, x2, x3, x4, x5, x6, x7⟩ := x
        obtain ⟨y0, y1, y2, y3, y4, y5, y6, y7⟩ := y
        have HQ := fun X => eqInstIs x0 x1 x2 x3 x4 x5 x6 x7 y0 y1 y2 y3 y4 y5 y6 y7 X
        unfold i8Eq at he
        simp only at he
        rw [he] at HQ
        obtain ⟨p0, p1, p2, p3, p4, p5, p6, p7⟩ := hc
        obtain ⟨r0, r1, r2, r3, r4, r5, r6, r7⟩ := hd
        simp only at p0 p1 p2 p3 p4 p5 p6 p7 r0 r1 r2 r3 r4 r5 r6 r7
        clear he
        clear hx hy h1 h2 HU
        go_wp2_with fail
        go_quiet (fail)
        go_wp2
        go_roundw
        case rel => exact ⟨j + 1, by omega, by go_num, HN2.out _, HX⟩
        case measure => simp [intOf]; omega
    · have HX := Lib.hid ((listYes HU.out (by rw [HN.out, HM.out]) (by rw [HN.out]; omega)).trans HR.out)
      go_wp2
      go_ret
      exact ⟨retBl HX.out, hb⟩
end Go.Proofs.YtdmajlgdjhmpdaaDoor

namespace Go.Proofs.YtdmajlgdjhmpdaaDoor
open Go Go.RowKit

theorem entEqF : ∀ args w, (callFunc 25 args).run Tryd.prog w = .ok (.enter 25 args) w := enters_of Tryd.func25 (by kernel_rfl) rfl
theorem fnSame {f g : ByteArray × List I8} (h1 : sEq f.1 g.1 = true) (h2 : decide (f.2 = g.2) = true) : true = sameFn f g := by
  unfold sameFn
  rw [decide_eq_true (Prod.ext (sEqTo h1) (of_decide_eq_true h2))]
theorem fnCode {f g : ByteArray × List I8} (h : decide (f.2 = g.2) = false) : false = sameFn f g := by
  unfold sameFn
  rw [decide_eq_false fun e => of_decide_eq_false h (by rw [e])]
set_option maxRecDepth 100000 in
set_option maxHeartbeats 2000000 in
theorem iEqF1 (f g : ByteArray × List I8) (n m : Nat) (hn : f.2.length = n) (hm : g.2.length = m) (A B : Option Addr) (c d : Nat) (w : World) (ha : RdE 8 EI w A c f.2) (hb : RdE 8 EI w B d g.2) :
    Calls Tryd.prog 25 #[.agg #[.string f.1, .slice A n c], .agg #[.string g.1, .slice B m d]] w fun e w' => e = .returned (.bool (sameFn f g)) ∧ Below w.heap.size w w' := by
  obtain ⟨r, hr⟩ : ∃ r, sameFn f g = r := ⟨_, rfl⟩
  rw [hr]
  have HR := Lib.hid hr
  have HI := Lib.hid (fun X (hX : Below w.heap.size w X) => iEqI f.2 g.2 n m hn hm A B c d X (ha.below stabI hX) (hb.below stabI hX))
  obtain ⟨s, hs⟩ : ∃ s, f.1 = s := ⟨_, rfl⟩
  obtain ⟨t, ht⟩ : ∃ t, g.1 = t := ⟨_, rfl⟩
  have hS : f.1 = s ∧ g.1 = t := ⟨hs, ht⟩
  rw [hs, ht]
  have HS := Lib.hid hS
  clear hr ha hb hn hm hs ht hS
  obtain ⟨W, hW⟩ : ∃ W, (w.alloc (.cells #[.string s, .slice A n c] 35)).alloc (.cells #[.string t, .slice B m d] 35) = W := ⟨_, rfl⟩
  have hbW : Below w.heap.size w W := by rw [← hW]; exact belowThen (belowAlloc _ _) (belowAlloc _ _)
  have HBW := Lib.hid hbW
  have HW := Lib.hid hW
  clear hbW hW
  cases hst : sEq s t
  · have HX := Lib.hid ((fnName (f := f) (g := g) (by rw [HS.out.1, HS.out.2]; exact hst)).trans HR.out)
    unfold sEq at hst
    go_enter Tryd.func25, Tryd.ntmps25
    go_wp2
    go_ret
    exact ⟨retBl HX.out, by rw [HW.out]; exact HBW.out⟩
  · obtain ⟨b, hb⟩ : ∃ b, decide (f.2 = g.2) = b := ⟨_, rfl⟩
    rw [hb] at HI
    have HX : Hid (b = r) := Lib.hid (by
      cases b
      · exact (fnCode hb).trans HR.out
      · exact (fnSame (by rw [HS.out.1, HS.out.2]; exact hst) hb).trans HR.out)
    unfold sEq at hst
    clear hb
    have HI1 := Lib.hid (HI.out W HBW.out)
    go_enter Tryd.func25, Tryd.ntmps25
    go_wp2_with fail
    rw [HW.out]
    refine HI1.out.mono ?_
    rintro e w1 ⟨rfl, b1⟩
    go_wp2
    go_ret
    exact ⟨retBl HX.out, belowThen HBW.out b1⟩
set_option maxRecDepth 100000 in
set_option maxHeartbeats 2000000 in
theorem iEqFs (l m : List (ByteArray × List I8)) (n k : Nat) (hn : l.length = n) (hm : m.length = k) (A B : Option Addr) (c d : Nat) (w : World) (ha : RdE 2 EF w A c l) (hb : RdE 2 EF w B d m) :
    Calls Tryd.prog 29 #[.slice A n c, .slice B k d, .func (.func 25) #[] #[]] w fun e w' => e = .returned (.bool (decide (l = m))) ∧ Below w.heap.size w w' := by
  obtain ⟨r, hr⟩ : ∃ r, decide (l = m) = r := ⟨_, rfl⟩
  rw [hr]
  have HR := Lib.hid hr
  have HA := Lib.hid (fun X (hX : Below w.heap.size w X) j (hj : j < l.length) => (ha.below stabF hX).one hj)
  have HB := Lib.hid (fun X (hX : Below w.heap.size w X) j (hj : j < m.length) => (hb.below stabF hX).one hj)
  have HN := Lib.hid hn
  have HM := Lib.hid hm
  have g1 := ha.le
  have g2 := ha.max
  have g3 := hb.le
  have g4 := hb.max
  rw [hn] at g1
  rw [hm] at g3
  unfold maxLen at g2 g4
  have hent := entEqF
  clear hr ha hb hn hm
  by_cases hnk : n = k
  rotate_left
  · have HX := Lib.hid ((listLen (l := l) (m := m) (by rw [HN.out, HM.out]; exact hnk)).trans HR.out)
    have hne : ((n : Int) != (k : Int)) = true := by simp; omega
    have hne2 : decide (n = k) = false := by simpa using hnk
    have hb0 := Below.refl w.heap.size w
    go_enter Tryd.func29, Tryd.ntmps29
    go_wp2
    all_goals first
      | (exfalso; omega)
      | (go_ret; exact ⟨retBl HX.out, hb0⟩)
  subst hnk
  go_enter Tryd.func29, Tryd.ntmps29
  go_wp2
  go_loopw [7, 8, 9, 17] (fun _ _ _ i wr => ∃ j : Nat, j ≤ n ∧ i = .int .i64 j ∧ Below w.heap.size w wr ∧ Hid (UpTo l m j)) (fun _ _ _ i _ => n - (intOf i).toNat)
  case atStart => exact ⟨0, Nat.zero_le _, rfl, Below.refl _ _, Lib.hid UpTo.zero⟩
  case round =>
    obtain ⟨j, hj, rfl, hb, HU⟩ := hrel
    by_cases hlt : j < n
    · have h1 : j < l.length := by rw [HN.out]; exact hlt
      have h2 : j < m.length := by rw [HM.out]; exact hlt
      obtain ⟨z, o, hA, _, hs1, v, hv, Ac, nc, cc, rfl, hnc, hrc⟩ := HA.out wr hb j h1
      obtain ⟨z', o', hB, _, hs2, v', hv', Bc, mc, dc, rfl, hmc, hrd⟩ := HB.out wr hb j h2
      subst hA hB
      have hj0 : (0 : Int) ≤ j := by omega
      have hj1 : (j : Int) < n := by omega
      have HFN := Lib.hid (fun Y (hY : Below wr.heap.size wr Y) => iEqF1 l[j] m[j] nc mc hnc hmc Ac Bc cc dc Y (hrc.below stabI hY) (hrd.below stabI hY))
      obtain ⟨en, hen⟩ : ∃ e, sameFn l[j] m[j] = e := ⟨_, rfl⟩
      rw [hen] at HFN
      have HXE : Hid (decide (l[j] = m[j]) = en) := Lib.hid hen
      have HBJ := Lib.hid hb
      generalize (l[j]).1 = s at hs1 HFN
      generalize (m[j]).1 = t at hs2 HFN
      have s1 : (wr.alloc (.cells #[.string s, .slice Ac nc cc] 35)).cell? ⟨z', o' + j * 2, none⟩ = some (.string t) := ((belowAlloc wr _).cell (World.block_lt_of_cell? _ _ hs2)).trans hs2
      have s2 : (wr.alloc (.cells #[.string s, .slice Ac nc cc] 35)).cell? ⟨z', o' + j * 2 + 1, none⟩ = some (.slice Bc mc dc) := ((belowAlloc wr _).cell (World.block_lt_of_cell? _ _ hv')).trans hv'
      have HBA := Lib.hid (belowThen (belowAlloc wr (.cells #[.string s, .slice Ac nc cc] 35)) (belowAlloc _ (.cells #[.string t, .slice Bc mc dc] 35)))
      clear hnc hmc hrc hrd hen hb
      cases en
      · have HX := Lib.hid ((listNo (l := l) (m := m) h1 h2 (of_decide_eq_false HXE.out)).trans HR.out)
        clear HXE h1 h2
        go_wp2_with fail
        refine (HFN.out _ HBA.out).mono ?_
        rintro e w1 ⟨rfl, b1⟩
        go_wp2
        go_ret
        exact ⟨retBl HX.out, belowThen HBJ.out (belowThen HBA.out b1)⟩
      · have HX := Lib.hid (HU.out.succ h1 h2 (of_decide_eq_true HXE.out))
        clear HXE h1 h2
        go_wp2_with fail
        refine (HFN.out _ HBA.out).mono ?_
        rintro e w1 ⟨rfl, b1⟩
        go_wp2
        go_roundw
        case rel => exact ⟨j + 1, by omega, by go_num, belowThen HBJ.out (belowThen HBA.out b1), HX⟩
        case measure => simp [intOf]; omega
    · have HX := Lib.hid ((listYes HU.out (by rw [HN.out, HM.out]) (by rw [HN.out]; omega)).trans HR.out)
      go_wp2
      go_ret
      exact ⟨retBl HX.out, hb⟩
set_option maxRecDepth 100000 in
set_option maxHeartbeats 4000000 in
theorem iEqual {a b : PgA} {p q : Prg} (w : World) (hP : PgW w a p) (hQ : PgW w b q) : Calls Tryd.prog 8 #[a.val, b.val] w fun e w' => e = .returned (.bool (eqP p q)) ∧ Below w.heap.size w w' := by
  obtain ⟨W, hW⟩ : ∃ W, (w.alloc (.cells a.fs 27)).alloc (.cells b.fs 27) = W := ⟨_, rfl⟩
  have hbW : Below w.heap.size w W := by rw [← hW]; exact belowThen (belowAlloc _ _) (belowAlloc _ _)
  have hk1 : PBox W w.heap.size a := by rw [← hW]; exact (Blk.new w _ _).alloc _
  have hk2 : PBox W (w.heap.size + 1) b := by rw [← hW]; exact Blk.new1 w _ _ _
  have HBW := Lib.hid hbW
  have HW := Lib.hid hW
  have HK := Lib.hid (fun X (hX : Below W.heap.size W X) => (hk1.below hX).facts)
  have HK2 := Lib.hid (fun X (hX : Below W.heap.size W X) => (hk2.below hX).facts)
  have hpW := hP.below hbW
  have hqW := hQ.below hbW
  have H1 := Lib.hid (fun X (hX : Below W.heap.size W X) => iEqV p.vars q.vars a.n1 b.n1 hP.l1 hQ.l1 a.A1 b.A1 a.c1 b.c1 X (hpW.below hX).vars (hqW.below hX).vars)
  have H2 := Lib.hid (fun X (hX : Below W.heap.size W X) => iEqS p.muts q.muts a.n2 b.n2 hP.l2 hQ.l2 a.A2 b.A2 a.c2 b.c2 X (hpW.below hX).muts (hqW.below hX).muts)
  have H3 := Lib.hid (fun X (hX : Below W.heap.size W X) => iEqS p.conds q.conds a.n3 b.n3 hP.l3 hQ.l3 a.A3 b.A3 a.c3 b.c3 X (hpW.below hX).conds (hqW.below hX).conds)
  have H4 := Lib.hid (fun X (hX : Below W.heap.size W X) => iEqFs p.funcs q.funcs a.n4 b.n4 hP.l4 hQ.l4 a.A4 b.A4 a.c4 b.c4 X (hpW.below hX).funcs (hqW.below hX).funcs)
  have H5 := Lib.hid (fun X (hX : Below W.heap.size W X) => iEqT p.thr q.thr a.n5 b.n5 hP.l5 hQ.l5 a.A5 b.A5 a.c5 b.c5 X (hpW.below hX).thr (hqW.below hX).thr)
  obtain ⟨e1, he1⟩ : ∃ e, decide (p.vars = q.vars) = e := ⟨_, rfl⟩
  obtain ⟨e2, he2⟩ : ∃ e, decide (p.muts = q.muts) = e := ⟨_, rfl⟩
  obtain ⟨e3, he3⟩ : ∃ e, decide (p.conds = q.conds) = e := ⟨_, rfl⟩
  obtain ⟨e4, he4⟩ : ∃ e, decide (p.funcs = q.funcs) = e := ⟨_, rfl⟩
  obtain ⟨e5, he5⟩ : ∃ e, decide (p.thr = q.thr) = e := ⟨_, rfl⟩
  obtain ⟨r, hr⟩ : ∃ r, eqP p q = r := ⟨_, rfl⟩
  rw [hr]
  have HR : Hid ((e1 && (e2 && (e3 && (e4 && e5)))) = r) := Lib.hid (by rw [← hr, ← he1, ← he2, ← he3, ← he4, ← he5]; rfl)
  rw [he1] at H1
  rw [he2] at H2
  rw [he3] at H3
  rw [he4] at H4
  rw [he5] at H5
  obtain ⟨A1, n1, c1, A2, n2, c2, A3, n3, c3, A4, n4, c4, A5, n5, c5⟩ := a
  obtain ⟨B1, m1, d1, B2, m2, d2, B3, m3, d3, B4, m4, d4, B5, m5, d5⟩ := b
  simp only [PgA.val, PgA.fs] at *
  clear hr he1 he2 he3 he4 he5 hP hQ hpW hqW hk1 hk2 hbW hW
  have hb0 := Below.refl W.heap.size W
  go_enter Tryd.func8, Tryd.ntmps8
  go_wp2_with fail
  rw [HW.out]
  refine (H1.out W hb0).mono ?_
  rintro e w1 ⟨rfl, b1⟩
  cases e1
  · have HX := Lib.hid HR.out
    simp only [Bool.false_and] at HX
    go_wp2
    go_ret
    exact ⟨retBl HX.out, belowThen HBW.out b1⟩
  obtain ⟨x0, x1, x2, x3, x4⟩ := HK.out w1 b1
  obtain ⟨y0, y1, y2, y3, y4⟩ := HK2.out w1 b1
  go_wp2_with fail
  refine (H2.out w1 b1).mono ?_
  rintro e w2 ⟨rfl, b2⟩
  have B2 := belowThen b1 b2
  clear x0 x1 x2 x3 x4 y0 y1 y2 y3 y4
  cases e2
  · have HX := Lib.hid HR.out
    simp only [Bool.false_and, Bool.true_and] at HX
    go_wp2
    go_ret
    exact ⟨retBl HX.out, belowThen HBW.out B2⟩
  obtain ⟨x0, x1, x2, x3, x4⟩ := HK.out w2 B2
  obtain ⟨y0, y1, y2, y3, y4⟩ := HK2.out w2 B2
  go_wp2_with fail
  refine (H3.out w2 B2).mono ?_
  rintro e w3 ⟨rfl, b3⟩
  have B3 := belowThen B2 b3
  clear x0 x1 x2 x3 x4 y0 y1 y2 y3 y4
  cases e3
  · have HX := Lib.hid HR.out
    simp only [Bool.false_and, Bool.true_and] at HX
    go_wp2
    go_ret
    exact ⟨retBl HX.out, belowThen HBW.out B3⟩
  obtain ⟨x0, x1, x2, x3, x4⟩ := HK.out w3 B3
  obtain ⟨y0, y1, y2, y3, y4⟩ := HK2.out w3 B3
  go_wp2_with fail
  refine (H4.out w3 B3).mono ?_
  rintro e w4 ⟨rfl, b4⟩
  have B4 := belowThen B3 b4
  clear x0 x1 x2 x3 x4 y0 y1 y2 y3 y4
  cases e4
  · have HX := Lib.hid HR.out
    simp only [Bool.false_and, Bool.true_and] at HX
    go_wp2
    go_ret
    exact ⟨retBl HX.out, belowThen HBW.out B4⟩
  obtain ⟨x0, x1, x2, x3, x4⟩ := HK.out w4 B4
  obtain ⟨y0, y1, y2, y3, y4⟩ := HK2.out w4 B4
  go_wp2_with fail
  refine (H5.out w4 B4).mono ?_
  rintro e w5 ⟨rfl, b5⟩
  have HX := Lib.hid HR.out
  simp only [Bool.true_and] at HX
  go_wp2
  go_ret
  exact ⟨retBl HX.out, belowThen HBW.out (belowThen B4 b5)⟩
end Go.Proofs.YtdmajlgdjhmpdaaDoor
