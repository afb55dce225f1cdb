/-
  slices.Equal at three kinds of elements.
-/
import Derived.Test.YtiaendggmamnkaaGreatDoorEAsCk
namespace Go.Proofs.YtiaendggmamnkaaGreatDoor
open Go Go.RowKit

def sEq (x s : ByteArray) : Bool := x.toList == s.toList
theorem sEqIff (x s : ByteArray) : sEq x s = decide (x.data.toList = s.data.toList) := by
  unfold sEq
  rw [ByteArray.toList_eq, ByteArray.toList_eq, Bool.eq_iff_iff]
  simp
theorem sEqTo {x y : ByteArray} (h : sEq x y = true) : x = y := by
  rw [sEqIff] at h
  exact baExt (of_decide_eq_true h)
set_option maxHeartbeats 1000000 in
theorem eqVarIs (s t : ByteArray) (x y : Int) (w : World) : (Op.equalIn 10000 56 (.agg #[.string s, .int .i64 x]) (.agg #[.string t, .int .i64 y])).run Tryz.prog w = .ok (sEq s t && x == y) w := by
  have hu := Tryz.underlying56
  rw [run_equalIn_struct w 9999 56 _ _ (by rw [Program.fieldsOf, hu]) (by kernel_rfl)]
  simp only [Program.fieldsOf, hu]
  have i0 := run_equalIn_string (P := Tryz.prog) w 9998 9 s t Tryz.underlying9
  have i1 := run_equalIn_int (P := Tryz.prog) w 9998 3 .i64 .i64 x y Tryz.underlying3
  have q0 : ∀ (a b : Value), (part 9 #[a, b] 0).run Tryz.prog w = .ok a w := fun a b => by kernel_rfl
  have q1 : ∀ (a b : Value), (part 3 #[a, b] 1).run Tryz.prog w = .ok b w := fun a b => by kernel_rfl
  unfold sEq
  generalize (s.toList == t.toList) = b0 at *
  generalize (x == y) = b1 at *
  cases b0
  · simp [Op.eqFields, q0, i0]
  cases b1 <;> simp [Op.eqFields, q0, i0, q1, i1]
set_option maxHeartbeats 1000000 in
theorem eqLauIs (s t : ByteArray) (x y : Int) (w : World) : (Op.equalIn 10000 73 (.agg #[.string s, .int .i64 x]) (.agg #[.string t, .int .i64 y])).run Tryz.prog w = .ok (sEq s t && x == y) w := by
  have hu := Tryz.underlying73
  rw [run_equalIn_struct w 9999 73 _ _ (by rw [Program.fieldsOf, hu]) (by kernel_rfl)]
  simp only [Program.fieldsOf, hu]
  have i0 := run_equalIn_string (P := Tryz.prog) w 9998 9 s t Tryz.underlying9
  have i1 := run_equalIn_int (P := Tryz.prog) w 9998 3 .i64 .i64 x y Tryz.underlying3
  have q0 : ∀ (a b : Value), (part 9 #[a, b] 0).run Tryz.prog w = .ok a w := fun a b => by kernel_rfl
  have q1 : ∀ (a b : Value), (part 3 #[a, b] 1).run Tryz.prog w = .ok b w := fun a b => by kernel_rfl
  unfold sEq
  generalize (s.toList == t.toList) = b0 at *
  generalize (x == y) = b1 at *
  cases b0
  · simp [Op.eqFields, q0, i0]
  cases b1 <;> simp [Op.eqFields, q0, i0, q1, i1]
/-- What the loops of Equal know. -/
def UpTo {α : Type} (l m : List α) (k : Nat) : Prop := ∀ j (h1 : j < l.length) (h2 : j < m.length), j < k → l[j] = m[j]
theorem UpTo.zero {α : Type} {l m : List α} : UpTo l m 0 := fun _ _ _ h => by omega
theorem UpTo.succ {α : Type} {l m : List α} {k : Nat} (h : UpTo l m k) (h1 : k < l.length) (h2 : k < m.length) (e : l[k] = m[k]) : UpTo l m (k + 1) := fun j j1 j2 hj => by
  rcases Nat.lt_or_ge j k with h' | h'
  · exact h j j1 j2 h'
  · have e' : j = k := by omega
    subst e'
    exact e
theorem UpTo.eq {α : Type} {l m : List α} {k : Nat} (h : UpTo l m k) (hl : l.length = m.length) (hk : l.length ≤ k) : l = m := List.ext_getElem hl fun j h1 h2 => h j h1 h2 (by omega)
theorem listNo {α : Type} [DecidableEq α] {l m : List α} {k : Nat} (h1 : k < l.length) (h2 : k < m.length) (h : l[k] ≠ m[k]) : false = decide (l = m) := by
  rw [decide_eq_false fun e => ?_]
  subst e
  exact h rfl
theorem listLen {α : Type} [DecidableEq α] {l m : List α} (h : l.length ≠ m.length) : false = decide (l = m) := by
  rw [decide_eq_false fun e => h (by rw [e])]
theorem listYes {α : Type} [DecidableEq α] {l m : List α} {k : Nat} (hu : UpTo l m k) (hl : l.length = m.length) (hk : l.length ≤ k) : true = decide (l = m) := by
  rw [decide_eq_true (hu.eq hl hk)]
set_option maxRecDepth 100000 in
set_option maxHeartbeats 2000000 in
theorem iEqV (l m : List (ByteArray × Int)) (n k : Nat) (hn : l.length = n) (hm : m.length = k) (A B : Option Addr) (c d : Nat) (w : World) (ha : RdE 2 EV w A c l) (hb : RdE 2 EV w B d m) :
    Calls Tryz.prog 74 #[.slice A n c, .slice B k d] w fun e w' => e = .returned (.bool (decide (l = m))) ∧ Below w.heap.size w w' := by
  obtain ⟨r, hr⟩ : ∃ r, decide (l = m) = r := ⟨_, rfl⟩
  rw [hr]
  have HR := Lib.hid hr
  have HA := Lib.hid (fun X (hX : Below w.heap.size w X) j (hj : j < l.length) => (ha.below stabV hX).one hj)
  have HB := Lib.hid (fun X (hX : Below w.heap.size w X) j (hj : j < m.length) => (hb.below stabV hX).one hj)
  have HN := Lib.hid hn
  have HM := Lib.hid hm
  have g1 := ha.le
  have g2 := ha.max
  have g3 := hb.le
  have g4 := hb.max
  rw [hn] at g1
  rw [hm] at g3
  unfold maxLen at g2 g4
  clear hr ha hb hn hm
  by_cases hnk : n = k
  rotate_left
  · have HX := Lib.hid ((listLen (l := l) (m := m) (by rw [HN.out, HM.out]; exact hnk)).trans HR.out)
    have hne : ((n : Int) != (k : Int)) = true := by simp; omega
    have hne2 : decide (n = k) = false := by simpa using hnk
    have hb0 := Below.refl w.heap.size w
    go_enter Tryz.func74, Tryz.ntmps74
    go_wp2
    all_goals first
      | (exfalso; omega)
      | (go_ret; exact ⟨retBl HX.out, hb0⟩)
  subst hnk
  go_enter Tryz.func74, Tryz.ntmps74
  go_wp2
  go_loopw [5, 13] (fun _ i wr => ∃ j : Nat, j ≤ n ∧ i = .int .i64 j ∧ Below w.heap.size w wr ∧ Hid (UpTo l m j)) (fun _ i _ => n - (intOf i).toNat)
  case atStart => exact ⟨0, Nat.zero_le _, rfl, Below.refl _ _, Lib.hid UpTo.zero⟩
  case round =>
    obtain ⟨j, hj, rfl, hb, HU⟩ := hrel
    by_cases hlt : j < n
    · have h1 : j < l.length := by rw [HN.out]; exact hlt
      have h2 : j < m.length := by rw [HM.out]; exact hlt
      obtain ⟨q, o, hA, _, hc⟩ := HA.out wr hb j h1
      obtain ⟨q', o', hB, _, hd⟩ := HB.out wr hb j h2
      subst hA hB
      have hj0 : (0 : Int) ≤ j := by omega
      have hj1 : (j : Int) < n := by omega
      have HN2 := Lib.hid (fun nq => belowDrewN hb nq)
      obtain ⟨⟨s, x⟩, hx⟩ : ∃ x, l[j] = x := ⟨_, rfl⟩
      obtain ⟨⟨t, y⟩, hy⟩ : ∃ y, m[j] = y := ⟨_, rfl⟩
      rw [hx] at hc
      rw [hy] at hd
      obtain ⟨p0, p1⟩ := hc
      obtain ⟨r0, r1⟩ := hd
      simp only at p0 p1 r0 r1
      have HQ := fun X => eqVarIs s t x y X
      cases he : (sEq s t && x == y)
      · have HX := Lib.hid ((listNo (l := l) (m := m) h1 h2 (by
          rw [hx, hy]
          intro e
          injection e with e1 e2
          subst e1 e2
          rw [Bool.and_eq_false_iff] at he
          rcases he with he | he
          · rw [sEqIff] at he; simp at he
          · simp at he)).trans HR.out)
        rw [he] at HQ
        clear he
        clear hx hy h1 h2 HU
        go_wp2_with fail
        go_quiet (fail)
        go_wp2
        go_ret
        exact ⟨retBl HX.out, HN2.out _⟩
      · have HX := Lib.hid (HU.out.succ h1 h2 (by
          rw [Bool.and_eq_true] at he
          rw [hx, hy, sEqTo he.1, of_decide_eq_true (show decide (x = y) = true from he.2)]))
        rw [he] at HQ
        clear he
        clear hx hy h1 h2 HU
        go_wp2_with fail
        go_quiet (fail)
        go_wp2
        go_roundw
        case rel => exact ⟨j + 1, by omega, by go_num, HN2.out _, HX⟩
        case measure => simp [intOf]; omega
    · have HX := Lib.hid ((listYes HU.out (by rw [HN.out, HM.out]) (by rw [HN.out]; omega)).trans HR.out)
      go_wp2
      go_ret
      exact ⟨retBl HX.out, hb⟩
set_option maxRecDepth 100000 in
set_option maxHeartbeats 2000000 in
theorem iEqS (l m : List ByteArray) (n k : Nat) (hn : l.length = n) (hm : m.length = k) (A B : Option Addr) (c d : Nat) (w : World) (ha : RdE 1 ES w A c l) (hb : RdE 1 ES w B d m) :
    Calls Tryz.prog 75 #[.slice A n c, .slice B k d] w fun e w' => e = .returned (.bool (decide (l = m))) ∧ Below w.heap.size w w' := by
  obtain ⟨r, hr⟩ : ∃ r, decide (l = m) = r := ⟨_, rfl⟩
  rw [hr]
  have HR := Lib.hid hr
  have HA := Lib.hid (fun X (hX : Below w.heap.size w X) j (hj : j < l.length) => (ha.below stabS hX).one hj)
  have HB := Lib.hid (fun X (hX : Below w.heap.size w X) j (hj : j < m.length) => (hb.below stabS hX).one hj)
  have HN := Lib.hid hn
  have HM := Lib.hid hm
  have g1 := ha.le
  have g2 := ha.max
  have g3 := hb.le
  have g4 := hb.max
  rw [hn] at g1
  rw [hm] at g3
  unfold maxLen at g2 g4
  clear hr ha hb hn hm
  by_cases hnk : n = k
  rotate_left
  · have HX := Lib.hid ((listLen (l := l) (m := m) (by rw [HN.out, HM.out]; exact hnk)).trans HR.out)
    have hne : ((n : Int) != (k : Int)) = true := by simp; omega
    have hne2 : decide (n = k) = false := by simpa using hnk
    have hb0 := Below.refl w.heap.size w
    go_enter Tryz.func75, Tryz.ntmps75
    go_wp2
    all_goals first
      | (exfalso; omega)
      | (go_ret; exact ⟨retBl HX.out, hb0⟩)
  subst hnk
  go_enter Tryz.func75, Tryz.ntmps75
  go_wp2
  go_loopw [5, 13] (fun _ i wr => ∃ j : Nat, j ≤ n ∧ i = .int .i64 j ∧ Below w.heap.size w wr ∧ Hid (UpTo l m j)) (fun _ i _ => n - (intOf i).toNat)
  case atStart => exact ⟨0, Nat.zero_le _, rfl, Below.refl _ _, Lib.hid UpTo.zero⟩
  case round =>
    obtain ⟨j, hj, rfl, hb, HU⟩ := hrel
    by_cases hlt : j < n
    · have h1 : j < l.length := by rw [HN.out]; exact hlt
      have h2 : j < m.length := by rw [HM.out]; exact hlt
      obtain ⟨q, o, hA, _, hc⟩ := HA.out wr hb j h1
      obtain ⟨q', o', hB, _, hd⟩ := HB.out wr hb j h2
      subst hA hB
      have hj0 : (0 : Int) ≤ j := by omega
      have hj1 : (j : Int) < n := by omega
      have HN2 := Lib.hid (fun nq => belowDrewN hb nq)
      obtain ⟨s, hx⟩ : ∃ x, l[j] = x := ⟨_, rfl⟩
      obtain ⟨t, hy⟩ : ∃ y, m[j] = y := ⟨_, rfl⟩
      rw [hx] at hc
      rw [hy] at hd
      unfold ES at hc hd
      rw [Nat.mul_one] at hc hd
      cases he : sEq s t
      · have HX := Lib.hid ((listNo (l := l) (m := m) h1 h2 (by
          rw [hx, hy]
          intro e
          subst e
          rw [sEqIff] at he
          simp at he)).trans HR.out)
        unfold sEq at he
        clear hx hy h1 h2 HU
        go_wp2_with fail
        go_quiet (fail)
        go_wp2
        go_ret
        exact ⟨retBl HX.out, HN2.out _⟩
      · have HX := Lib.hid (HU.out.succ h1 h2 (by
          rw [hx, hy, sEqTo he]))
        unfold sEq at he
        clear hx hy h1 h2 HU
        go_wp2_with fail
        go_quiet (fail)
        go_wp2
        go_roundw
        case rel => exact ⟨j + 1, by omega, by go_num, HN2.out _, HX⟩
        case measure => simp [intOf]; omega
    · have HX := Lib.hid ((listYes HU.out (by rw [HN.out, HM.out]) (by rw [HN.out]; omega)).trans HR.out)
      go_wp2
      go_ret
      exact ⟨retBl HX.out, hb⟩
set_option maxRecDepth 100000 in
set_option maxHeartbeats 2000000 in
theorem iEqL (l m : List (ByteArray × Int)) (n k : Nat) (hn : l.length = n) (hm : m.length = k) (A B : Option Addr) (c d : Nat) (w : World) (ha : RdE 2 EV w A c l) (hb : RdE 2 EV w B d m) :
    Calls Tryz.prog 77 #[.slice A n c, .slice B k d] w fun e w' => e = .returned (.bool (decide (l = m))) ∧ Below w.heap.size w w' := by
  obtain ⟨r, hr⟩ : ∃ r, decide (l = m) = r := ⟨_, rfl⟩
  rw [hr]
  have HR := Lib.hid hr
  have HA := Lib.hid (fun X (hX : Below w.heap.size w X) j (hj : j < l.length) => (ha.below stabV hX).one hj)
  have HB := Lib.hid (fun X (hX : Below w.heap.size w X) j (hj : j < m.length) => (hb.below stabV hX).one hj)
  have HN := Lib.hid hn
  have HM := Lib.hid hm
  have g1 := ha.le
  have g2 := ha.max
  have g3 := hb.le
  have g4 := hb.max
  rw [hn] at g1
  rw [hm] at g3
  unfold maxLen at g2 g4
  clear hr ha hb hn hm
  by_cases hnk : n = k
  rotate_left
  · have HX := Lib.hid ((listLen (l := l) (m := m) (by rw [HN.out, HM.out]; exact hnk)).trans HR.out)
    have hne : ((n : Int) != (k : Int)) = true := by simp; omega
    have hne2 : decide (n = k) = false := by simpa using hnk
    have hb0 := Below.refl w.heap.size w
    go_enter Tryz.func77, Tryz.ntmps77
    go_wp2
    all_goals first
      | (exfalso; omega)
      | (go_ret; exact ⟨retBl HX.out, hb0⟩)
  subst hnk
  go_enter Tryz.func77, Tryz.ntmps77
  go_wp2
  go_loopw [5, 13] (fun _ i wr => ∃ j : Nat, j ≤ n ∧ i = .int .i64 j ∧ Below w.heap.size w wr ∧ Hid (UpTo l m j)) (fun _ i _ => n - (intOf i).toNat)
  case atStart => exact ⟨0, Nat.zero_le _, rfl, Below.refl _ _, Lib.hid UpTo.zero⟩
  case round =>
    obtain ⟨j, hj, rfl, hb, HU⟩ := hrel
    by_cases hlt : j < n
    · have h1 : j < l.length := by rw [HN.out]; exact hlt
      have h2 : j < m.length := by rw [HM.out]; exact hlt
      obtain ⟨q, o, hA, _, hc⟩ := HA.out wr hb j h1
      obtain ⟨q', o', hB, _, hd⟩ := HB.out wr hb j h2
      subst hA hB
      have hj0 : (0 : Int) ≤ j := by omega
      have hj1 : (j : Int) < n := by omega
      have HN2 := Lib.hid (fun nq => belowDrewN hb nq)
      obtain ⟨⟨s, x⟩, hx⟩ : ∃ x, l[j] = x := ⟨_, rfl⟩
      obtain ⟨⟨t, y⟩, hy⟩ : ∃ y, m[j] = y := ⟨_, rfl⟩
      rw [hx] at hc
      rw [hy] at hd
      obtain ⟨p0, p1⟩ := hc
      obtain ⟨r0, r1⟩ := hd
      simp only at p0 p1 r0 r1
      have HQ := fun X => eqLauIs s t x y X
      cases he : (sEq s t && x == y)
      · have HX := Lib.hid ((listNo (l := l) (m := m) h1 h2 (by
          rw [hx, hy]
          intro e
          injection e with e1 e2
          subst e1 e2
          rw [Bool.and_eq_false_iff] at he
          rcases he with he | he
          · rw [sEqIff] at he; simp at he
          · simp at he)).trans HR.out)
        rw [he] at HQ
        clear he
        clear hx hy h1 h2 HU
        go_wp2_with fail
        go_quiet (fail)
        go_wp2
        go_ret
        exact ⟨retBl HX.out, HN2.out _⟩
      · have HX := Lib.hid (HU.out.succ h1 h2 (by
          rw [Bool.and_eq_true] at he
          rw [hx, hy, sEqTo he.1, of_decide_eq_true (show decide (x = y) = true from he.2)]))
        rw [he] at HQ
        clear he
        clear hx hy h1 h2 HU
        go_wp2_with fail
        go_quiet (fail)
        go_wp2
        go_roundw
        case rel => exact ⟨j + 1, by omega, by go_num, HN2.out _, HX⟩
        case measure => simp [intOf]; omega
    · have HX := Lib.hid ((listYes HU.out (by rw [HN.out, HM.out]) (by rw [HN.out]; omega)).trans HR.out)
      go_wp2
      go_ret
      exact ⟨retBl HX.out, hb⟩
end Go.Proofs.YtiaendggmamnkaaGreatDoor

namespace Go.Proofs.YtiaendggmamnkaaGreatDoor
open Go Go.RowKit

theorem entSX : ∀ args w, (callFunc 128 args).run Tryz.prog w = .ok (.enter 128 args) w := enters_of Tryz.func128 (by kernel_rfl) rfl
theorem exSameIff (x y : ExD) : exSame x.kind x.n x.name x.fn y.kind y.n y.name y.fn = true ↔ x = y := by
  constructor
  · intro h
    unfold exSame at h
    rw [Bool.and_eq_true, Bool.and_eq_true, Bool.and_eq_true] at h
    obtain ⟨h1, h2, h3, h4⟩ := h
    have e3 := sEqTo (x := x.name) (y := y.name) h3
    rw [beq_iff_eq] at h1 h2 h4
    cases x
    cases y
    simp only at h1 h2 e3 h4
    subst h1 h2 e3 h4
    rfl
  · rintro rfl
    unfold exSame
    simp
/-- A function that says whether p. -/
def SaysP (p : Prop) (w : World) (e : Ending) (w' : World) : Prop := ∃ r, e = .returned (.bool r) ∧ (r = true ↔ p) ∧ Below w.heap.size w w'
theorem SaysP.mk {p : Prop} {w : World} {r : Bool} {w' : World} (h : r = true ↔ p) (hb : Below w.heap.size w w') : SaysP p w (.returned (.bool r)) w' := ⟨r, rfl, h, hb⟩
set_option maxRecDepth 100000 in
set_option maxHeartbeats 2000000 in
theorem iEqFX (dx : Nat) (l m : List Ex) (n k : Nat) (hn : l.length = n) (hm : m.length = k) (A B : Option Addr) (c d : Nat) (w : World) (ha : RdE 5 (EX dx) w A c l) (hb : RdE 5 (EX dx) w B d m) :
    Calls Tryz.prog 178 #[.slice A n c, .slice B k d, .func (.func 128) #[] #[]] w (SaysP (l.map Tr.val = m.map Tr.val) w) := by
  have HA := Lib.hid (fun X (hX : Below w.heap.size w X) j (hj : j < l.length) => (ha.below (stabX dx) hX).one hj)
  have HB := Lib.hid (fun X (hX : Below w.heap.size w X) j (hj : j < m.length) => (hb.below (stabX dx) hX).one hj)
  have HN := Lib.hid hn
  have HM := Lib.hid hm
  have g1 := ha.le
  have g2 := ha.max
  have g3 := hb.le
  have g4 := hb.max
  rw [hn] at g1
  rw [hm] at g3
  unfold maxLen at g2 g4
  have hent := entSX
  clear ha hb hn hm
  by_cases hnk : n = k
  rotate_left
  · have HX := Lib.hid (show false = true ↔ l.map Tr.val = m.map Tr.val from ⟨fun h => absurd h (by decide), fun h => absurd (show n = k by have := congrArg List.length h; rw [List.length_map, List.length_map, HN.out, HM.out] at this; exact this) hnk⟩)
    have hne : ((n : Int) != (k : Int)) = true := by simp; omega
    have hne2 : decide (n = k) = false := by simpa using hnk
    have hb0 := Below.refl w.heap.size w
    go_enter Tryz.func178, Tryz.ntmps178
    go_wp2
    all_goals first
      | (exfalso; omega)
      | (go_ret; exact SaysP.mk HX.out hb0)
  subst hnk
  go_enter Tryz.func178, Tryz.ntmps178
  go_wp2
  go_loopw [7, 8, 9, 17] (fun _ _ _ i wr => ∃ j : Nat, j ≤ n ∧ i = .int .i64 j ∧ Below w.heap.size w wr ∧ Hid (UpTo (l.map Tr.val) (m.map Tr.val) j)) (fun _ _ _ i _ => n - (intOf i).toNat)
  case atStart => exact ⟨0, Nat.zero_le _, rfl, Below.refl _ _, Lib.hid UpTo.zero⟩
  case round =>
    obtain ⟨j, hj, rfl, hb, HU⟩ := hrel
    by_cases hlt : j < n
    · have h1 : j < l.length := by rw [HN.out]; exact hlt
      have h2 : j < m.length := by rw [HM.out]; exact hlt
      cases dx with
      | zero => exact (HA.out wr hb j h1).elim fun _ h => h.elim fun _ h => h.2.2.elim
      | succ dx1 =>
      obtain ⟨z, o, hA, _, x0, x1, x2, x3, hs1, v4, x4, A4, c4, rfl, r4⟩ := HA.out wr hb j h1
      obtain ⟨z', o', hB, _, y0, y1, y2, y3, hs2, v5, y4, B4, d4, rfl, r5⟩ := HB.out wr hb j h2
      subst hA hB
      have hj0 : (0 : Int) ≤ j := by omega
      have hj1 : (j : Int) < n := by omega
      obtain ⟨p, hp⟩ : ∃ x, l[j] = x := ⟨_, rfl⟩
      obtain ⟨q, hq⟩ : ∃ x, m[j] = x := ⟨_, rfl⟩
      rw [hp] at x0 x1 x2 x3 x4
      rw [hq] at y0 y1 y2 y3 y4
      obtain ⟨n4, hn4⟩ : ∃ n, p.fst.length = n := ⟨_, rfl⟩
      obtain ⟨m4, hm4⟩ : ∃ n, q.fst.length = n := ⟨_, rfl⟩
      rw [hn4] at x4
      rw [hm4] at y4
      have HFN := Lib.hid (fun Y => iSameX p.val.kind p.val.n p.val.fn q.val.kind q.val.n q.val.fn p.val.name q.val.name A4 B4 n4 c4 m4 d4 Y)
      unfold exC at HFN
      obtain ⟨en, hen⟩ : ∃ e, exSame p.val.kind p.val.n p.val.name p.val.fn q.val.kind q.val.n q.val.name q.val.fn = e := ⟨_, rfl⟩
      rw [hen] at HFN
      have HXE := Lib.hid (show en = true ↔ p.val = q.val by rw [← hen]; exact exSameIff _ _)
      have HL1 := Lib.hid (show ∃ (e1 : j < (l.map Tr.val).length) (e2 : j < (m.map Tr.val).length), (l.map Tr.val)[j] = p.val ∧ (m.map Tr.val)[j] = q.val from ⟨by simpa using h1, by simpa using h2, by simp [hp], by simp [hq]⟩)
      have HBJ := Lib.hid hb
      obtain ⟨O, hO⟩ : ∃ O : Obj, Obj.cells #[.int .i64 p.val.kind, .int .i64 p.val.n, .string p.val.name, .int .i64 p.val.fn, .slice A4 n4 c4] 37 = O := ⟨_, rfl⟩
      have s0 := ((belowAlloc wr O).cell (World.block_lt_of_cell? _ _ y0)).trans y0
      have s1 := ((belowAlloc wr O).cell (World.block_lt_of_cell? _ _ y1)).trans y1
      have s2 := ((belowAlloc wr O).cell (World.block_lt_of_cell? _ _ y2)).trans y2
      have s3 := ((belowAlloc wr O).cell (World.block_lt_of_cell? _ _ y3)).trans y3
      have s4 := ((belowAlloc wr O).cell (World.block_lt_of_cell? _ _ y4)).trans y4
      have HBA := Lib.hid (fun O2 => belowThen (belowAlloc wr O) (belowAlloc _ O2))
      rw [← hO] at s0 s1 s2 s3 s4 HBA
      clear hs1 hs2 hen hb hp hq hn4 hm4 r4 r5 h1 h2 hO
      cases en
      · have HX := Lib.hid (show false = true ↔ l.map Tr.val = m.map Tr.val from ⟨fun h => absurd h (by decide), fun h => by
          obtain ⟨e1, e2, e3, e4⟩ := HL1.out
          have : p.val = q.val := by rw [← e3, ← e4]; simp only [h]
          exact absurd (HXE.out.2 this) (by simp)⟩)
        clear HXE
        go_wp2_with fail
        refine (HFN.out _).mono ?_
        rintro e w1 ⟨rfl, b1⟩
        go_wp2_with fail
        go_ret
        exact SaysP.mk HX.out (belowThen HBJ.out (belowThen (HBA.out _) b1))
      · have HX := Lib.hid (show UpTo (l.map Tr.val) (m.map Tr.val) (j + 1) by
          obtain ⟨e1, e2, e3, e4⟩ := HL1.out
          exact HU.out.succ e1 e2 (by rw [e3, e4]; exact HXE.out.1 rfl))
        clear HXE
        go_wp2_with fail
        refine (HFN.out _).mono ?_
        rintro e w1 ⟨rfl, b1⟩
        go_wp2_with fail
        go_roundw
        case rel => exact ⟨j + 1, by omega, by go_num, belowThen HBJ.out (belowThen (HBA.out _) b1), HX⟩
        case measure => simp [intOf]; omega
    · have HX := Lib.hid (show l.map Tr.val = m.map Tr.val from HU.out.eq (by simp [HN.out, HM.out]) (by simp [HN.out]; omega))
      go_wp2_with fail
      go_ret
      exact SaysP.mk ⟨fun _ => HX.out, fun _ => rfl⟩ hb
end Go.Proofs.YtiaendggmamnkaaGreatDoor
