/-
  The specification's lists: the names of the variables and of the functions.
-/
import Derived.Test.YtdmajlgdjhmpdaaDoorCPhG
import Derived.WalkSpells
import Derived.Test.YtdmajlgdjhmpdaaDoorCChg
import Derived.Laws.Strings
import Derived.BigQuiet
import Derived.Test.YtdmajlgdjhmpdaaDoorCOwnI
namespace Go.Proofs.YtdmajlgdjhmpdaaDoor
open Go Go.RowKit

def Prg.few (p : Prg) : Bool := decide (p.vars.length ≤ 20) && decide (p.muts.length ≤ 20) && decide (p.conds.length ≤ 20) && decide (p.funcs.length ≤ 20) && decide (p.thr.length ≤ 20)
def Prg.short (p : Prg) : Bool := p.funcs.all fun f => decide (f.2.length ≤ 100)
def Prg.small (p : Prg) : Bool := p.few && p.short
theorem Prg.smallNo {p : Prg} (h : p.few = false) : false = p.small := by unfold Prg.small; rw [h]; rfl
theorem Prg.smallLong {p : Prg} (h : p.few = true) {k : Nat} (hk : k < p.funcs.length) (hl : 100 < p.funcs[k].2.length) : false = p.small := by
  unfold Prg.small Prg.short
  rw [h, Bool.true_and]
  refine (List.all_eq_false.2 ⟨p.funcs[k], List.getElem_mem hk, ?_⟩).symm
  simpa using hl
theorem Prg.smallYes {p : Prg} (h : p.few = true) (hl : ∀ k (hk : k < p.funcs.length), p.funcs[k].2.length ≤ 100) : true = p.small := by
  unfold Prg.small Prg.short
  rw [h, Bool.true_and]
  refine (List.all_eq_true.2 fun x hx => ?_).symm
  obtain ⟨k, hk, rfl⟩ := List.getElem_of_mem hx
  simpa using hl k hk
theorem shortNext {p : Prg} {k : Nat} (HA : ∀ j (hj : j < p.funcs.length), j < k → p.funcs[j].2.length ≤ 100) (hk : k < p.funcs.length) (h : p.funcs[k].2.length ≤ 100) : ∀ j (hj : j < p.funcs.length), j < k + 1 → p.funcs[j].2.length ≤ 100 := fun j hj hlt => by
  rcases Nat.lt_or_ge j k with h' | h'
  · exact HA j hj h'
  · have e : j = k := by omega
    subst e
    exact h
set_option maxHeartbeats 1000000 in
theorem rSmall {a : PgA} {p : Prg} (w : World) (hP : PgW w a p) : Calls Tryd.prog 4 #[a.val] w fun e w' => e = .returned (.bool p.small) ∧ Below w.heap.size w w' := by
  have HF := Lib.hid (fun X (hX : Below w.heap.size w X) k (hk : k < p.funcs.length) => (hP.below hX).funcs.one hk)
  have HL := Lib.hid hP.l4
  have HE : Hid (p.few = (decide (a.n1 ≤ 20) && decide (a.n2 ≤ 20) && decide (a.n3 ≤ 20) && decide (a.n4 ≤ 20) && decide (a.n5 ≤ 20))) := by unfold Prg.few; rw [hP.l1, hP.l2, hP.l3, hP.l4, hP.l5]; exact Lib.hid rfl
  have m1 := hP.vars.max
  have m2 := hP.muts.max
  have m3 := hP.conds.max
  have m4 := hP.funcs.max
  have m5 := hP.thr.max
  have e1 := hP.vars.le
  have e2 := hP.muts.le
  have e3 := hP.conds.le
  have e4 := hP.funcs.le
  have e5 := hP.thr.le
  rw [hP.l1] at e1
  rw [hP.l2] at e2
  rw [hP.l3] at e3
  rw [hP.l4] at e4
  rw [hP.l5] at e5
  unfold maxLen at m1 m2 m3 m4 m5
  obtain ⟨A1, n1, c1, A2, n2, c2, A3, n3, c3, A4, n4, c4, A5, n5, c5⟩ := a
  simp only [PgA.val, PgA.fs] at *
  have hb0 := belowAlloc w (.cells #[.slice A1 n1 c1, .slice A2 n2 c2, .slice A3 n3 c3, .slice A4 n4 c4, .slice A5 n5 c5] 27)
  obtain ⟨r, hr⟩ : ∃ r, p.small = r := ⟨_, rfl⟩
  rw [hr]
  clear hP
  by_cases h1 : 20 < n1
  · have HR := Lib.hid ((p.smallNo (by rw [HE.out, decide_eq_false (show ¬ n1 ≤ 20 by omega)]; rfl)).trans hr)
    clear HE hr
    go_enter Tryd.func4, Tryd.ntmps4
    go_wp2
    all_goals first
      | (exfalso; omega)
      | (go_ret; exact ⟨retBl HR.out, hb0⟩)
  by_cases h2 : 20 < n2
  · have HR := Lib.hid ((p.smallNo (by rw [HE.out, decide_eq_false (show ¬ n2 ≤ 20 by omega)]; simp)).trans hr)
    clear HE hr
    go_enter Tryd.func4, Tryd.ntmps4
    go_wp2
    all_goals first
      | (exfalso; omega)
      | (go_ret; exact ⟨retBl HR.out, hb0⟩)
  by_cases h3 : 20 < n3
  · have HR := Lib.hid ((p.smallNo (by rw [HE.out, decide_eq_false (show ¬ n3 ≤ 20 by omega)]; simp)).trans hr)
    clear HE hr
    go_enter Tryd.func4, Tryd.ntmps4
    go_wp2
    all_goals first
      | (exfalso; omega)
      | (go_ret; exact ⟨retBl HR.out, hb0⟩)
  by_cases h4 : 20 < n4
  · have HR := Lib.hid ((p.smallNo (by rw [HE.out, decide_eq_false (show ¬ n4 ≤ 20 by omega)]; simp)).trans hr)
    clear HE hr
    go_enter Tryd.func4, Tryd.ntmps4
    go_wp2
    all_goals first
      | (exfalso; omega)
      | (go_ret; exact ⟨retBl HR.out, hb0⟩)
  by_cases h5 : 20 < n5
  · have HR := Lib.hid ((p.smallNo (by rw [HE.out, decide_eq_false (show ¬ n5 ≤ 20 by omega)]; simp)).trans hr)
    clear HE hr
    go_enter Tryd.func4, Tryd.ntmps4
    go_wp2
    all_goals first
      | (exfalso; omega)
      | (go_ret; exact ⟨retBl HR.out, hb0⟩)
  have HFW := Lib.hid (show p.few = true by rw [HE.out]; simp; omega)
  have HR := Lib.hid hr
  clear HE hr
  go_enter Tryd.func4, Tryd.ntmps4
  go_wp2
  all_goals (try (exfalso; omega))
  go_loopw [3] (fun i wr => ∃ k : Nat, k ≤ n4 ∧ i = .int .i64 k ∧ Below w.heap.size w wr ∧ Hid (∀ j (hj : j < p.funcs.length), j < k → p.funcs[j].2.length ≤ 100) ∧ wr.cell? ⟨w.heap.size, 3, none⟩ = some (.slice A4 n4 c4)) (fun i _ => n4 - (intOf i).toNat)
  case atStart => exact ⟨0, Nat.zero_le _, rfl, hb0, Lib.hid fun j _ h => by omega, (Blk.new w _ _).cell 3⟩
  case round =>
    obtain ⟨k, hk, rfl, hb, HA, c3⟩ := hrel
    by_cases hlt : k < n4
    · have hkl : k < p.funcs.length := by rw [HL.out]; exact hlt
      obtain ⟨q, off, hA, _, h1, v, h2, Ac, nc, cc, rfl, hnc, hrd⟩ := HF.out wr hb k hkl
      have hA : A4 = _ := hA
      subst hA
      have hle := hrd.le
      have hmx := hrd.max
      rw [hnc] at hle
      unfold maxLen at hmx
      clear hrd h1
      have hk0 : (0 : Int) ≤ k := by omega
      have hk1 : (k : Int) < n4 := by omega
      by_cases h100 : 100 < nc
      · have HX := Lib.hid ((p.smallLong HFW.out hkl (by rw [hnc]; exact h100)).trans HR.out)
        clear hnc
        go_wp2
        go_ret
        exact ⟨retBl HX.out, hb⟩
      · have HX := Lib.hid (shortNext HA.out hkl (by rw [hnc]; omega))
        clear hnc
        go_wp2
        go_roundw
        case rel => exact ⟨k + 1, by omega, by go_num, hb, HX, c3⟩
        case measure => simp [intOf]; omega
    · have HX := Lib.hid ((p.smallYes HFW.out fun j hj => HA.out j hj (by rw [HL.out] at hj; have hj : j < n4 := hj; omega)).trans HR.out)
      go_wp2
      go_ret
      exact ⟨retBl HX.out, hb⟩
end Go.Proofs.YtdmajlgdjhmpdaaDoor

namespace Go.Proofs.YtdmajlgdjhmpdaaDoor
open Go Go.RowKit

/-- Byte number k of s keeps it a name. -/
def okAt (s : ByteArray) (k : Nat) : Prop := ∀ (hk : k < s.size), (k = 0 → letB s[k] = true) ∧ tailB s[k] = true
theorem okYes {s : ByteArray} (h1 : 1 ≤ s.size) (h2 : s.size ≤ 16) (h : ∀ k, k < s.size → okAt s k) : true = nameB s :=
  (nameYes h1 h2 ((h 0 h1 h1).1 rfl) fun k hk => (h k hk hk).2).symm
theorem okNo {s : ByteArray} {k : Nat} (hk : k < s.size) (h : ¬ okAt s k) : false = nameB s := by
  cases e : nameB s
  · rfl
  refine absurd (fun hk' => ⟨fun h0 => ?_, ?_⟩) h
  · subst h0
    cases e2 : letB s[0]
    · rw [nameNo2 hk e2] at e; cases e
    · rfl
  · cases e2 : tailB s[k]
    · rw [nameNoK hk e2] at e; cases e
    · rfl
theorem okNext {s : ByteArray} {k : Nat} (HA : ∀ j, j < k → okAt s j) (h : okAt s k) : ∀ j, j < k + 1 → okAt s j := fun j hlt => by
  rcases Nat.lt_or_ge j k with h' | h'
  · exact HA j h'
  · have e : j = k := by omega
    subst e
    exact h
theorem okAtIs {s : ByteArray} {k : Nat} (hk : k < s.size) : okAt s k ↔ (k = 0 → (97 ≤ s[k].toNat ∧ s[k].toNat ≤ 122) ∨ (65 ≤ s[k].toNat ∧ s[k].toNat ≤ 90)) ∧ ((97 ≤ s[k].toNat ∧ s[k].toNat ≤ 122) ∨ (65 ≤ s[k].toNat ∧ s[k].toNat ≤ 90) ∨ (48 ≤ s[k].toNat ∧ s[k].toNat ≤ 57) ∨ s[k].toNat = 95) := by
  have e : okAt s k ↔ (k = 0 → letB s[k] = true) ∧ tailB s[k] = true := ⟨fun h => ⟨fun h0 => by subst h0; exact (h hk).1 rfl, (h hk).2⟩, fun h hk' => ⟨fun h0 => by have := h.1 h0; subst h0; exact this, h.2⟩⟩
  rw [e]
  unfold tailB letB digB
  simp only [Bool.or_eq_true, Bool.and_eq_true, decide_eq_true_eq]
  omega
end Go.Proofs.YtdmajlgdjhmpdaaDoor

namespace Go.Proofs.YtdmajlgdjhmpdaaDoor
open Go Go.RowKit

def sEq (x s : ByteArray) : Bool := x.toList == s.toList
/-- The number of the first function with a name, from number k on. -/
def fndL (s : ByteArray) : List (ByteArray × List I8) → Nat → Option Nat
  | [], _ => none
  | f :: r, k => if sEq f.1 s = true then some k else fndL s r (k + 1)
def Prg.fnd (p : Prg) (s : ByteArray) : Option Nat := fndL s p.funcs 0
def fndI (o : Option Nat) : Int := match o with | none => -1 | some k => (k : Int)
def fndV (o : Option Nat) : Ending := match o with | none => .returned (.tuple #[.int .i64 0, .bool false]) | some k => .returned (.tuple #[.int .i64 (k : Int), .bool true])
theorem fndHit {s : ByteArray} {l : List (ByteArray × List I8)} {k : Nat} (hk : k < l.length) (h : sEq l[k].1 s = true) : fndL s (l.drop k) k = some k := by
  rw [List.drop_eq_getElem_cons hk, fndL, if_pos h]
theorem fndMiss {s : ByteArray} {l : List (ByteArray × List I8)} {k : Nat} (hk : k < l.length) (h : sEq l[k].1 s = false) : fndL s (l.drop k) k = fndL s (l.drop (k + 1)) (k + 1) := by
  rw [List.drop_eq_getElem_cons hk, fndL, h, if_neg (by decide)]
theorem fndEnd {s : ByteArray} {l : List (ByteArray × List I8)} {k : Nat} (hk : l.length ≤ k) : fndL s (l.drop k) k = none := by
  rw [List.drop_eq_nil_of_le hk, fndL]
def GoodI (r : Option Nat) (w : World) (e : Ending) (w' : World) : Prop := e = .returned (.int .i64 (fndI r)) ∧ Below w.heap.size w w'
def GoodF (r : Option Nat) (w : World) (e : Ending) (w' : World) : Prop := e = fndV r ∧ Below w.heap.size w w'
end Go.Proofs.YtdmajlgdjhmpdaaDoor

namespace Go.Proofs.YtdmajlgdjhmpdaaDoor
open Go Go.RowKit

def sv (l : List ByteArray) : List Value := l.map .string
theorem sEqIff (x s : ByteArray) : sEq x s = decide (x.data.toList = s.data.toList) := by
  unfold sEq
  rw [ByteArray.toList_eq, ByteArray.toList_eq, Bool.eq_iff_iff]
  simp
def nmR (e : Int × Int) : Int × Int := (if e.1 = 0 then 0 else e.2, e.1)
theorem inSNext {l : List ByteArray} {k j : Nat} (hj : j < l.length) {s : ByteArray} (h : inS s (l.take j) = false) (h2 : sEq l[j] s = false) (_ : k = k) : inS s (l.take (j + 1)) = false := by
  rw [List.take_succ_eq_append_getElem hj, inSApp, h, ← sEqIff, h2]
  rfl
theorem inSHit {l : List ByteArray} {k j : Nat} (hk : k ≤ l.length) (hj : j < k) {s : ByteArray} (h2 : sEq (l[j]'(by omega)) s = true) : inS s (l.take k) = true := by
  rw [sEqIff] at h2
  have := baExt (of_decide_eq_true h2)
  refine inSIff.2 (List.mem_take_iff_getElem.2 ⟨j, by omega, this⟩)
theorem svOne {w : World} {A : Option Addr} {c : Nat} {l : List ByteArray} (h : Rds w A c (sv l)) {k : Nat} (hk : k < l.length) : ∃ ad, A = some ad ∧ ad.block < w.heap.size ∧ w.cell? (ad.add k) = some (.string l[k]) := by
  obtain ⟨ad, e, h1, h2⟩ := Rds.one h (k := k) (by simpa [sv] using hk)
  exact ⟨ad, e, h1, by simpa [sv] using h2⟩
end Go.Proofs.YtdmajlgdjhmpdaaDoor

namespace Go.Proofs.YtdmajlgdjhmpdaaDoor
open Go Go.RowKit

theorem infoStr : (Tryd.prog.info? 9).map (fun i => (i.zero, i.size, i.bytes)) = some (some (.string ⟨#[]⟩), 1, 16) := by kernel_rfl
def OwnT (w : World) (base : Nat) (v : Value) (l : List ByteArray) : Prop := w.ownsRow base 9 1 v l.length (sv l)
theorem OwnT.alloc {w : World} {base : Nat} {v : Value} {l : List ByteArray} (h : OwnT w base v l) (o : Obj) : OwnT (w.alloc o) base v l := World.ownsRow.alloc h o
theorem OwnT.nil (w : World) (base : Nat) : OwnT w base (.slice none 0 0) [] := World.ownsRow_nil _ _ _ _
theorem svLen (l : List ByteArray) : (sv l).length = l.length := by simp [sv]
theorem OwnT.rd {w : World} {base : Nat} {v : Value} {l : List ByteArray} (h : OwnT w base v l) : ∃ A c, v = .slice A l.length c ∧ Rds w A c (sv l) := by
  obtain ⟨A, c, hv, _, hr, _⟩ := Rds.ofOwn h
  exact ⟨A, c, by rw [hv, svLen], hr⟩
theorem svOneCell (l : List ByteArray) : ∀ u ∈ sv l, u.oneCell' = true := fun u hu => by
  obtain ⟨s, _, rfl⟩ := List.mem_map.1 hu
  rfl
/-- append of strings onto a row of the call's own. -/
theorem appT (w : World) {ops : Array Oper} {rest : List Oper} {o : Oper} {a : Act} {Q : Exit → Act → World → Prop} (hgd : o.guard = none) (s x : Operand)
    (ho : o.op = .call { callee := .builtin .append, args := #[s, x], argTypes := #[23, 23] })
    (base : Nat) (v : Value) (l : List ByteArray) (hs : a.eval s = v) (hown : OwnT w base v l)
    (A : Option Addr) (m c : Nat) (news : List ByteArray) (hx : a.eval x = .slice A m c) (hm : m = news.length) (hr : Rds w A c (sv news))
    (hb : l.length + news.length ≤ 1000000) (hbase : base ≤ w.heap.size)
    (h : ∀ v' w', OwnT w' base v' (l ++ news) → Below base w w' → wpList Tryd.prog ops Q rest (a.put o.dst v') w') :
    wpList Tryd.prog ops Q (o :: rest) a w := by
  obtain ⟨i0, hi, hz0, hz1, hz2⟩ := info_parts infoStr
  refine wpList_app w hgd s x 23 ho base 9 i0 _ 16 Tryd.underlying23 hi hz0 hz1 hz2 rfl v l.length (sv l) hs hown A m c (sv news) hx (by rw [svLen]; omega) hr (svOneCell _) (by omega) (by unfold maxLen; omega) hbase fun v' w' h1 h2 h3 _ => h v' w' ?_ ?_
  · unfold OwnT sv
    rw [List.length_append, List.map_append, ← hm]
    exact h1
  · exact (Below.refl base w).grown h3 hbase fun k hk => (World.ownsRow.lt hown k hk).1
theorem svLit (w : World) (s : ByteArray) : Rds (w.alloc (.cells #[.string s] 9)) (some ⟨w.heap.size, 0, none⟩) 1 (sv [s]) := Rds.lit w (sv [s]) 9 (by simp [sv, maxLen])
theorem mapTake {α : Type} (l : List (ByteArray × α)) {k : Nat} (hk : k < l.length) : (l.map (·.1)).take k ++ [l[k].1] = (l.map (·.1)).take (k + 1) := by
  rw [List.take_succ_eq_append_getElem (by simpa using hk), List.getElem_map]
/-- Two new lists of strings. -/
def GivesLL (l m : List ByteArray) (w : World) (e : Ending) (w' : World) : Prop := ∃ A c B d, e = .returned (.tuple #[.slice A l.length c, .slice B m.length d]) ∧ Rds w' A c (sv l) ∧ Rds w' B d (sv m) ∧ Below w.heap.size w w'
end Go.Proofs.YtdmajlgdjhmpdaaDoor
