/-
  The specification's Event.
-/
import Derived.Test.YtnckpjcfgeajbaaGreatDoorZmA
import Derived.Test.YtnckpjcfgeajbaaGreatDoorZmR
import Derived.Test.YtnckpjcfgeajbaaGreatDoorZmF
import Derived.BigQuiet
import Derived.Deep.RegionHeld3
namespace Go.Proofs.YtnckpjcfgeajbaaGreatDoor
open Go.RowKit (wrap32 wrap64)

/-- The letters of the further words of a kind of events. -/
def evl (k : Nat) : List UInt8 :=
  match k with
  | 1 => [118, 79, 82, 69]
  | 2 => [118, 79, 87]
  | 3 => [118, 79, 87, 78]
  | 4 => [118, 87, 78]
  | 5 => [118, 79, 82, 87]
  | 6 => [118, 79, 82]
  | 8 => [118, 79, 82, 69]
  | 9 => [109]
  | 10 => [109]
  | 11 => [109, 82]
  | 12 => [99, 119]
  | 13 => [99]
  | 14 => [99, 82]
  | 15 => [99, 82]
  | 16 => [74]
  | 17 => [74]
  | _ => []
/-- The words that a letter stands for. -/
def Prg.lwE (p : Prg) (x : E9) (c : UInt8) : List Wd := if c = 118 then [obW p.vN x.ob] else if c = 109 then [obW p.muts x.ob] else if c = 99 then [obW p.conds x.ob] else if c = 119 then [obW p.muts x.mu] else if c = 79 then [knW (ornOf x.od) 13] else if c = 82 then [nuW x.rd] else if c = 87 then [nuW x.wr] else if c = 78 then [nuW x.en] else if c = 74 then [nuW x.ob] else if c = 69 then (if x.en = -1 then [] else [.ok entryB, nuW x.en]) else []
def E9.num (x : E9) (c : UInt8) : Int × Bool := if c = 82 then (x.rd, true) else if c = 87 then (x.wr, true) else if c = 78 then (x.en, true) else if c = 74 then (x.ob, true) else if c = 69 then (x.en, !decide (x.en = -1)) else (0, false)
def Prg.obE (p : Prg) (x : E9) (c : UInt8) : Bool := if c = 118 then !belB x.ob p.vN.length else if c = 109 then !belB x.ob p.muts.length else if c = 99 then !belB x.ob p.conds.length else if c = 119 then !belB x.mu p.muts.length else false
def E9.odE (x : E9) (c : UInt8) : Bool := if c = 79 then !orOk x.od else false
def E9.nuE (x : E9) (c : UInt8) : Bool := (x.num c).2 && !isVal (x.num c).1
/-- What wrong gives. -/
def Prg.wrR (p : Prg) (x : E9) (l : List UInt8) : Int := if l.any (p.obE x) = true then 11 else if l.any x.odE = true then 13 else if x.bad = true then 2 else if l.any x.nuE = true then 2 else 0
/-- The first error. -/
def fe : List Wd → Int
  | [] => 0
  | y :: r => if y.e = 0 then fe r else y.e
theorem sntFe : ∀ {ws : List Wd} {acc : List UInt8}, (snt acc ws).e = fe ws
  | [], acc => rfl
  | y :: r, acc => by
    rw [snt, fe]
    split
    · exact sntFe
    · rfl
theorem feApp : ∀ (a b : List Wd), fe (a ++ b) = if fe a = 0 then fe b else fe a
  | [], b => rfl
  | y :: r, b => by
    rw [List.cons_append, fe, fe]
    by_cases h : y.e = 0
    · rw [if_pos h, if_pos h]; exact feApp r b
    · rw [if_neg h, if_neg h, if_neg h]
theorem obWe (l : List ByteArray) (k : Int) : (obW l k).e = if (!belB k l.length) = true then 11 else 0 := by
  unfold obW
  cases belB k l.length <;> rfl
theorem nuWe (n : Int) : (nuW n).e = if (!isVal n) = true then 2 else 0 := by
  unfold nuW
  cases isVal n <;> rfl
theorem orWe (o : Int) : (knW (ornOf o) 13).e = if (!orOk o) = true then 13 else 0 := by
  unfold knW ornOf
  cases h : orOk o
  · rw [if_neg Bool.false_ne_true, Lib.toList_data]; rfl
  · have hk' : 0 ≤ o ∧ o ≤ 2 := by simpa [orOk] using h
    have key : ∀ k, k < 3 → (orn k).toList.isEmpty = false := by
      intro k hk
      rw [Lib.toList_data]
      have : ∀ k, k < 3 → (orn k).data.toList.isEmpty = false := by decide
      exact this k hk
    rw [if_pos rfl, key _ (by omega)]; rfl
theorem feOne (y : Wd) : fe [y] = y.e := by
  rw [fe]
  split
  · rename_i h; rw [h]; rfl
  · rfl
theorem lwE118 (p : Prg) (x : E9) : p.lwE x 118 = [obW p.vN x.ob] := rfl
theorem fe118 (p : Prg) (x : E9) : fe (p.lwE x 118) = if p.obE x 118 = true then 11 else 0 := by rw [lwE118, feOne]; exact obWe _ _
theorem lwE109 (p : Prg) (x : E9) : p.lwE x 109 = [obW p.muts x.ob] := rfl
theorem fe109 (p : Prg) (x : E9) : fe (p.lwE x 109) = if p.obE x 109 = true then 11 else 0 := by rw [lwE109, feOne]; exact obWe _ _
theorem lwE99 (p : Prg) (x : E9) : p.lwE x 99 = [obW p.conds x.ob] := rfl
theorem fe99 (p : Prg) (x : E9) : fe (p.lwE x 99) = if p.obE x 99 = true then 11 else 0 := by rw [lwE99, feOne]; exact obWe _ _
theorem lwE119 (p : Prg) (x : E9) : p.lwE x 119 = [obW p.muts x.mu] := rfl
theorem fe119 (p : Prg) (x : E9) : fe (p.lwE x 119) = if p.obE x 119 = true then 11 else 0 := by rw [lwE119, feOne]; exact obWe _ _
theorem lwE79 (p : Prg) (x : E9) : p.lwE x 79 = [knW (ornOf x.od) 13] := rfl
theorem fe79 (p : Prg) (x : E9) : fe (p.lwE x 79) = if x.odE 79 = true then 13 else 0 := by rw [lwE79, feOne]; exact orWe _
theorem lwE82 (p : Prg) (x : E9) : p.lwE x 82 = [nuW x.rd] := rfl
theorem fe82 (p : Prg) (x : E9) : fe (p.lwE x 82) = if x.nuE 82 = true then 2 else 0 := by rw [lwE82, feOne]; exact nuWe _
theorem lwE87 (p : Prg) (x : E9) : p.lwE x 87 = [nuW x.wr] := rfl
theorem fe87 (p : Prg) (x : E9) : fe (p.lwE x 87) = if x.nuE 87 = true then 2 else 0 := by rw [lwE87, feOne]; exact nuWe _
theorem lwE78 (p : Prg) (x : E9) : p.lwE x 78 = [nuW x.en] := rfl
theorem fe78 (p : Prg) (x : E9) : fe (p.lwE x 78) = if x.nuE 78 = true then 2 else 0 := by rw [lwE78, feOne]; exact nuWe _
theorem lwE74 (p : Prg) (x : E9) : p.lwE x 74 = [nuW x.ob] := rfl
theorem fe74 (p : Prg) (x : E9) : fe (p.lwE x 74) = if x.nuE 74 = true then 2 else 0 := by rw [lwE74, feOne]; exact nuWe _
theorem lwE69 (p : Prg) (x : E9) : p.lwE x 69 = (if x.en = -1 then [] else [.ok entryB, nuW x.en]) := rfl
theorem fe69 (p : Prg) (x : E9) : fe (p.lwE x 69) = if x.nuE 69 = true then 2 else 0 := by
  rw [lwE69]
  have e : x.nuE 69 = (!decide (x.en = -1) && !isVal x.en) := rfl
  rw [e]
  by_cases h : x.en = -1
  · rw [if_pos h, decide_eq_true h]; rfl
  · rw [if_neg h, decide_eq_false h]
    show fe [nuW x.en] = _
    rw [feOne, nuWe]; rfl
theorem evWk (p : Prg) (x : E9) (k : Nat) (hk : x.kd.toNat = k) (h : 1 ≤ k ∧ k ≤ 17) : p.evW x = (evl k).flatMap (p.lwE x) := by
  unfold Prg.evW
  rw [hk]
  rcases (by omega : k = 1 ∨ k = 2 ∨ k = 3 ∨ k = 4 ∨ k = 5 ∨ k = 6 ∨ k = 7 ∨ k = 8 ∨ k = 9 ∨ k = 10 ∨ k = 11 ∨ k = 12 ∨ k = 13 ∨ k = 14 ∨ k = 15 ∨ k = 16 ∨ k = 17) with rfl | rfl | rfl | rfl | rfl | rfl | rfl | rfl | rfl | rfl | rfl | rfl | rfl | rfl | rfl | rfl | rfl
  all_goals (simp only [evl, List.flatMap_cons, List.flatMap_nil, List.append_nil, lwE118, lwE109, lwE99, lwE119, lwE79, lwE82, lwE87, lwE78, lwE74, lwE69])
  all_goals first
    | rfl
    | (by_cases he : x.en = -1
       · rw [if_pos he, if_pos he]; rfl
       · rw [if_neg he, if_neg he]; rfl)
theorem wrIs (p : Prg) (x : E9) (k : Nat) (hk : x.kd.toNat = k) (h : 1 ≤ k ∧ k ≤ 17) : p.wrR x (evl k) = if (p.evT x).e ≠ 0 then (p.evT x).e else if x.bad = true then 2 else 0 := by
  unfold Prg.wrR Prg.evT
  rw [sntFe, evWk p x k hk h]
  rcases (by omega : k = 1 ∨ k = 2 ∨ k = 3 ∨ k = 4 ∨ k = 5 ∨ k = 6 ∨ k = 7 ∨ k = 8 ∨ k = 9 ∨ k = 10 ∨ k = 11 ∨ k = 12 ∨ k = 13 ∨ k = 14 ∨ k = 15 ∨ k = 16 ∨ k = 17) with rfl | rfl | rfl | rfl | rfl | rfl | rfl | rfl | rfl | rfl | rfl | rfl | rfl | rfl | rfl | rfl | rfl
  · simp only [evl, List.flatMap_cons, List.flatMap_nil, List.append_nil, feApp, fe118, fe79, fe82, fe69, List.any_cons, List.any_nil, (show x.odE 118 = false from rfl), (show x.nuE 118 = false from rfl), (show p.obE x 79 = false from rfl), (show x.nuE 79 = false from rfl), (show p.obE x 82 = false from rfl), (show x.odE 82 = false from rfl), (show p.obE x 69 = false from rfl), (show x.odE 69 = false from rfl)]
    cases p.obE x 118 <;> cases x.odE 79 <;> cases x.nuE 82 <;> cases x.nuE 69 <;> cases x.bad <;> rfl
  · simp only [evl, List.flatMap_cons, List.flatMap_nil, List.append_nil, feApp, fe118, fe79, fe87, List.any_cons, List.any_nil, (show x.odE 118 = false from rfl), (show x.nuE 118 = false from rfl), (show p.obE x 79 = false from rfl), (show x.nuE 79 = false from rfl), (show p.obE x 87 = false from rfl), (show x.odE 87 = false from rfl)]
    cases p.obE x 118 <;> cases x.odE 79 <;> cases x.nuE 87 <;> cases x.bad <;> rfl
  · simp only [evl, List.flatMap_cons, List.flatMap_nil, List.append_nil, feApp, fe118, fe79, fe87, fe78, List.any_cons, List.any_nil, (show x.odE 118 = false from rfl), (show x.nuE 118 = false from rfl), (show p.obE x 79 = false from rfl), (show x.nuE 79 = false from rfl), (show p.obE x 87 = false from rfl), (show x.odE 87 = false from rfl), (show p.obE x 78 = false from rfl), (show x.odE 78 = false from rfl)]
    cases p.obE x 118 <;> cases x.odE 79 <;> cases x.nuE 87 <;> cases x.nuE 78 <;> cases x.bad <;> rfl
  · simp only [evl, List.flatMap_cons, List.flatMap_nil, List.append_nil, feApp, fe118, fe87, fe78, List.any_cons, List.any_nil, (show x.odE 118 = false from rfl), (show x.nuE 118 = false from rfl), (show p.obE x 87 = false from rfl), (show x.odE 87 = false from rfl), (show p.obE x 78 = false from rfl), (show x.odE 78 = false from rfl)]
    cases p.obE x 118 <;> cases x.nuE 87 <;> cases x.nuE 78 <;> cases x.bad <;> rfl
  · simp only [evl, List.flatMap_cons, List.flatMap_nil, List.append_nil, feApp, fe118, fe79, fe82, fe87, List.any_cons, List.any_nil, (show x.odE 118 = false from rfl), (show x.nuE 118 = false from rfl), (show p.obE x 79 = false from rfl), (show x.nuE 79 = false from rfl), (show p.obE x 82 = false from rfl), (show x.odE 82 = false from rfl), (show p.obE x 87 = false from rfl), (show x.odE 87 = false from rfl)]
    cases p.obE x 118 <;> cases x.odE 79 <;> cases x.nuE 82 <;> cases x.nuE 87 <;> cases x.bad <;> rfl
  · simp only [evl, List.flatMap_cons, List.flatMap_nil, List.append_nil, feApp, fe118, fe79, fe82, List.any_cons, List.any_nil, (show x.odE 118 = false from rfl), (show x.nuE 118 = false from rfl), (show p.obE x 79 = false from rfl), (show x.nuE 79 = false from rfl), (show p.obE x 82 = false from rfl), (show x.odE 82 = false from rfl)]
    cases p.obE x 118 <;> cases x.odE 79 <;> cases x.nuE 82 <;> cases x.bad <;> rfl
  · simp only [evl, List.flatMap_nil, List.any_nil, fe]
    cases x.bad <;> rfl
  · simp only [evl, List.flatMap_cons, List.flatMap_nil, List.append_nil, feApp, fe118, fe79, fe82, fe69, List.any_cons, List.any_nil, (show x.odE 118 = false from rfl), (show x.nuE 118 = false from rfl), (show p.obE x 79 = false from rfl), (show x.nuE 79 = false from rfl), (show p.obE x 82 = false from rfl), (show x.odE 82 = false from rfl), (show p.obE x 69 = false from rfl), (show x.odE 69 = false from rfl)]
    cases p.obE x 118 <;> cases x.odE 79 <;> cases x.nuE 82 <;> cases x.nuE 69 <;> cases x.bad <;> rfl
  · simp only [evl, List.flatMap_cons, List.flatMap_nil, List.append_nil, fe109, List.any_cons, List.any_nil, (show x.odE 109 = false from rfl), (show x.nuE 109 = false from rfl)]
    cases p.obE x 109 <;> cases x.bad <;> rfl
  · simp only [evl, List.flatMap_cons, List.flatMap_nil, List.append_nil, fe109, List.any_cons, List.any_nil, (show x.odE 109 = false from rfl), (show x.nuE 109 = false from rfl)]
    cases p.obE x 109 <;> cases x.bad <;> rfl
  · simp only [evl, List.flatMap_cons, List.flatMap_nil, List.append_nil, feApp, fe109, fe82, List.any_cons, List.any_nil, (show x.odE 109 = false from rfl), (show x.nuE 109 = false from rfl), (show p.obE x 82 = false from rfl), (show x.odE 82 = false from rfl)]
    cases p.obE x 109 <;> cases x.nuE 82 <;> cases x.bad <;> rfl
  · simp only [evl, List.flatMap_cons, List.flatMap_nil, List.append_nil, feApp, fe99, fe119, List.any_cons, List.any_nil, (show x.odE 99 = false from rfl), (show x.nuE 99 = false from rfl), (show x.odE 119 = false from rfl), (show x.nuE 119 = false from rfl)]
    cases p.obE x 99 <;> cases p.obE x 119 <;> cases x.bad <;> rfl
  · simp only [evl, List.flatMap_cons, List.flatMap_nil, List.append_nil, fe99, List.any_cons, List.any_nil, (show x.odE 99 = false from rfl), (show x.nuE 99 = false from rfl)]
    cases p.obE x 99 <;> cases x.bad <;> rfl
  · simp only [evl, List.flatMap_cons, List.flatMap_nil, List.append_nil, feApp, fe99, fe82, List.any_cons, List.any_nil, (show x.odE 99 = false from rfl), (show x.nuE 99 = false from rfl), (show p.obE x 82 = false from rfl), (show x.odE 82 = false from rfl)]
    cases p.obE x 99 <;> cases x.nuE 82 <;> cases x.bad <;> rfl
  · simp only [evl, List.flatMap_cons, List.flatMap_nil, List.append_nil, feApp, fe99, fe82, List.any_cons, List.any_nil, (show x.odE 99 = false from rfl), (show x.nuE 99 = false from rfl), (show p.obE x 82 = false from rfl), (show x.odE 82 = false from rfl)]
    cases p.obE x 99 <;> cases x.nuE 82 <;> cases x.bad <;> rfl
  · simp only [evl, List.flatMap_cons, List.flatMap_nil, List.append_nil, fe74, List.any_cons, List.any_nil, (show p.obE x 74 = false from rfl), (show x.odE 74 = false from rfl)]
    cases x.nuE 74 <;> cases x.bad <;> rfl
  · simp only [evl, List.flatMap_cons, List.flatMap_nil, List.append_nil, fe74, List.any_cons, List.any_nil, (show p.obE x 74 = false from rfl), (show x.odE 74 = false from rfl)]
    cases x.nuE 74 <;> cases x.bad <;> rfl
theorem evlIn : ∀ k, k < 18 → ∀ c ∈ evl k, c ∈ ([118, 109, 99, 119, 79, 82, 87, 78, 74, 69] : List UInt8) := by decide +kernel
theorem evlLen : ∀ k, k < 18 → (evl k).length ≤ 4 := by decide +kernel
end Go.Proofs.YtnckpjcfgeajbaaGreatDoor

namespace Go.Proofs.YtnckpjcfgeajbaaGreatDoor
open Go Go.RowKit

theorem rWords (k : Nat) (h : 1 ≤ k ∧ k ≤ 17) (w : World) : Calls Tryz.prog 68 #[.int .i64 (k : Int)] w fun e w' => e = .returned (.tuple #[.string (evn k), .string (bs (evl k))]) ∧ w = w' := by
  rcases (by omega : k = 1 ∨ k = 2 ∨ k = 3 ∨ k = 4 ∨ k = 5 ∨ k = 6 ∨ k = 7 ∨ k = 8 ∨ k = 9 ∨ k = 10 ∨ k = 11 ∨ k = 12 ∨ k = 13 ∨ k = 14 ∨ k = 15 ∨ k = 16 ∨ k = 17) with rfl | rfl | rfl | rfl | rfl | rfl | rfl | rfl | rfl | rfl | rfl | rfl | rfl | rfl | rfl | rfl | rfl
  all_goals (
    go_enter Tryz.func68, Tryz.ntmps68
    go_wp2
    go_ret2
    exact ⟨rfl, rfl⟩)
theorem rWords0 (n : Int) (h : n < 1 ∨ 17 < n) (w : World) : Calls Tryz.prog 68 #[.int .i64 n] w fun e w' => e = .returned (.tuple #[.string ⟨#[]⟩, .string ⟨#[]⟩]) ∧ w = w' := by
  have f1 : (n == 1) = false := by simp; omega
  have f2 : (n == 2) = false := by simp; omega
  have f3 : (n == 3) = false := by simp; omega
  have f4 : (n == 4) = false := by simp; omega
  have f5 : (n == 5) = false := by simp; omega
  have f6 : (n == 6) = false := by simp; omega
  have f7 : (n == 7) = false := by simp; omega
  have f8 : (n == 8) = false := by simp; omega
  have f9 : (n == 9) = false := by simp; omega
  have f10 : (n == 10) = false := by simp; omega
  have f11 : (n == 11) = false := by simp; omega
  have f12 : (n == 12) = false := by simp; omega
  have f13 : (n == 13) = false := by simp; omega
  have f14 : (n == 14) = false := by simp; omega
  have f15 : (n == 15) = false := by simp; omega
  have f16 : (n == 16) = false := by simp; omega
  have f17 : (n == 17) = false := by simp; omega
  clear h
  go_enter Tryz.func68, Tryz.ntmps68
  go_wp2
  go_ret2
  exact ⟨rfl, rfl⟩
theorem rVal (n : Int) (w : World) : Calls Tryz.prog 143 #[.int .i64 n] w fun e w' => e = .returned (.bool (isVal n)) ∧ w = w' := by
  have HL : Hid (isVal n = (decide (-2147483648 ≤ n) && decide (n ≤ 2147483647))) := Lib.hid rfl
  go_enter Tryz.func143, Tryz.ntmps143
  go_wp2
  all_goals go_ret
  all_goals exact ⟨retBl (by rw [HL.out, Bool.eq_iff_iff]; (try simp); omega), rfl⟩
theorem rNum118 (x : E9) (w : World) : Calls Tryz.prog 70 #[x.val, .int .u8 118] w fun e w' => e = .returned (.tuple #[.int .i64 (x.num 118).1, .bool (x.num 118).2]) ∧ Below w.heap.size w w' := by
  obtain ⟨ag, ix, kd, ob, mu, en, od, rd, wo⟩ := x
  obtain ⟨W, hWE⟩ : ∃ W, w.alloc (.cells #[.int .i64 ag, .int .i64 ix, .int .i64 kd, .int .i64 ob, .int .i64 mu, .int .i64 en, .int .i64 od, .int .i64 rd, .int .i64 wo] 52) = W := ⟨_, rfl⟩
  have hbW : Below w.heap.size w W := by rw [← hWE]; exact belowAlloc w _
  have hI : Blk W w.heap.size 52 #[.int .i64 ag, .int .i64 ix, .int .i64 kd, .int .i64 ob, .int .i64 mu, .int .i64 en, .int .i64 od, .int .i64 rd, .int .i64 wo] := by rw [← hWE]; exact Blk.new w _ _
  have r3 := hI.cell 3
  have r5 := hI.cell 5
  have r7 := hI.cell 7
  have r8 := hI.cell 8
  simp only [E9.val]
  have HWE := Lib.hid hWE
  have HBW := Lib.hid hbW
  clear hI hWE hbW
  go_enter Tryz.func70, Tryz.ntmps70
  go_wp2_with fail
  rw [HWE.out]
  go_wp2
  go_ret2
  exact ⟨rfl, HBW.out⟩
theorem rNum109 (x : E9) (w : World) : Calls Tryz.prog 70 #[x.val, .int .u8 109] w fun e w' => e = .returned (.tuple #[.int .i64 (x.num 109).1, .bool (x.num 109).2]) ∧ Below w.heap.size w w' := by
  obtain ⟨ag, ix, kd, ob, mu, en, od, rd, wo⟩ := x
  obtain ⟨W, hWE⟩ : ∃ W, w.alloc (.cells #[.int .i64 ag, .int .i64 ix, .int .i64 kd, .int .i64 ob, .int .i64 mu, .int .i64 en, .int .i64 od, .int .i64 rd, .int .i64 wo] 52) = W := ⟨_, rfl⟩
  have hbW : Below w.heap.size w W := by rw [← hWE]; exact belowAlloc w _
  have hI : Blk W w.heap.size 52 #[.int .i64 ag, .int .i64 ix, .int .i64 kd, .int .i64 ob, .int .i64 mu, .int .i64 en, .int .i64 od, .int .i64 rd, .int .i64 wo] := by rw [← hWE]; exact Blk.new w _ _
  have r3 := hI.cell 3
  have r5 := hI.cell 5
  have r7 := hI.cell 7
  have r8 := hI.cell 8
  simp only [E9.val]
  have HWE := Lib.hid hWE
  have HBW := Lib.hid hbW
  clear hI hWE hbW
  go_enter Tryz.func70, Tryz.ntmps70
  go_wp2_with fail
  rw [HWE.out]
  go_wp2
  go_ret2
  exact ⟨rfl, HBW.out⟩
theorem rNum99 (x : E9) (w : World) : Calls Tryz.prog 70 #[x.val, .int .u8 99] w fun e w' => e = .returned (.tuple #[.int .i64 (x.num 99).1, .bool (x.num 99).2]) ∧ Below w.heap.size w w' := by
  obtain ⟨ag, ix, kd, ob, mu, en, od, rd, wo⟩ := x
  obtain ⟨W, hWE⟩ : ∃ W, w.alloc (.cells #[.int .i64 ag, .int .i64 ix, .int .i64 kd, .int .i64 ob, .int .i64 mu, .int .i64 en, .int .i64 od, .int .i64 rd, .int .i64 wo] 52) = W := ⟨_, rfl⟩
  have hbW : Below w.heap.size w W := by rw [← hWE]; exact belowAlloc w _
  have hI : Blk W w.heap.size 52 #[.int .i64 ag, .int .i64 ix, .int .i64 kd, .int .i64 ob, .int .i64 mu, .int .i64 en, .int .i64 od, .int .i64 rd, .int .i64 wo] := by rw [← hWE]; exact Blk.new w _ _
  have r3 := hI.cell 3
  have r5 := hI.cell 5
  have r7 := hI.cell 7
  have r8 := hI.cell 8
  simp only [E9.val]
  have HWE := Lib.hid hWE
  have HBW := Lib.hid hbW
  clear hI hWE hbW
  go_enter Tryz.func70, Tryz.ntmps70
  go_wp2_with fail
  rw [HWE.out]
  go_wp2
  go_ret2
  exact ⟨rfl, HBW.out⟩
theorem rNum119 (x : E9) (w : World) : Calls Tryz.prog 70 #[x.val, .int .u8 119] w fun e w' => e = .returned (.tuple #[.int .i64 (x.num 119).1, .bool (x.num 119).2]) ∧ Below w.heap.size w w' := by
  obtain ⟨ag, ix, kd, ob, mu, en, od, rd, wo⟩ := x
  obtain ⟨W, hWE⟩ : ∃ W, w.alloc (.cells #[.int .i64 ag, .int .i64 ix, .int .i64 kd, .int .i64 ob, .int .i64 mu, .int .i64 en, .int .i64 od, .int .i64 rd, .int .i64 wo] 52) = W := ⟨_, rfl⟩
  have hbW : Below w.heap.size w W := by rw [← hWE]; exact belowAlloc w _
  have hI : Blk W w.heap.size 52 #[.int .i64 ag, .int .i64 ix, .int .i64 kd, .int .i64 ob, .int .i64 mu, .int .i64 en, .int .i64 od, .int .i64 rd, .int .i64 wo] := by rw [← hWE]; exact Blk.new w _ _
  have r3 := hI.cell 3
  have r5 := hI.cell 5
  have r7 := hI.cell 7
  have r8 := hI.cell 8
  simp only [E9.val]
  have HWE := Lib.hid hWE
  have HBW := Lib.hid hbW
  clear hI hWE hbW
  go_enter Tryz.func70, Tryz.ntmps70
  go_wp2_with fail
  rw [HWE.out]
  go_wp2
  go_ret2
  exact ⟨rfl, HBW.out⟩
theorem rNum79 (x : E9) (w : World) : Calls Tryz.prog 70 #[x.val, .int .u8 79] w fun e w' => e = .returned (.tuple #[.int .i64 (x.num 79).1, .bool (x.num 79).2]) ∧ Below w.heap.size w w' := by
  obtain ⟨ag, ix, kd, ob, mu, en, od, rd, wo⟩ := x
  obtain ⟨W, hWE⟩ : ∃ W, w.alloc (.cells #[.int .i64 ag, .int .i64 ix, .int .i64 kd, .int .i64 ob, .int .i64 mu, .int .i64 en, .int .i64 od, .int .i64 rd, .int .i64 wo] 52) = W := ⟨_, rfl⟩
  have hbW : Below w.heap.size w W := by rw [← hWE]; exact belowAlloc w _
  have hI : Blk W w.heap.size 52 #[.int .i64 ag, .int .i64 ix, .int .i64 kd, .int .i64 ob, .int .i64 mu, .int .i64 en, .int .i64 od, .int .i64 rd, .int .i64 wo] := by rw [← hWE]; exact Blk.new w _ _
  have r3 := hI.cell 3
  have r5 := hI.cell 5
  have r7 := hI.cell 7
  have r8 := hI.cell 8
  simp only [E9.val]
  have HWE := Lib.hid hWE
  have HBW := Lib.hid hbW
  clear hI hWE hbW
  go_enter Tryz.func70, Tryz.ntmps70
  go_wp2_with fail
  rw [HWE.out]
  go_wp2
  go_ret2
  exact ⟨rfl, HBW.out⟩
theorem rNum82 (x : E9) (w : World) : Calls Tryz.prog 70 #[x.val, .int .u8 82] w fun e w' => e = .returned (.tuple #[.int .i64 (x.num 82).1, .bool (x.num 82).2]) ∧ Below w.heap.size w w' := by
  obtain ⟨ag, ix, kd, ob, mu, en, od, rd, wo⟩ := x
  obtain ⟨W, hWE⟩ : ∃ W, w.alloc (.cells #[.int .i64 ag, .int .i64 ix, .int .i64 kd, .int .i64 ob, .int .i64 mu, .int .i64 en, .int .i64 od, .int .i64 rd, .int .i64 wo] 52) = W := ⟨_, rfl⟩
  have hbW : Below w.heap.size w W := by rw [← hWE]; exact belowAlloc w _
  have hI : Blk W w.heap.size 52 #[.int .i64 ag, .int .i64 ix, .int .i64 kd, .int .i64 ob, .int .i64 mu, .int .i64 en, .int .i64 od, .int .i64 rd, .int .i64 wo] := by rw [← hWE]; exact Blk.new w _ _
  have r3 := hI.cell 3
  have r5 := hI.cell 5
  have r7 := hI.cell 7
  have r8 := hI.cell 8
  simp only [E9.val]
  have HWE := Lib.hid hWE
  have HBW := Lib.hid hbW
  clear hI hWE hbW
  go_enter Tryz.func70, Tryz.ntmps70
  go_wp2_with fail
  rw [HWE.out]
  go_wp2
  go_ret2
  exact ⟨rfl, HBW.out⟩
theorem rNum87 (x : E9) (w : World) : Calls Tryz.prog 70 #[x.val, .int .u8 87] w fun e w' => e = .returned (.tuple #[.int .i64 (x.num 87).1, .bool (x.num 87).2]) ∧ Below w.heap.size w w' := by
  obtain ⟨ag, ix, kd, ob, mu, en, od, rd, wo⟩ := x
  obtain ⟨W, hWE⟩ : ∃ W, w.alloc (.cells #[.int .i64 ag, .int .i64 ix, .int .i64 kd, .int .i64 ob, .int .i64 mu, .int .i64 en, .int .i64 od, .int .i64 rd, .int .i64 wo] 52) = W := ⟨_, rfl⟩
  have hbW : Below w.heap.size w W := by rw [← hWE]; exact belowAlloc w _
  have hI : Blk W w.heap.size 52 #[.int .i64 ag, .int .i64 ix, .int .i64 kd, .int .i64 ob, .int .i64 mu, .int .i64 en, .int .i64 od, .int .i64 rd, .int .i64 wo] := by rw [← hWE]; exact Blk.new w _ _
  have r3 := hI.cell 3
  have r5 := hI.cell 5
  have r7 := hI.cell 7
  have r8 := hI.cell 8
  simp only [E9.val]
  have HWE := Lib.hid hWE
  have HBW := Lib.hid hbW
  clear hI hWE hbW
  go_enter Tryz.func70, Tryz.ntmps70
  go_wp2_with fail
  rw [HWE.out]
  go_wp2
  go_ret2
  exact ⟨rfl, HBW.out⟩
theorem rNum78 (x : E9) (w : World) : Calls Tryz.prog 70 #[x.val, .int .u8 78] w fun e w' => e = .returned (.tuple #[.int .i64 (x.num 78).1, .bool (x.num 78).2]) ∧ Below w.heap.size w w' := by
  obtain ⟨ag, ix, kd, ob, mu, en, od, rd, wo⟩ := x
  obtain ⟨W, hWE⟩ : ∃ W, w.alloc (.cells #[.int .i64 ag, .int .i64 ix, .int .i64 kd, .int .i64 ob, .int .i64 mu, .int .i64 en, .int .i64 od, .int .i64 rd, .int .i64 wo] 52) = W := ⟨_, rfl⟩
  have hbW : Below w.heap.size w W := by rw [← hWE]; exact belowAlloc w _
  have hI : Blk W w.heap.size 52 #[.int .i64 ag, .int .i64 ix, .int .i64 kd, .int .i64 ob, .int .i64 mu, .int .i64 en, .int .i64 od, .int .i64 rd, .int .i64 wo] := by rw [← hWE]; exact Blk.new w _ _
  have r3 := hI.cell 3
  have r5 := hI.cell 5
  have r7 := hI.cell 7
  have r8 := hI.cell 8
  simp only [E9.val]
  have HWE := Lib.hid hWE
  have HBW := Lib.hid hbW
  clear hI hWE hbW
  go_enter Tryz.func70, Tryz.ntmps70
  go_wp2_with fail
  rw [HWE.out]
  go_wp2
  go_ret2
  exact ⟨rfl, HBW.out⟩
theorem rNum74 (x : E9) (w : World) : Calls Tryz.prog 70 #[x.val, .int .u8 74] w fun e w' => e = .returned (.tuple #[.int .i64 (x.num 74).1, .bool (x.num 74).2]) ∧ Below w.heap.size w w' := by
  obtain ⟨ag, ix, kd, ob, mu, en, od, rd, wo⟩ := x
  obtain ⟨W, hWE⟩ : ∃ W, w.alloc (.cells #[.int .i64 ag, .int .i64 ix, .int .i64 kd, .int .i64 ob, .int .i64 mu, .int .i64 en, .int .i64 od, .int .i64 rd, .int .i64 wo] 52) = W := ⟨_, rfl⟩
  have hbW : Below w.heap.size w W := by rw [← hWE]; exact belowAlloc w _
  have hI : Blk W w.heap.size 52 #[.int .i64 ag, .int .i64 ix, .int .i64 kd, .int .i64 ob, .int .i64 mu, .int .i64 en, .int .i64 od, .int .i64 rd, .int .i64 wo] := by rw [← hWE]; exact Blk.new w _ _
  have r3 := hI.cell 3
  have r5 := hI.cell 5
  have r7 := hI.cell 7
  have r8 := hI.cell 8
  simp only [E9.val]
  have HWE := Lib.hid hWE
  have HBW := Lib.hid hbW
  clear hI hWE hbW
  go_enter Tryz.func70, Tryz.ntmps70
  go_wp2_with fail
  rw [HWE.out]
  go_wp2
  go_ret2
  exact ⟨rfl, HBW.out⟩
theorem rNum69 (x : E9) (w : World) : Calls Tryz.prog 70 #[x.val, .int .u8 69] w fun e w' => e = .returned (.tuple #[.int .i64 (x.num 69).1, .bool (x.num 69).2]) ∧ Below w.heap.size w w' := by
  obtain ⟨ag, ix, kd, ob, mu, en, od, rd, wo⟩ := x
  obtain ⟨W, hWE⟩ : ∃ W, w.alloc (.cells #[.int .i64 ag, .int .i64 ix, .int .i64 kd, .int .i64 ob, .int .i64 mu, .int .i64 en, .int .i64 od, .int .i64 rd, .int .i64 wo] 52) = W := ⟨_, rfl⟩
  have hbW : Below w.heap.size w W := by rw [← hWE]; exact belowAlloc w _
  have hI : Blk W w.heap.size 52 #[.int .i64 ag, .int .i64 ix, .int .i64 kd, .int .i64 ob, .int .i64 mu, .int .i64 en, .int .i64 od, .int .i64 rd, .int .i64 wo] := by rw [← hWE]; exact Blk.new w _ _
  have r3 := hI.cell 3
  have r5 := hI.cell 5
  have r7 := hI.cell 7
  have r8 := hI.cell 8
  simp only [E9.val]
  have HWE := Lib.hid hWE
  have HBW := Lib.hid hbW
  clear hI hWE hbW
  by_cases he : en = -1
  · subst he
    have HE : Hid (E9.num ⟨ag, ix, kd, ob, mu, -1, od, rd, wo⟩ 69 = (-1, false)) := Lib.hid (by
      show ((-1 : Int), !decide ((-1 : Int) = -1)) = _
      rw [decide_eq_true rfl]; rfl)
    rw [HE.out]
    go_enter Tryz.func70, Tryz.ntmps70
    go_wp2_with fail
    rw [HWE.out]
    go_wp2
    go_quiet (fail)
    try go_wp2
    go_ret2
    exact ⟨rfl, belowDrewN HBW.out _⟩
  have he2 : (en == -1) = false := by simpa using he
  have he3 : (en != -1) = true := by simpa using he
  have HE : Hid (E9.num ⟨ag, ix, kd, ob, mu, en, od, rd, wo⟩ 69 = (en, true)) := Lib.hid (by
    show (en, !decide (en = -1)) = (en, true)
    rw [decide_eq_false he]; rfl)
  rw [HE.out]
  go_enter Tryz.func70, Tryz.ntmps70
  go_wp2_with fail
  rw [HWE.out]
  go_wp2
  go_quiet (fail)
  try go_wp2
  go_ret2
  exact ⟨rfl, belowDrewN HBW.out _⟩
theorem rNum (x : E9) (c : UInt8) (hc : c ∈ ([118, 109, 99, 119, 79, 82, 87, 78, 74, 69] : List UInt8)) (w : World) : Calls Tryz.prog 70 #[x.val, .int .u8 (c.toNat : Int)] w fun e w' => e = .returned (.tuple #[.int .i64 (x.num c).1, .bool (x.num c).2]) ∧ Below w.heap.size w w' := by
  simp only [List.mem_cons, List.not_mem_nil, or_false] at hc
  rcases hc with rfl | rfl | rfl | rfl | rfl | rfl | rfl | rfl | rfl | rfl
  · exact rNum118 x w
  · exact rNum109 x w
  · exact rNum99 x w
  · exact rNum119 x w
  · exact rNum79 x w
  · exact rNum82 x w
  · exact rNum87 x w
  · exact rNum78 x w
  · exact rNum74 x w
  · exact rNum69 x w
end Go.Proofs.YtnckpjcfgeajbaaGreatDoor

namespace Go.Proofs.YtnckpjcfgeajbaaGreatDoor
open Go Go.RowKit

theorem wr11 {p : Prg} {x : E9} {l : List UInt8} {k : Nat} (h : k < l.length) (h2 : p.obE x l[k] = true) : p.wrR x l = 11 := by
  unfold Prg.wrR
  rw [if_pos (List.any_eq_true.2 ⟨_, List.getElem_mem h, h2⟩)]
theorem anyNo {f : UInt8 → Bool} {l : List UInt8} (h : ∀ j (hj : j < l.length), f l[j] = false) : l.any f = false := by
  rw [Bool.eq_false_iff]
  intro ha
  obtain ⟨c, hc, h2⟩ := List.any_eq_true.1 ha
  obtain ⟨j, hj, rfl⟩ := List.getElem_of_mem hc
  rw [h j hj] at h2
  cases h2
theorem nextNo {f : UInt8 → Bool} {l : List UInt8} {k : Nat} (h : ∀ j (hj : j < l.length), j < k → f l[j] = false) (hk : k < l.length) (h2 : f l[k] = false) : ∀ j (hj : j < l.length), j < k + 1 → f l[j] = false := fun j hj hjk => by
  rcases Nat.lt_or_ge j k with h' | h'
  · exact h j hj h'
  · have e : j = k := by omega
    subst e; exact h2
theorem wr13 {p : Prg} {x : E9} {l : List UInt8} {k : Nat} (h0 : l.any (p.obE x) = false) (h : k < l.length) (h2 : x.odE l[k] = true) : p.wrR x l = 13 := by
  unfold Prg.wrR
  rw [h0, if_neg Bool.false_ne_true, if_pos (List.any_eq_true.2 ⟨_, List.getElem_mem h, h2⟩)]
theorem wr2b {p : Prg} {x : E9} {l : List UInt8} (h0 : l.any (p.obE x) = false) (h1 : l.any x.odE = false) (h2 : x.bad = true) : p.wrR x l = 2 := by
  unfold Prg.wrR
  rw [h0, h1, if_neg Bool.false_ne_true, if_neg Bool.false_ne_true, if_pos h2]
theorem wr2n {p : Prg} {x : E9} {l : List UInt8} {k : Nat} (h0 : l.any (p.obE x) = false) (h1 : l.any x.odE = false) (h2 : x.bad = false) (h : k < l.length) (h3 : x.nuE l[k] = true) : p.wrR x l = 2 := by
  unfold Prg.wrR
  rw [h0, h1, h2, if_neg Bool.false_ne_true, if_neg Bool.false_ne_true, if_neg Bool.false_ne_true, if_pos (List.any_eq_true.2 ⟨_, List.getElem_mem h, h3⟩)]
theorem wr0 {p : Prg} {x : E9} {l : List UInt8} (h0 : l.any (p.obE x) = false) (h1 : l.any x.odE = false) (h2 : x.bad = false) (h3 : l.any x.nuE = false) : p.wrR x l = 0 := by
  unfold Prg.wrR
  rw [h0, h1, h2, h3, if_neg Bool.false_ne_true, if_neg Bool.false_ne_true, if_neg Bool.false_ne_true, if_neg Bool.false_ne_true]
set_option maxRecDepth 100000 in
set_option maxHeartbeats 16000000 in
theorem rWrong {a : PgA} {p : Prg} (x : E9) (ws : List UInt8) (hws : ∀ c ∈ ws, c ∈ ([118, 109, 99, 119, 79, 82, 87, 78, 74, 69] : List UInt8)) (hwl : ws.length ≤ 4) (w : World) (hP : PgW w a p) : Calls Tryz.prog 69 #[a.val, x.val, .string (bs ws)] w fun e w' => e = .returned (.int .i64 (p.wrR x ws)) ∧ Below w.heap.size w w' := by
  obtain ⟨W, hWE⟩ : ∃ W, w.alloc (.cells a.fs 28) = W := ⟨_, rfl⟩
  have hbW : Below w.heap.size w W := by rw [← hWE]; exact belowAlloc w _
  have hB : PBox W w.heap.size a := by rw [← hWE]; exact Blk.new w _ _
  have hz : W.heap.size = w.heap.size + 1 := by rw [← hWE]; simp
  have HNV := Lib.hid (fun X (hX : PgW X a p) => rVn x.ob X hX)
  have HNM := Lib.hid (fun X (hX : PgW X a p) => rMn x.ob X hX)
  have HNC := Lib.hid (fun X (hX : PgW X a p) => rCn x.ob X hX)
  have HNW := Lib.hid (fun X (hX : PgW X a p) => rMn x.mu X hX)
  have HEV : Hid ((obW p.vN x.ob).e = if p.obE x 118 = true then 11 else 0) := Lib.hid (obWe _ _)
  have HEM : Hid ((obW p.muts x.ob).e = if p.obE x 109 = true then 11 else 0) := Lib.hid (obWe _ _)
  have HEC : Hid ((obW p.conds x.ob).e = if p.obE x 99 = true then 11 else 0) := Lib.hid (obWe _ _)
  have HEW : Hid ((obW p.muts x.mu).e = if p.obE x 119 = true then 11 else 0) := Lib.hid (obWe _ _)
  have HNU := Lib.hid (fun c (hc : c ∈ ([118, 109, 99, 119, 79, 82, 87, 78, 74, 69] : List UInt8)) X => rNum x c hc X)
  have HNE : Hid (∀ c, x.nuE c = ((x.num c).2 && !isVal (x.num c).1)) := Lib.hid fun c => rfl
  have HVA := Lib.hid (fun X => rVal x.ag X)
  have HVI := Lib.hid (fun X => rVal x.ix X)
  have HBA : Hid (x.bad = (!isVal x.ag || !isVal x.ix || decide (x.ix < 0))) := Lib.hid rfl
  have HOD : Hid (x.odE 79 = !orOk x.od) := Lib.hid rfl
  have HODN : Hid (∀ c, c ≠ 79 → x.odE c = false) := Lib.hid fun c h => by unfold E9.odE; rw [if_neg h]
  have HR11 := Lib.hid (fun k (h : k < ws.length) (h2 : p.obE x ws[k] = true) => wr11 h h2)
  have HR13 := Lib.hid (fun k (h0 : ws.any (p.obE x) = false) (h : k < ws.length) (h2 : x.odE ws[k] = true) => wr13 h0 h h2)
  have HR2b := Lib.hid (fun (h0 : ws.any (p.obE x) = false) (h1 : ws.any x.odE = false) (h2 : x.bad = true) => wr2b h0 h1 h2)
  have HR2n := Lib.hid (fun k (h0 : ws.any (p.obE x) = false) (h1 : ws.any x.odE = false) (h2 : x.bad = false) (h : k < ws.length) (h3 : x.nuE ws[k] = true) => wr2n h0 h1 h2 h h3)
  have HR0 := Lib.hid (fun (h0 : ws.any (p.obE x) = false) (h1 : ws.any x.odE = false) (h2 : x.bad = false) (h3 : ws.any x.nuE = false) => wr0 h0 h1 h2 h3)
  generalize p.wrR x ws = wres at HR11 HR13 HR2b HR2n HR0 ⊢
  generalize hyv : obW p.vN x.ob = yv at HNV HEV
  generalize hym : obW p.muts x.ob = ym at HNM HEM
  generalize hyc : obW p.conds x.ob = yc at HNC HEC
  generalize hyw : obW p.muts x.mu = yw at HNW HEW
  clear hyv hym hyc hyw
  obtain ⟨ag, ix, kd, ob, mu, en, od, rd, wo⟩ := x
  obtain ⟨V, hVE⟩ : ∃ V, W.alloc (.cells #[.int .i64 ag, .int .i64 ix, .int .i64 kd, .int .i64 ob, .int .i64 mu, .int .i64 en, .int .i64 od, .int .i64 rd, .int .i64 wo] 52) = V := ⟨_, rfl⟩
  have hbV : Below W.heap.size W V := by rw [← hVE]; exact belowAlloc W _
  have hI : Blk V W.heap.size 52 #[.int .i64 ag, .int .i64 ix, .int .i64 kd, .int .i64 ob, .int .i64 mu, .int .i64 en, .int .i64 od, .int .i64 rd, .int .i64 wo] := by rw [← hVE]; exact Blk.new W _ _
  rw [hz] at hI
  have hbB := belowThen hbW hbV
  have HKB := Lib.hid (hB.below hbV)
  have HKI := Lib.hid hI
  have HP := Lib.hid (fun X (hX : Below V.heap.size V X) => (hP.below hbB).below hX)
  obtain ⟨A1, n1, c1, A2, n2, c2, A3, n3, c3, A4, n4, c4, A5, n5, c5⟩ := a
  simp only [PgA.val, PgA.fs, E9.val] at *
  obtain ⟨b0, hb0⟩ : ∃ b0, w.heap.size = b0 := ⟨_, rfl⟩
  obtain ⟨b1, hb1⟩ : ∃ b1, w.heap.size + 1 = b1 := ⟨_, rfl⟩
  have HBB := Lib.hid hbB
  have HB0 := Lib.hid hb0
  have HB1 := Lib.hid hb1
  have HK : Hid (∀ X, Below V.heap.size V X → Below V.heap.size V X ∧ X.cell? ⟨b0, 0, none⟩ = some (.slice A1 n1 c1) ∧ X.cell? ⟨b0, 1, none⟩ = some (.slice A2 n2 c2) ∧ X.cell? ⟨b0, 2, none⟩ = some (.slice A3 n3 c3) ∧ X.cell? ⟨b0, 3, none⟩ = some (.slice A4 n4 c4) ∧ X.cell? ⟨b0, 4, none⟩ = some (.slice A5 n5 c5) ∧ X.cell? ⟨b1, 0, none⟩ = some (.int .i64 ag) ∧ X.cell? ⟨b1, 1, none⟩ = some (.int .i64 ix) ∧ X.cell? ⟨b1, 2, none⟩ = some (.int .i64 kd) ∧ X.cell? ⟨b1, 3, none⟩ = some (.int .i64 ob) ∧ X.cell? ⟨b1, 4, none⟩ = some (.int .i64 mu) ∧ X.cell? ⟨b1, 5, none⟩ = some (.int .i64 en) ∧ X.cell? ⟨b1, 6, none⟩ = some (.int .i64 od) ∧ X.cell? ⟨b1, 7, none⟩ = some (.int .i64 rd) ∧ X.cell? ⟨b1, 8, none⟩ = some (.int .i64 wo)) := by
    refine Lib.hid fun X hX => ?_
    obtain ⟨g0, g1, g2, g3, g4⟩ := (HKB.out.below hX).facts
    have hJ := HKI.out.below' hX
    rw [hb1] at hJ
    rw [hb0] at g0 g1 g2 g3 g4
    exact ⟨hX, g0, g1, g2, g3, g4, hJ.cell 0, hJ.cell 1, hJ.cell 2, hJ.cell 3, hJ.cell 4, hJ.cell 5, hJ.cell 6, hJ.cell 7, hJ.cell 8⟩
  have HWE := Lib.hid hWE
  have HVE := Lib.hid hVE
  clear hP hB hbW hbV hWE hVE hI hbB hb0 hb1 HKB HKI
  obtain ⟨S, hS⟩ : ∃ S, bs ws = S := ⟨_, rfl⟩
  have hSL : S.size = ws.length := by rw [← hS]; simp [bs, ByteArray.size]
  have HAT : Hid (∀ k (h : k < S.size) (h2 : k < ws.length), S[k] = ws[k]) := Lib.hid (by subst hS; intro k h h2; simp [bs]; rfl)
  have hS4 : S.size ≤ 4 := by omega
  have HSL := Lib.hid hSL
  have HWS := Lib.hid hws
  rw [hS]
  clear hS hSL hwl hws
  go_enter Tryz.func69, Tryz.ntmps69
  go_wp2_with fail
  rw [HWE.out, HVE.out]
  rw [HB1.out, HB0.out]
  obtain ⟨q, k0, k1', k2', k3', k4, r0, r1, r2, r3, r4, r5, r6, r7, r8⟩ := HK.out V (Below.refl _ _)
  clear q
  go_wp2
  go_loopw [7] (fun vi wr => ∃ k : Nat, k ≤ S.size ∧ vi = .int .i64 k ∧ Below V.heap.size V wr ∧ Hid (∀ j (hj : j < ws.length), j < k → p.obE ⟨ag, ix, kd, ob, mu, en, od, rd, wo⟩ ws[j] = false)) (fun i _ => S.size - (intOf i).toNat)
  case atStart => exact ⟨0, Nat.zero_le _, rfl, Below.refl _ _, Lib.hid fun j _ h => by omega⟩
  case round =>
    obtain ⟨k, hk, rfl, hb, HA⟩ := hrel
    clear k0 k1' k2' k3' k4 r0 r1 r2 r3 r4 r5 r6 r7 r8
    obtain ⟨q, k0, k1', k2', k3', k4, r0, r1, r2, r3, r4, r5, r6, r7, r8⟩ := HK.out wr hb
    clear q
    by_cases hks : k < S.size
    · have hkw : k < ws.length := by rw [← HSL.out]; exact hks
      have HBAD := Lib.hid (fun h => HR11.out k hkw h)
      have HNXT := Lib.hid (fun h => nextNo HA.out hkw h)
      have hsk := HAT.out k hks hkw
      have hk0 : (0 : Int) ≤ k := by omega
      have hk1 : (k : Int) < S.size := by omega
      have hin := HWS.out _ (List.getElem_mem hkw)
      simp only [List.mem_cons, List.not_mem_nil, or_false] at hin
      rcases hin with hlk | hlk | hlk | hlk | hlk | hlk | hlk | hlk | hlk | hlk
      · have hc := hsk.trans hlk
        have hN : S[k].toNat = 118 := by rw [hc]; rfl
        have HOE : Hid (yv.e = if p.obE ⟨ag, ix, kd, ob, mu, en, od, rd, wo⟩ ws[k] = true then 11 else 0) := Lib.hid (by rw [hlk]; exact HEV.out)
        clear hsk hlk hc
        have hbd : Below V.heap.size V wr.drew := hb.drew
        have HNX := Lib.hid (fun X hX => HNV.out X hX)
        rw [show (118 : Int) = (S[k].toNat : Int) by rw [hN]; rfl] at HNX
        go_wp2_with fail
        clear k0 k1' k2' k3' k4 r0 r1 r2 r3 r4 r5 r6 r7 r8
        go_region_held3 (fun w' => Below V.heap.size V w' ∧ w'.cell? ⟨b0, 0, none⟩ = some (.slice A1 n1 c1) ∧ w'.cell? ⟨b0, 1, none⟩ = some (.slice A2 n2 c2) ∧ w'.cell? ⟨b0, 2, none⟩ = some (.slice A3 n3 c3) ∧ w'.cell? ⟨b0, 3, none⟩ = some (.slice A4 n4 c4) ∧ w'.cell? ⟨b0, 4, none⟩ = some (.slice A5 n5 c5) ∧ w'.cell? ⟨b1, 0, none⟩ = some (.int .i64 ag) ∧ w'.cell? ⟨b1, 1, none⟩ = some (.int .i64 ix) ∧ w'.cell? ⟨b1, 2, none⟩ = some (.int .i64 kd) ∧ w'.cell? ⟨b1, 3, none⟩ = some (.int .i64 ob) ∧ w'.cell? ⟨b1, 4, none⟩ = some (.int .i64 mu) ∧ w'.cell? ⟨b1, 5, none⟩ = some (.int .i64 en) ∧ w'.cell? ⟨b1, 6, none⟩ = some (.int .i64 od) ∧ w'.cell? ⟨b1, 7, none⟩ = some (.int .i64 rd) ∧ w'.cell? ⟨b1, 8, none⟩ = some (.int .i64 wo))
          (first
            | with_reducible assumption
            | exact HK.out _ hbd
            | exact HK.out _ (belowThen (‹Below V.heap.size V _ ∧ _›).1 bk))
          (first
            | (go_at_call 72; (first | with_reducible refine (HNX.out _ (HP.out _ (‹Below V.heap.size V _ ∧ _›).1)).mono ?_ | with_reducible refine (HNV.out _ (HP.out _ (‹Below V.heap.size V _ ∧ _›).1)).mono ?_ | refine (HNV.out _ (HP.out _ (‹Below V.heap.size V _ ∧ _›).1)).mono ?_); rintro e wO ⟨he, bk⟩; have he : e = .returned (.tuple #[.string (bs yv.t), .bool (decide (yv.e = 0))]) := he; subst he))
        have hfin := (‹Below V.heap.size V wO ∧ _›).1
        clear hbd bk
        generalize bs yv.t = sy
        generalize p.obE ⟨ag, ix, kd, ob, mu, en, od, rd, wo⟩ ws[k] = oe at HOE HBAD HNXT
        by_cases h0 : yv.e = 0
        · rw [decide_eq_true h0]
          have hoe : oe = false := by
            cases oe
            · rfl
            · have := HOE.out; rw [if_pos rfl] at this; omega
          have HAN := Lib.hid (HNXT.out hoe)
          clear h0 hoe
          go_wp2
          go_roundw
          case rel => exact ⟨k + 1, by omega, by go_num, hfin, HAN⟩
          case measure => simp [intOf]; omega
        · rw [decide_eq_false h0]
          have hoe : oe = true := by
            cases oe
            · have := HOE.out; rw [if_neg Bool.false_ne_true] at this; omega
            · rfl
          have HZ := Lib.hid (HBAD.out hoe)
          clear h0 hoe
          go_wp2
          go_ret
          exact ⟨by first | (rw [HZ.out]; done) | (rw [HZ.out]; rfl), belowThen HBB.out hfin⟩
      · have hc := hsk.trans hlk
        have hN : S[k].toNat = 109 := by rw [hc]; rfl
        have HOE : Hid (ym.e = if p.obE ⟨ag, ix, kd, ob, mu, en, od, rd, wo⟩ ws[k] = true then 11 else 0) := Lib.hid (by rw [hlk]; exact HEM.out)
        clear hsk hlk hc
        have hbd : Below V.heap.size V wr.drew := hb.drew
        have HNX := Lib.hid (fun X hX => HNM.out X hX)
        rw [show (109 : Int) = (S[k].toNat : Int) by rw [hN]; rfl] at HNX
        go_wp2_with fail
        clear k0 k1' k2' k3' k4 r0 r1 r2 r3 r4 r5 r6 r7 r8
        go_region_held3 (fun w' => Below V.heap.size V w' ∧ w'.cell? ⟨b0, 0, none⟩ = some (.slice A1 n1 c1) ∧ w'.cell? ⟨b0, 1, none⟩ = some (.slice A2 n2 c2) ∧ w'.cell? ⟨b0, 2, none⟩ = some (.slice A3 n3 c3) ∧ w'.cell? ⟨b0, 3, none⟩ = some (.slice A4 n4 c4) ∧ w'.cell? ⟨b0, 4, none⟩ = some (.slice A5 n5 c5) ∧ w'.cell? ⟨b1, 0, none⟩ = some (.int .i64 ag) ∧ w'.cell? ⟨b1, 1, none⟩ = some (.int .i64 ix) ∧ w'.cell? ⟨b1, 2, none⟩ = some (.int .i64 kd) ∧ w'.cell? ⟨b1, 3, none⟩ = some (.int .i64 ob) ∧ w'.cell? ⟨b1, 4, none⟩ = some (.int .i64 mu) ∧ w'.cell? ⟨b1, 5, none⟩ = some (.int .i64 en) ∧ w'.cell? ⟨b1, 6, none⟩ = some (.int .i64 od) ∧ w'.cell? ⟨b1, 7, none⟩ = some (.int .i64 rd) ∧ w'.cell? ⟨b1, 8, none⟩ = some (.int .i64 wo))
          (first
            | with_reducible assumption
            | exact HK.out _ hbd
            | exact HK.out _ (belowThen (‹Below V.heap.size V _ ∧ _›).1 bk))
          (first
            | (go_at_call 72; (first | with_reducible refine (HNX.out _ (HP.out _ (‹Below V.heap.size V _ ∧ _›).1)).mono ?_ | with_reducible refine (HNM.out _ (HP.out _ (‹Below V.heap.size V _ ∧ _›).1)).mono ?_ | refine (HNM.out _ (HP.out _ (‹Below V.heap.size V _ ∧ _›).1)).mono ?_); rintro e wO ⟨he, bk⟩; have he : e = .returned (.tuple #[.string (bs ym.t), .bool (decide (ym.e = 0))]) := he; subst he))
        have hfin := (‹Below V.heap.size V wO ∧ _›).1
        clear hbd bk
        generalize bs ym.t = sy
        generalize p.obE ⟨ag, ix, kd, ob, mu, en, od, rd, wo⟩ ws[k] = oe at HOE HBAD HNXT
        by_cases h0 : ym.e = 0
        · rw [decide_eq_true h0]
          have hoe : oe = false := by
            cases oe
            · rfl
            · have := HOE.out; rw [if_pos rfl] at this; omega
          have HAN := Lib.hid (HNXT.out hoe)
          clear h0 hoe
          go_wp2
          go_roundw
          case rel => exact ⟨k + 1, by omega, by go_num, hfin, HAN⟩
          case measure => simp [intOf]; omega
        · rw [decide_eq_false h0]
          have hoe : oe = true := by
            cases oe
            · have := HOE.out; rw [if_neg Bool.false_ne_true] at this; omega
            · rfl
          have HZ := Lib.hid (HBAD.out hoe)
          clear h0 hoe
          go_wp2
          go_ret
          exact ⟨by first | (rw [HZ.out]; done) | (rw [HZ.out]; rfl), belowThen HBB.out hfin⟩
      · have hc := hsk.trans hlk
        have hN : S[k].toNat = 99 := by rw [hc]; rfl
        have HOE : Hid (yc.e = if p.obE ⟨ag, ix, kd, ob, mu, en, od, rd, wo⟩ ws[k] = true then 11 else 0) := Lib.hid (by rw [hlk]; exact HEC.out)
        clear hsk hlk hc
        have hbd : Below V.heap.size V wr.drew := hb.drew
        have HNX := Lib.hid (fun X hX => HNC.out X hX)
        rw [show (99 : Int) = (S[k].toNat : Int) by rw [hN]; rfl] at HNX
        go_wp2_with fail
        clear k0 k1' k2' k3' k4 r0 r1 r2 r3 r4 r5 r6 r7 r8
        go_region_held3 (fun w' => Below V.heap.size V w' ∧ w'.cell? ⟨b0, 0, none⟩ = some (.slice A1 n1 c1) ∧ w'.cell? ⟨b0, 1, none⟩ = some (.slice A2 n2 c2) ∧ w'.cell? ⟨b0, 2, none⟩ = some (.slice A3 n3 c3) ∧ w'.cell? ⟨b0, 3, none⟩ = some (.slice A4 n4 c4) ∧ w'.cell? ⟨b0, 4, none⟩ = some (.slice A5 n5 c5) ∧ w'.cell? ⟨b1, 0, none⟩ = some (.int .i64 ag) ∧ w'.cell? ⟨b1, 1, none⟩ = some (.int .i64 ix) ∧ w'.cell? ⟨b1, 2, none⟩ = some (.int .i64 kd) ∧ w'.cell? ⟨b1, 3, none⟩ = some (.int .i64 ob) ∧ w'.cell? ⟨b1, 4, none⟩ = some (.int .i64 mu) ∧ w'.cell? ⟨b1, 5, none⟩ = some (.int .i64 en) ∧ w'.cell? ⟨b1, 6, none⟩ = some (.int .i64 od) ∧ w'.cell? ⟨b1, 7, none⟩ = some (.int .i64 rd) ∧ w'.cell? ⟨b1, 8, none⟩ = some (.int .i64 wo))
          (first
            | with_reducible assumption
            | exact HK.out _ hbd
            | exact HK.out _ (belowThen (‹Below V.heap.size V _ ∧ _›).1 bk))
          (first
            | (go_at_call 72; (first | with_reducible refine (HNX.out _ (HP.out _ (‹Below V.heap.size V _ ∧ _›).1)).mono ?_ | with_reducible refine (HNC.out _ (HP.out _ (‹Below V.heap.size V _ ∧ _›).1)).mono ?_ | refine (HNC.out _ (HP.out _ (‹Below V.heap.size V _ ∧ _›).1)).mono ?_); rintro e wO ⟨he, bk⟩; have he : e = .returned (.tuple #[.string (bs yc.t), .bool (decide (yc.e = 0))]) := he; subst he))
        have hfin := (‹Below V.heap.size V wO ∧ _›).1
        clear hbd bk
        generalize bs yc.t = sy
        generalize p.obE ⟨ag, ix, kd, ob, mu, en, od, rd, wo⟩ ws[k] = oe at HOE HBAD HNXT
        by_cases h0 : yc.e = 0
        · rw [decide_eq_true h0]
          have hoe : oe = false := by
            cases oe
            · rfl
            · have := HOE.out; rw [if_pos rfl] at this; omega
          have HAN := Lib.hid (HNXT.out hoe)
          clear h0 hoe
          go_wp2
          go_roundw
          case rel => exact ⟨k + 1, by omega, by go_num, hfin, HAN⟩
          case measure => simp [intOf]; omega
        · rw [decide_eq_false h0]
          have hoe : oe = true := by
            cases oe
            · have := HOE.out; rw [if_neg Bool.false_ne_true] at this; omega
            · rfl
          have HZ := Lib.hid (HBAD.out hoe)
          clear h0 hoe
          go_wp2
          go_ret
          exact ⟨by first | (rw [HZ.out]; done) | (rw [HZ.out]; rfl), belowThen HBB.out hfin⟩
      · have hc := hsk.trans hlk
        have hN : S[k].toNat = 119 := by rw [hc]; rfl
        have HOE : Hid (yw.e = if p.obE ⟨ag, ix, kd, ob, mu, en, od, rd, wo⟩ ws[k] = true then 11 else 0) := Lib.hid (by rw [hlk]; exact HEW.out)
        clear hsk hlk hc
        go_wp2_with fail
        refine (HNW.out _ (HP.out _ hb)).mono ?_
        rintro e wO ⟨he, bk⟩
        have he : e = .returned (.tuple #[.string (bs yw.t), .bool (decide (yw.e = 0))]) := he
        subst he
        have hfin := belowThen hb bk
        clear bk k0 k1' k2' k3' k4 r0 r1 r2 r3 r4 r5 r6 r7 r8
        generalize bs yw.t = sy
        generalize p.obE ⟨ag, ix, kd, ob, mu, en, od, rd, wo⟩ ws[k] = oe at HOE HBAD HNXT
        by_cases h0 : yw.e = 0
        · rw [decide_eq_true h0]
          have hoe : oe = false := by
            cases oe
            · rfl
            · have := HOE.out; rw [if_pos rfl] at this; omega
          have HAN := Lib.hid (HNXT.out hoe)
          clear h0 hoe
          go_wp2
          go_roundw
          case rel => exact ⟨k + 1, by omega, by go_num, hfin, HAN⟩
          case measure => simp [intOf]; omega
        · rw [decide_eq_false h0]
          have hoe : oe = true := by
            cases oe
            · have := HOE.out; rw [if_neg Bool.false_ne_true] at this; omega
            · rfl
          have HZ := Lib.hid (HBAD.out hoe)
          clear h0 hoe
          go_wp2
          go_ret
          exact ⟨by first | (rw [HZ.out]; done) | (rw [HZ.out]; rfl), belowThen HBB.out hfin⟩
      · have hc := hsk.trans hlk
        have hN : S[k].toNat = 79 := by rw [hc]; rfl
        have HAN := Lib.hid (HNXT.out (by rw [hlk]; rfl))
        clear k0 k1' k2' k3' k4 r0 r1 r2 r3 r4 r5 r6 r7 r8 hsk hlk hc
        go_wp2
        go_roundw
        case rel => exact ⟨k + 1, by omega, by go_num, hb, HAN⟩
        case measure => simp [intOf]; omega
      · have hc := hsk.trans hlk
        have hN : S[k].toNat = 82 := by rw [hc]; rfl
        have HAN := Lib.hid (HNXT.out (by rw [hlk]; rfl))
        clear k0 k1' k2' k3' k4 r0 r1 r2 r3 r4 r5 r6 r7 r8 hsk hlk hc
        go_wp2
        go_roundw
        case rel => exact ⟨k + 1, by omega, by go_num, hb, HAN⟩
        case measure => simp [intOf]; omega
      · have hc := hsk.trans hlk
        have hN : S[k].toNat = 87 := by rw [hc]; rfl
        have HAN := Lib.hid (HNXT.out (by rw [hlk]; rfl))
        clear k0 k1' k2' k3' k4 r0 r1 r2 r3 r4 r5 r6 r7 r8 hsk hlk hc
        go_wp2
        go_roundw
        case rel => exact ⟨k + 1, by omega, by go_num, hb, HAN⟩
        case measure => simp [intOf]; omega
      · have hc := hsk.trans hlk
        have hN : S[k].toNat = 78 := by rw [hc]; rfl
        have HAN := Lib.hid (HNXT.out (by rw [hlk]; rfl))
        clear k0 k1' k2' k3' k4 r0 r1 r2 r3 r4 r5 r6 r7 r8 hsk hlk hc
        go_wp2
        go_roundw
        case rel => exact ⟨k + 1, by omega, by go_num, hb, HAN⟩
        case measure => simp [intOf]; omega
      · have hc := hsk.trans hlk
        have hN : S[k].toNat = 74 := by rw [hc]; rfl
        have HAN := Lib.hid (HNXT.out (by rw [hlk]; rfl))
        clear k0 k1' k2' k3' k4 r0 r1 r2 r3 r4 r5 r6 r7 r8 hsk hlk hc
        go_wp2
        go_roundw
        case rel => exact ⟨k + 1, by omega, by go_num, hb, HAN⟩
        case measure => simp [intOf]; omega
      · have hc := hsk.trans hlk
        have hN : S[k].toNat = 69 := by rw [hc]; rfl
        have HAN := Lib.hid (HNXT.out (by rw [hlk]; rfl))
        clear k0 k1' k2' k3' k4 r0 r1 r2 r3 r4 r5 r6 r7 r8 hsk hlk hc
        go_wp2
        go_roundw
        case rel => exact ⟨k + 1, by omega, by go_num, hb, HAN⟩
        case measure => simp [intOf]; omega
    · have HO0 := Lib.hid (anyNo (f := p.obE ⟨ag, ix, kd, ob, mu, en, od, rd, wo⟩) (l := ws) fun j hj => HA.out j hj (by rw [← HSL.out] at hj; omega))
      go_wp2
      go_loopw [12] (fun vi wr => ∃ k : Nat, k ≤ S.size ∧ vi = .int .i64 k ∧ Below V.heap.size V wr ∧ Hid (∀ j (hj : j < ws.length), j < k → E9.odE ⟨ag, ix, kd, ob, mu, en, od, rd, wo⟩ ws[j] = false)) (fun i _ => S.size - (intOf i).toNat)
      case atStart => exact ⟨0, Nat.zero_le _, rfl, hb, Lib.hid fun j _ h => by omega⟩
      case round =>
        clear k0 k1' k2' k3' k4 r0 r1 r2 r3 r4 r5 r6 r7 r8 HA
        obtain ⟨k, hk, rfl, hb, HA⟩ := hrel
        obtain ⟨q, k0, k1', k2', k3', k4, r0, r1, r2, r3, r4, r5, r6, r7, r8⟩ := HK.out wr hb
        clear q
        by_cases hks : k < S.size
        · have hkw : k < ws.length := by rw [← HSL.out]; exact hks
          have HBAD := Lib.hid (fun h => HR13.out k HO0.out hkw h)
          have HNXT := Lib.hid (fun h => nextNo HA.out hkw h)
          have hsk := HAT.out k hks hkw
          have hk0 : (0 : Int) ≤ k := by omega
          have hk1 : (k : Int) < S.size := by omega
          by_cases h79 : ws[k] = 79
          · have hN : S[k].toNat = 79 := by rw [hsk, h79]; rfl
            rw [h79, HOD.out] at HBAD HNXT
            clear hsk h79
            simp only [orOk] at HBAD HNXT
            by_cases h1 : od < 0
            · have HZ := Lib.hid (HBAD.out (by simp; omega))
              go_wp2
              go_ret
              exact ⟨by first | (rw [HZ.out]; done) | (rw [HZ.out]; rfl), belowThen HBB.out hb⟩
            · by_cases h2 : 2 < od
              · have HZ := Lib.hid (HBAD.out (by simp; omega))
                go_wp2
                go_ret
                exact ⟨by first | (rw [HZ.out]; done) | (rw [HZ.out]; rfl), belowThen HBB.out hb⟩
              · have HAN := Lib.hid (HNXT.out (by simp; omega))
                go_wp2
                go_roundw
                case rel => exact ⟨k + 1, by omega, by go_num, hb, HAN⟩
                case measure => simp [intOf]; omega
          · have hN : ((S[k].toNat : Int) == 79) = false := by
              rw [hsk]
              have : ws[k].toNat ≠ 79 := fun e => h79 (UInt8.toNat_inj.1 e)
              simp; omega
            have HAN := Lib.hid (HNXT.out (HODN.out _ h79))
            clear hsk h79
            go_wp2
            go_roundw
            case rel => exact ⟨k + 1, by omega, by go_num, hb, HAN⟩
            case measure => simp [intOf]; omega
        · have HO1 := Lib.hid (anyNo (f := E9.odE ⟨ag, ix, kd, ob, mu, en, od, rd, wo⟩) (l := ws) fun j hj => HA.out j hj (by rw [← HSL.out] at hj; omega))
          rcases hva : isVal ag with _ | _
          · have HZ := Lib.hid (HR2b.out HO0.out HO1.out (by rw [HBA.out, hva]; rfl))
            rw [hva] at HVA
            go_wp2_with fail
            refine (HVA.out _).mono ?_
            rintro e wA ⟨rfl, rfl⟩
            go_wp2
            go_ret
            exact ⟨by first | (rw [HZ.out]; done) | (rw [HZ.out]; rfl), belowThen HBB.out hb⟩
          rcases hvi : isVal ix with _ | _
          · have HZ := Lib.hid (HR2b.out HO0.out HO1.out (by rw [HBA.out, hva, hvi]; rfl))
            rw [hva] at HVA
            rw [hvi] at HVI
            go_wp2_with fail
            refine (HVA.out _).mono ?_
            rintro e wA ⟨rfl, rfl⟩
            go_wp2_with fail
            refine (HVI.out _).mono ?_
            rintro e wA ⟨rfl, rfl⟩
            go_wp2
            go_ret
            exact ⟨by first | (rw [HZ.out]; done) | (rw [HZ.out]; rfl), belowThen HBB.out hb⟩
          by_cases hx0 : ix < 0
          · have HZ := Lib.hid (HR2b.out HO0.out HO1.out (by rw [HBA.out, hva, hvi, decide_eq_true hx0]; rfl))
            rw [hva] at HVA
            rw [hvi] at HVI
            go_wp2_with fail
            refine (HVA.out _).mono ?_
            rintro e wA ⟨rfl, rfl⟩
            go_wp2_with fail
            refine (HVI.out _).mono ?_
            rintro e wA ⟨rfl, rfl⟩
            go_wp2
            go_ret
            exact ⟨by first | (rw [HZ.out]; done) | (rw [HZ.out]; rfl), belowThen HBB.out hb⟩
          have HB2 := Lib.hid (show E9.bad ⟨ag, ix, kd, ob, mu, en, od, rd, wo⟩ = false by rw [HBA.out, hva, hvi, decide_eq_false hx0]; rfl)
          rw [hva] at HVA
          rw [hvi] at HVI
          go_wp2_with fail
          refine (HVA.out _).mono ?_
          rintro e wA ⟨rfl, rfl⟩
          go_wp2_with fail
          refine (HVI.out _).mono ?_
          rintro e wA ⟨rfl, rfl⟩
          go_wp2
          go_loopw [13] (fun vi wr => ∃ k : Nat, k ≤ S.size ∧ vi = .int .i64 k ∧ Below V.heap.size V wr ∧ Hid (∀ j (hj : j < ws.length), j < k → E9.nuE ⟨ag, ix, kd, ob, mu, en, od, rd, wo⟩ ws[j] = false)) (fun i _ => S.size - (intOf i).toNat)
          case atStart => exact ⟨0, Nat.zero_le _, rfl, hb, Lib.hid fun j _ h => by omega⟩
          case round =>
            clear k0 k1' k2' k3' k4 r0 r1 r2 r3 r4 r5 r6 r7 r8 HA
            obtain ⟨k, hk, rfl, hb, HA⟩ := hrel
            obtain ⟨q, k0, k1', k2', k3', k4, r0, r1, r2, r3, r4, r5, r6, r7, r8⟩ := HK.out wr hb
            clear q
            by_cases hks : k < S.size
            · have hkw : k < ws.length := by rw [← HSL.out]; exact hks
              have HBAD := Lib.hid (fun h => HR2n.out k HO0.out HO1.out HB2.out hkw h)
              have HNXT := Lib.hid (fun h => nextNo HA.out hkw h)
              have hk0 : (0 : Int) ≤ k := by omega
              have hk1 : (k : Int) < S.size := by omega
              have HNK := Lib.hid (HNU.out _ (HWS.out _ (List.getElem_mem hkw)))
              rw [HNE.out] at HBAD HNXT
              rw [← HAT.out k hks hkw] at HNK HBAD HNXT
              obtain ⟨⟨z, b⟩, hzb⟩ : ∃ zb, E9.num ⟨ag, ix, kd, ob, mu, en, od, rd, wo⟩ S[k] = zb := ⟨_, rfl⟩
              rw [hzb] at HNK HBAD HNXT
              simp only at HNK HBAD HNXT
              have HVZ := Lib.hid (fun X => rVal z X)
              have hbd : Below V.heap.size V wr.drew := hb.drew
              clear hzb
              go_wp2_with fail
              clear k0 k1' k2' k3' k4 r0 r1 r2 r3 r4 r5 r6 r7 r8
              go_region_held3 (fun w' => Below V.heap.size V w' ∧ w'.cell? ⟨b0, 0, none⟩ = some (.slice A1 n1 c1) ∧ w'.cell? ⟨b0, 1, none⟩ = some (.slice A2 n2 c2) ∧ w'.cell? ⟨b0, 2, none⟩ = some (.slice A3 n3 c3) ∧ w'.cell? ⟨b0, 3, none⟩ = some (.slice A4 n4 c4) ∧ w'.cell? ⟨b0, 4, none⟩ = some (.slice A5 n5 c5) ∧ w'.cell? ⟨b1, 0, none⟩ = some (.int .i64 ag) ∧ w'.cell? ⟨b1, 1, none⟩ = some (.int .i64 ix) ∧ w'.cell? ⟨b1, 2, none⟩ = some (.int .i64 kd) ∧ w'.cell? ⟨b1, 3, none⟩ = some (.int .i64 ob) ∧ w'.cell? ⟨b1, 4, none⟩ = some (.int .i64 mu) ∧ w'.cell? ⟨b1, 5, none⟩ = some (.int .i64 en) ∧ w'.cell? ⟨b1, 6, none⟩ = some (.int .i64 od) ∧ w'.cell? ⟨b1, 7, none⟩ = some (.int .i64 rd) ∧ w'.cell? ⟨b1, 8, none⟩ = some (.int .i64 wo))
                (first
                  | with_reducible assumption
                  | exact HK.out _ hbd
                  | exact HK.out _ (belowThen (‹Below V.heap.size V _ ∧ _›).1 bk))
                (first
                  | (go_at_call 70; refine (HNK.out _).mono ?_; rintro e wO ⟨rfl, bk⟩))
              have hfin := (‹Below V.heap.size V wO ∧ _›).1
              clear hbd bk
              cases b
              · have HAN := Lib.hid (HNXT.out rfl)
                go_wp2
                go_roundw
                case rel => exact ⟨k + 1, by omega, by go_num, hfin, HAN⟩
                case measure => simp [intOf]; omega
              rcases hvz : isVal z with _ | _
              · rw [hvz] at HVZ
                have HZ := Lib.hid (HBAD.out (by rw [hvz]; rfl))
                go_wp2_with fail
                refine (HVZ.out _).mono ?_
                rintro e wA ⟨rfl, rfl⟩
                go_wp2
                go_ret
                exact ⟨by first | (rw [HZ.out]; done) | (rw [HZ.out]; rfl), belowThen HBB.out hfin⟩
              · rw [hvz] at HVZ
                have HAN := Lib.hid (HNXT.out (by rw [hvz]; rfl))
                go_wp2_with fail
                refine (HVZ.out _).mono ?_
                rintro e wA ⟨rfl, rfl⟩
                go_wp2
                go_roundw
                case rel => exact ⟨k + 1, by omega, by go_num, hfin, HAN⟩
                case measure => simp [intOf]; omega
            · have HZ := Lib.hid (HR0.out HO0.out HO1.out HB2.out (anyNo fun j hj => HA.out j hj (by rw [← HSL.out] at hj; omega)))
              go_wp2
              go_ret
              exact ⟨by first | (rw [HZ.out]; done) | (rw [HZ.out]; rfl), belowThen HBB.out hb⟩
end Go.Proofs.YtnckpjcfgeajbaaGreatDoor

namespace Go.Proofs.YtnckpjcfgeajbaaGreatDoor
open Go Go.RowKit

/-- The text behind k letters. -/
def Prg.etk (p : Prg) (x : E9) (k : Nat) : List UInt8 := x.stp ++ 32 :: ((evn x.kd.toNat).data.toList ++ Lib.joinTail [32] ((((evl x.kd.toNat).take k).flatMap (p.lwE x)).map (·.t)))
theorem joinTailApp : ∀ (a b : List (List UInt8)), Lib.joinTail [32] (a ++ b) = Lib.joinTail [32] a ++ Lib.joinTail [32] b
  | [], b => by simp [Lib.joinTail]
  | x :: r, b => by simp [Lib.joinTail]
theorem etkNext {p : Prg} {x : E9} {k : Nat} (h : k < (evl x.kd.toNat).length) : p.etk x (k + 1) = p.etk x k ++ Lib.joinTail [32] ((p.lwE x (evl x.kd.toNat)[k]).map (·.t)) := by
  unfold Prg.etk
  rw [List.take_succ_eq_append_getElem h, List.flatMap_append, List.map_append, joinTailApp]
  simp
theorem etkLen {p : Prg} (hv : p.Vld) {x : E9} (hi : x.Wf) (hg : isVal x.ag = true) (h : 1 ≤ x.kd.toNat ∧ x.kd.toNat ≤ 17) (k : Nat) : (p.etk x k).length ≤ 400 := by
  have h1 := stpLen x hi hg
  have h2 := evnLen x.kd.toNat
  have e := evWk p x _ rfl h
  have e2 : p.evW x = ((evl x.kd.toNat).take k).flatMap (p.lwE x) ++ ((evl x.kd.toNat).drop k).flatMap (p.lwE x) := by
    rw [e, ← List.flatMap_append, List.take_append_drop]
  have h3 := evWNum p x
  rw [e2, List.length_append] at h3
  have h4 := joinTailLen (l := (((evl x.kd.toNat).take k).flatMap (p.lwE x)).map (·.t)) (B := 22) fun y hy => by
    obtain ⟨z, hz, rfl⟩ := List.mem_map.1 hy
    exact evWLen hv hi z (by rw [e2]; exact List.mem_append_left _ hz)
  rw [List.length_map] at h4
  have h5 := Nat.mul_le_mul_right 23 (show (((evl x.kd.toNat).take k).flatMap (p.lwE x)).length ≤ 5 by omega)
  unfold Prg.etk
  simp only [List.length_append, List.length_cons]
  omega
theorem evRno {p : Prg} {x : E9} (hc : p.chk.1 = 0) (h : 1 ≤ x.kd.toNat ∧ x.kd.toNat ≤ 17) (hw : p.wrR x (evl x.kd.toNat) ≠ 0) : p.evR x = .no (p.wrR x (evl x.kd.toNat)) := by
  rw [wrIs p x _ rfl h] at hw ⊢
  unfold Prg.evR
  rw [if_neg (by simpa using hc), if_neg (by omega)]
  by_cases h1 : (p.evT x).e ≠ 0
  · rw [if_pos h1, if_pos h1]
  · rw [if_neg h1] at hw ⊢
    rw [if_neg h1]
    by_cases h2 : x.bad = true
    · rw [if_pos h2, if_pos h2]
    · rw [if_neg h2] at hw
      exact absurd rfl hw
theorem feAll : ∀ {l : List Wd}, fe l = 0 → ∀ y ∈ l, y.e = 0
  | [], _, y, hy => by cases hy
  | z :: r, h, y, hy => by
    rw [fe] at h
    by_cases hz : z.e = 0
    · rw [if_pos hz] at h
      rcases List.mem_cons.1 hy with rfl | hy
      · exact hz
      · exact feAll h y hy
    · rw [if_neg hz] at h
      exact absurd h hz
theorem evRok {p : Prg} {x : E9} (hc : p.chk.1 = 0) (h : 1 ≤ x.kd.toNat ∧ x.kd.toNat ≤ 17) (hw : p.wrR x (evl x.kd.toNat) = 0) : p.evR x = .ok (p.etk x (evl x.kd.toNat).length) := by
  rw [wrIs p x _ rfl h] at hw
  have h1 : (p.evT x).e = 0 := by
    by_cases h1 : (p.evT x).e ≠ 0
    · rw [if_pos h1] at hw; exact hw
    · simpa using h1
  have h2 : ¬ x.bad = true := fun hb => by
    rw [if_neg (by simpa using h1), if_pos hb] at hw
    exact absurd hw (by decide)
  unfold Prg.evR
  rw [if_neg (by simpa using hc), if_neg (by omega), if_neg (by simpa using h1), if_neg h2]
  have e := evWk p x _ rfl h
  have ha : ∀ y ∈ p.evW x, y.e = 0 := by
    unfold Prg.evT at h1
    rw [sntFe] at h1
    exact feAll h1
  unfold Prg.evT Prg.etk
  rw [sntAll ha, List.take_length, ← e]
  rfl
theorem wr0bad {p : Prg} {x : E9} {l : List UInt8} (h : p.wrR x l = 0) : x.bad = false ∧ ∀ c ∈ l, x.nuE c = false := by
  unfold Prg.wrR at h
  split at h
  · exact absurd h (by decide)
  split at h
  · exact absurd h (by decide)
  split at h
  · exact absurd h (by decide)
  split at h
  · exact absurd h (by decide)
  rename_i h1 h2
  refine ⟨by simpa using h1, fun c hc => ?_⟩
  rw [Bool.eq_false_iff]
  exact fun h3 => h2 (List.any_eq_true.2 ⟨c, hc, h3⟩)
theorem app1 (t y : List UInt8) : bs (t ++ Lib.joinTail [32] [y]) = bs t ++ ⟨#[32]⟩ ++ bs y := by
  have e : t ++ Lib.joinTail [32] [y] = t ++ [32] ++ y := by simp [Lib.joinTail]
  rw [e, bsApp, bsApp]; rfl
theorem appE (t y : List UInt8) : bs (t ++ Lib.joinTail [32] [entryB, y]) = bs t ++ ⟨#[32, 101, 110, 116, 114, 121]⟩ ++ ⟨#[32]⟩ ++ bs y := by
  have e : t ++ Lib.joinTail [32] [entryB, y] = t ++ [32, 101, 110, 116, 114, 121] ++ [32] ++ y := by simp [Lib.joinTail, entryB]
  rw [e, bsApp, bsApp, bsApp]; rfl
theorem app0 (t : List UInt8) : t ++ Lib.joinTail [32] [] = t := by simp [Lib.joinTail]
theorem bsSz9 (t : List UInt8) : (bs t).size = t.length := by simp [bs, ByteArray.size]
theorem etk0 (p : Prg) (x : E9) : p.etk x 0 = x.stp ++ 32 :: (evn x.kd.toNat).data.toList := by simp [Prg.etk, Lib.joinTail]
theorem etk0N {p : Prg} {x : E9} (h : x.ag < 0) : bs (p.etk x 0) = (⟨(Lib.itoa (-x.ag - 1)).toArray⟩ : ByteArray) ++ ⟨#[98]⟩ ++ ⟨#[46]⟩ ++ ⟨(Lib.itoa x.ix).toArray⟩ ++ ⟨#[32]⟩ ++ evn x.kd.toNat := by
  rw [etk0]
  unfold E9.stp
  rw [if_pos h]
  have e : (Lib.itoa (-x.ag - 1) ++ [98] ++ 46 :: Lib.itoa x.ix) ++ 32 :: (evn x.kd.toNat).data.toList = Lib.itoa (-x.ag - 1) ++ [98] ++ [46] ++ Lib.itoa x.ix ++ [32] ++ (evn x.kd.toNat).data.toList := by simp
  rw [e, bsApp, bsApp, bsApp, bsApp, bsApp]; rfl
theorem etk0P {p : Prg} {x : E9} (h : ¬ x.ag < 0) : bs (p.etk x 0) = (⟨(Lib.itoa x.ag).toArray⟩ : ByteArray) ++ ⟨#[46]⟩ ++ ⟨(Lib.itoa x.ix).toArray⟩ ++ ⟨#[32]⟩ ++ evn x.kd.toNat := by
  rw [etk0]
  unfold E9.stp
  rw [if_neg h]
  have e : (Lib.itoa x.ag ++ 46 :: Lib.itoa x.ix) ++ 32 :: (evn x.kd.toNat).data.toList = Lib.itoa x.ag ++ [46] ++ Lib.itoa x.ix ++ [32] ++ (evn x.kd.toNat).data.toList := by simp
  rw [e, bsApp, bsApp, bsApp, bsApp]; rfl
theorem evnSz (k : Nat) (h : 1 ≤ k ∧ k ≤ 17) : (evn k).size ≤ 16 ∧ 0 < (evn k).size := by
  have : ∀ k, k < 18 → 1 ≤ k → (decide ((evn k).size ≤ 16) && decide (0 < (evn k).size)) = true := by decide
  have := this k (by omega) h.1
  simpa using this
theorem nuText {n : Int} (h : isVal n = true) : bs (nuW n).t = ⟨(Lib.itoa n).toArray⟩ := by rw [nuW_ok h]; rfl
theorem orText (o : Int) : bs (knW (ornOf o) 13).t = ornOf o := by
  unfold knW
  split
  · rename_i h
    have e : (ornOf o).data.toList = [] := by
      rw [Lib.toList_data] at h
      exact List.isEmpty_iff.1 h
    have : ornOf o = bs (ornOf o).data.toList := rfl
    rw [this, e]; rfl
  · rfl
end Go.Proofs.YtnckpjcfgeajbaaGreatDoor
