/-
  The checks of the structured language, pure: names, the fields of each kind of statements, local variables, the first error of an expression, of a statement, of a unit.
-/
import Derived.Test.YtiaendggmamnkaaGreatDoorEAsW
import Derived.Test.YtiaendggmamnkaaGreatDoorESv
import Derived.Test.YtiaendggmamnkaaGreatDoorEAsK
import Derived.Test.YtiaendggmamnkaaGreatDoorEOw
import Derived.Test.YtiaendggmamnkaaGreatDoorENk
namespace Go.Proofs.YtiaendggmamnkaaGreatDoor
open Go Go.RowKit

/-- The keywords, byte by byte. -/
def kwL : List (List UInt8) := [[118, 97, 114], [109, 117, 116, 101, 120], [99, 111, 110, 100], [112, 114, 111, 99], [116, 104, 114, 101, 97, 100], [108, 111, 97, 100], [115, 116, 111, 114, 101], [115, 119, 97, 112], [102, 101, 116, 99, 104, 97, 100, 100], [99, 97, 115], [102, 101, 110, 99, 101], [97, 119, 97, 105, 116], [108, 111, 99, 107], [117, 110, 108, 111, 99, 107], [116, 114, 121, 108, 111, 99, 107], [119, 97, 105, 116], [115, 105, 103, 110, 97, 108], [98, 114, 111, 97, 100, 99, 97, 115, 116], [115, 112, 97, 119, 110], [106, 111, 105, 110], [97, 115, 115, 101, 114, 116], [105, 102], [101, 108, 115, 101], [119, 104, 105, 108, 101], [114, 101, 116, 117, 114, 110], [112, 108, 97, 105, 110], [114, 101, 108, 97, 120, 101, 100], [114, 101, 108, 97, 99, 113], [97, 100, 100], [115, 117, 98], [109, 117, 108], [97, 110, 100], [111, 114], [120, 111, 114], [101, 113], [110, 101], [108, 116], [108, 101]]
def kwB (s : ByteArray) : Bool := decide (s.data.toList ∈ kwL)
/-- Is s a name of the structured language? -/
def nmA (s : ByteArray) : Bool := nameB s && !kwB s
/-- The fields of a kind of statements. -/
structure Rw where
  nm : Bool
  fn : Bool
  od : Bool
  ob : Nat
  ot : Nat
  ex : Nat
  bd : Bool
  el : Bool
def rwT : List Rw := [⟨false, false, false, 0, 0, 0, false, false⟩, ⟨true, false, false, 0, 0, 1, false, false⟩, ⟨true, false, true, 1, 0, 0, false, false⟩, ⟨false, false, true, 1, 0, 1, false, false⟩, ⟨true, false, true, 1, 0, 1, false, false⟩, ⟨true, false, true, 1, 0, 1, false, false⟩, ⟨true, false, true, 1, 0, 2, false, false⟩, ⟨false, false, false, 0, 0, 0, false, false⟩, ⟨true, true, true, 1, 0, 1, false, false⟩, ⟨false, false, false, 2, 0, 0, false, false⟩, ⟨false, false, false, 2, 0, 0, false, false⟩, ⟨true, false, false, 2, 0, 0, false, false⟩, ⟨false, false, false, 3, 2, 0, false, false⟩, ⟨false, false, false, 3, 0, 0, false, false⟩, ⟨false, false, false, 3, 0, 0, false, false⟩, ⟨true, false, false, 4, 0, 1, false, false⟩, ⟨false, false, false, 0, 0, 1, false, false⟩, ⟨false, false, false, 0, 0, 1, false, false⟩, ⟨false, false, false, 0, 0, 1, true, true⟩, ⟨false, false, false, 0, 0, 1, true, false⟩, ⟨false, false, false, 0, 0, 0, false, false⟩]
def rw16 (k : Int) : Rw := rwT.getD k.toNat ⟨false, false, false, 0, 0, 0, false, false⟩
/-- The first error of a list of names behind those of 'seen', and its number. -/
def nmG : List ByteArray → List ByteArray → Nat → Int × Int
  | _, [], _ => (0, -1)
  | seen, s :: t, k => if nmA s = false then (6, k) else if inS s seen = true then (7, k) else nmG (seen ++ [s]) t (k + 1)
theorem nmGgo {l : List ByteArray} {k : Nat} (hk : k < l.length) (h1 : nmA l[k] = true) (h2 : inS l[k] (l.take k) = false) : nmG (l.take k) (l.drop k) k = nmG (l.take (k + 1)) (l.drop (k + 1)) (k + 1) := by
  rw [List.drop_eq_getElem_cons hk, nmG, h1, if_neg (by decide), h2, if_neg (by decide), List.take_succ_eq_append_getElem hk]
theorem nmGbad {l : List ByteArray} {k : Nat} (hk : k < l.length) (h1 : nmA l[k] = false) : nmG (l.take k) (l.drop k) k = (6, (k : Int)) := by
  rw [List.drop_eq_getElem_cons hk, nmG, if_pos h1]
theorem nmGtwice {l : List ByteArray} {k : Nat} (hk : k < l.length) (h1 : nmA l[k] = true) (h2 : inS l[k] (l.take k) = true) : nmG (l.take k) (l.drop k) k = (7, (k : Int)) := by
  rw [List.drop_eq_getElem_cons hk, nmG, h1, if_neg (by decide), if_pos h2]
/-! Local variables. -/
def adL (s : ByteArray) (D : List ByteArray) : List ByteArray := if inS s D = true then D else D ++ [s]
/-- Does a statement assign a variable? -/
def asg (t : Sm) : Bool := kdOk t.val.kind && (rw16 t.val.kind).nm
def lcS (D : List ByteArray) (t : Sm) : List ByteArray := if asg t = true then adL t.val.name D else D
/-- The local variables of statements behind D. -/
def lcF (D : List ByteArray) (l : List (Nat × Nat × Sm)) : List ByteArray := l.foldl (fun D x => lcS D x.2.2) D
theorem lcFsnoc (D : List ByteArray) (l : List (Nat × Nat × Sm)) (x : Nat × Nat × Sm) : lcF D (l ++ [x]) = lcS (lcF D l) x.2.2 := by
  unfold lcF; rw [List.foldl_append]; rfl
def pmL (p : Pc) : List ByteArray := if p.param.size = 0 then [] else [p.param]
def lcP (p : Pc) : List ByteArray := lcF (pmL p) (numb 0 (Tr.ndsL 1 p.body))

/-! Expressions. -/
def fdX (t : Ex) : Bool := (t.val.kind == 1 || t.val.n == 0) && (t.val.kind == 2 || t.val.name.size == 0) && (t.val.kind == 3 || t.val.fn == 0) && (t.fst.length == if t.val.kind = 3 then 2 else 0)
/-- The first error of an expression apart from those of its Args. -/
def pxE (ls : List ByteArray) (t : Ex) : Int :=
  if t.val.kind ≠ 1 ∧ t.val.kind ≠ 2 ∧ t.val.kind ≠ 3 then 8
  else if fdX t = false then 9
  else if vlOk t.val.n = false then 2
  else if t.val.kind = 2 ∧ nmA t.val.name = false then 6
  else if t.val.kind = 2 ∧ inS t.val.name ls = false then 11
  else if t.val.kind = 3 ∧ fnOkA t.val.fn = false then 8 else 0
def pxF (ls : List ByteArray) : List (Nat × Nat × Ex) → Int
  | [] => 0
  | x :: r => if pxE ls x.2.2 ≠ 0 then pxE ls x.2.2 else pxF ls r
/-- The error of an expression. -/
def chX (ls : List ByteArray) (t : Ex) : Int := if 3 < Tr.dp t then 4 else pxF ls (numb 0 (Tr.ndsL 1 [t]))
def xsE (ls : List ByteArray) : List Ex → Int
  | [] => 0
  | t :: r => if chX ls t ≠ 0 then chX ls t else xsE ls r

/-! Statements. -/
def exB (u : Un) (k : Nat) (s : ByteArray) : Bool :=
  if k = 1 then inS s (u.vars.map (·.1)) else if k = 2 then inS s u.muts else if k = 3 then inS s u.conds else if k = 4 then inS s (u.procs.map (·.name)) else true
/-- Has a statement only the fields that its kind uses? -/
def hfB (t : Sm) : Bool :=
  ((rw16 t.val.kind).nm || t.val.name.size == 0) && ((rw16 t.val.kind).ob != 0 || t.val.obj.size == 0) && ((rw16 t.val.kind).ot != 0 || t.val.other.size == 0) && ((rw16 t.val.kind).fn || t.val.fn == 0) &&
  ((rw16 t.val.kind).od || t.val.ord == 0) && (t.val.exprs.length == (rw16 t.val.kind).ex) && ((rw16 t.val.kind).bd || t.fst.length == 0) && ((rw16 t.val.kind).el || t.snd.length == 0)
/-- The depth of the second expression. -/
def dp2 : List Ex → Nat
  | _ :: t :: _ => Tr.dp t
  | _ => 0
/-- The error of a statement at a level. -/
def stE (u : Un) (ls : List ByteArray) (l : Nat) (t : Sm) : Int :=
  if 12 < l then 4
  else if kdOk t.val.kind = false then 8
  else if hfB t = false then 9
  else if (rw16 t.val.kind).nm = true ∧ nmA t.val.name = false then 6
  else if (exB u (rw16 t.val.kind).ob t.val.obj && exB u (rw16 t.val.kind).ot t.val.other) = false then 11
  else if (rw16 t.val.kind).fn = true ∧ fnOkA t.val.fn = false then 8
  else if orOkA t.val.ord = false then 13
  else if xsE ls t.val.exprs ≠ 0 then xsE ls t.val.exprs
  else if t.val.kind = 6 ∧ ¬ dp2 t.val.exprs < 3 then 4 else 0
/-- The first error of statements, and its number. -/
def stF (u : Un) (ls : List ByteArray) : List (Nat × Nat × Sm) → Int × Int
  | [] => (0, -1)
  | x :: r => if stE u ls x.2.1 x.2.2 ≠ 0 then (stE u ls x.2.1 x.2.2, x.1) else stF u ls r
/-- The error of a procedure that mentions no statement. -/
def szE (p : Pc) : Int :=
  if p.param.size ≠ 0 ∧ nmA p.param = false then 6
  else if 128 < Tr.szL p.body then 4
  else if (lcP p).length < 5 + (pmL p).length then 0 else 4
def pcE (u : Un) (p : Pc) : Int × Int := if szE p ≠ 0 then (szE p, -1) else stF u (lcP p) (numb 0 (Tr.ndsL 1 p.body))
/-- The first error of the procedures from number k on. -/
def pcF (u : Un) : List Pc → Nat → Int × Int × Int
  | [], _ => (0, -1, -1)
  | p :: r, k => if (pcE u p).1 ≠ 0 then ((pcE u p).1, k, (pcE u p).2) else pcF u r (k + 1)
def thG (u : Un) : List (ByteArray × Int) → Int
  | [] => 0
  | s :: t => if inS s.1 (u.procs.map (·.name)) = false then 11 else if vlOk s.2 = false then 2 else thG u t
def thI16 (u : Un) : Int := if u.thr.length < 1 ∨ 8 < u.thr.length then 4 else thG u u.thr
def nmI16 (u : Un) : Int × Int :=
  if (nmG [] (u.vars.map (·.1)) 0).1 ≠ 0 then ((nmG [] (u.vars.map (·.1)) 0).1, -1)
  else if (nmG [] u.muts 0).1 ≠ 0 then ((nmG [] u.muts 0).1, -1)
  else if (nmG [] u.conds 0).1 ≠ 0 then ((nmG [] u.conds 0).1, -1)
  else nmG [] (u.procs.map (·.name)) 0
def lmI (u : Un) : Int := if u.vars.length ≤ 8 ∧ u.muts.length ≤ 4 ∧ u.conds.length ≤ 4 ∧ u.procs.length ≤ 8 then 0 else 4
def inI (u : Un) : Int := if (u.vars.all fun v => vlOk v.2) = true then 0 else 2
/-- The first error of a unit, with the numbers of the procedure and of the statement. -/
def unE (u : Un) : Int × Int × Int :=
  if (nmI16 u).1 ≠ 0 then ((nmI16 u).1, (nmI16 u).2, -1)
  else if lmI u ≠ 0 then (lmI u, -1, -1)
  else if inI u ≠ 0 then (inI u, -1, -1)
  else if (pcF u u.procs 0).1 ≠ 0 then pcF u u.procs 0
  else if thI16 u ≠ 0 then (thI16 u, -1, -1) else (0, -1, -1)
end Go.Proofs.YtiaendggmamnkaaGreatDoor

namespace Go.Proofs.YtiaendggmamnkaaGreatDoor
open Go Go.RowKit

/-- In w the unit by value reads as u. -/
structure UnR (w : World) (a : PgA) (u : Un) (dx d : Nat) : Prop where
  l1 : u.vars.length = a.n1
  l2 : u.muts.length = a.n2
  l3 : u.conds.length = a.n3
  l4 : u.procs.length = a.n4
  l5 : u.thr.length = a.n5
  vars : RdE 2 EV w a.A1 a.c1 u.vars
  muts : RdE 1 ES w a.A2 a.c2 u.muts
  conds : RdE 1 ES w a.A3 a.c3 u.conds
  procs : RdE 3 (EPc dx d) w a.A4 a.c4 u.procs
  thr : RdE 2 EV w a.A5 a.c5 u.thr
theorem UnR.below {w w' : World} {a : PgA} {u : Un} {dx d : Nat} (h : UnR w a u dx d) (hb : Below w.heap.size w w') : UnR w' a u dx d :=
  ⟨h.l1, h.l2, h.l3, h.l4, h.l5, h.vars.below stabV hb, h.muts.below stabS hb, h.conds.below stabS hb, h.procs.below (stabPc dx d) hb, h.thr.below stabV hb⟩
/-- Block b holds the unit by value. -/
def UBox (w : World) (b : Nat) (a : PgA) : Prop := Blk w b 27 a.fs
theorem UBox.facts {w : World} {b : Nat} {a : PgA} (h : UBox w b a) : w.cell? ⟨b, 0, none⟩ = some (.slice a.A1 a.n1 a.c1) ∧ w.cell? ⟨b, 1, none⟩ = some (.slice a.A2 a.n2 a.c2) ∧ w.cell? ⟨b, 2, none⟩ = some (.slice a.A3 a.n3 a.c3) ∧ w.cell? ⟨b, 3, none⟩ = some (.slice a.A4 a.n4 a.c4) ∧ w.cell? ⟨b, 4, none⟩ = some (.slice a.A5 a.n5 a.c5) :=
  ⟨Blk.cell h 0, Blk.cell h 1, Blk.cell h 2, Blk.cell h 3, Blk.cell h 4⟩
theorem UBox.below {w w' : World} {b : Nat} {a : PgA} (h : UBox w b a) (hb : Below w.heap.size w w') : UBox w' b a := Blk.below' h hb
theorem UBox.lt {w : World} {b : Nat} {a : PgA} (h : UBox w b a) : b < w.heap.size := Blk.lt h
/-- An expression's names are no longer than memory allows; it has at most 4000000 parts. -/
structure WfX (t : Ex) : Prop where
  nm : ∀ x ∈ numb 0 (Tr.ndsL 1 [t]), x.2.2.val.name.size ≤ maxLen
  sz : Tr.szL [t] ≤ 4000000
structure WfM (l : List Sm) : Prop where
  nm : ∀ x ∈ numb 0 (Tr.ndsL 1 l), x.2.2.val.name.size ≤ maxLen
  ex : ∀ x ∈ numb 0 (Tr.ndsL 1 l), ∀ e ∈ x.2.2.val.exprs, WfX e
  sz : Tr.szL l ≤ 4000000
structure WfP (p : Pc) : Prop where
  pm : p.param.size ≤ maxLen
  nm : p.name.size ≤ maxLen
  body : WfM p.body
structure Un.Wf (u : Un) : Prop where
  vn : ∀ v ∈ u.vars, v.1.size ≤ maxLen
  mn : ∀ s ∈ u.muts, s.size ≤ maxLen
  cn : ∀ s ∈ u.conds, s.size ≤ maxLen
  pc : ∀ p ∈ u.procs, WfP p
end Go.Proofs.YtiaendggmamnkaaGreatDoor

namespace Go.Proofs.YtiaendggmamnkaaGreatDoor
open Go Go.RowKit

theorem kwNo {s : ByteArray} (h : kwB s = false) (l : List UInt8) (hl : l ∈ kwL) : (s.toList == l) = false := by
  rw [ByteArray.toList_eq]
  cases e : (s.data.toList == l)
  · rfl
  · exact absurd (show s.data.toList ∈ kwL by rw [eq_of_beq e]; exact hl) (of_decide_eq_false h)
set_option maxRecDepth 100000 in
set_option maxHeartbeats 4000000 in
theorem iKw (s : ByteArray) (w : World) : Calls Tryz.prog 168 #[.string s] w fun e w' => e = .returned (.bool (kwB s)) ∧ w = w' := by
  cases hk : kwB s
  · have g0 := kwNo hk [118, 97, 114] (by decide)
    have g1 := kwNo hk [109, 117, 116, 101, 120] (by decide)
    have g2 := kwNo hk [99, 111, 110, 100] (by decide)
    have g3 := kwNo hk [112, 114, 111, 99] (by decide)
    have g4 := kwNo hk [116, 104, 114, 101, 97, 100] (by decide)
    have g5 := kwNo hk [108, 111, 97, 100] (by decide)
    have g6 := kwNo hk [115, 116, 111, 114, 101] (by decide)
    have g7 := kwNo hk [115, 119, 97, 112] (by decide)
    have g8 := kwNo hk [102, 101, 116, 99, 104, 97, 100, 100] (by decide)
    have g9 := kwNo hk [99, 97, 115] (by decide)
    have g10 := kwNo hk [102, 101, 110, 99, 101] (by decide)
    have g11 := kwNo hk [97, 119, 97, 105, 116] (by decide)
    have g12 := kwNo hk [108, 111, 99, 107] (by decide)
    have g13 := kwNo hk [117, 110, 108, 111, 99, 107] (by decide)
    have g14 := kwNo hk [116, 114, 121, 108, 111, 99, 107] (by decide)
    have g15 := kwNo hk [119, 97, 105, 116] (by decide)
    have g16 := kwNo hk [115, 105, 103, 110, 97, 108] (by decide)
    have g17 := kwNo hk [98, 114, 111, 97, 100, 99, 97, 115, 116] (by decide)
    have g18 := kwNo hk [115, 112, 97, 119, 110] (by decide)
    have g19 := kwNo hk [106, 111, 105, 110] (by decide)
    have g20 := kwNo hk [97, 115, 115, 101, 114, 116] (by decide)
    have g21 := kwNo hk [105, 102] (by decide)
    have g22 := kwNo hk [101, 108, 115, 101] (by decide)
    have g23 := kwNo hk [119, 104, 105, 108, 101] (by decide)
    have g24 := kwNo hk [114, 101, 116, 117, 114, 110] (by decide)
    have g25 := kwNo hk [112, 108, 97, 105, 110] (by decide)
    have g26 := kwNo hk [114, 101, 108, 97, 120, 101, 100] (by decide)
    have g27 := kwNo hk [114, 101, 108, 97, 99, 113] (by decide)
    have g28 := kwNo hk [97, 100, 100] (by decide)
    have g29 := kwNo hk [115, 117, 98] (by decide)
    have g30 := kwNo hk [109, 117, 108] (by decide)
    have g31 := kwNo hk [97, 110, 100] (by decide)
    have g32 := kwNo hk [111, 114] (by decide)
    have g33 := kwNo hk [120, 111, 114] (by decide)
    have g34 := kwNo hk [101, 113] (by decide)
    have g35 := kwNo hk [110, 101] (by decide)
    have g36 := kwNo hk [108, 116] (by decide)
    have g37 := kwNo hk [108, 101] (by decide)
    clear hk
    go_enter Tryz.func168, Tryz.ntmps168
    go_wp2_with fail
    go_ret
    exact ⟨rfl, rfl⟩
  · have h : s.data.toList ∈ kwL := of_decide_eq_true hk
    obtain ⟨⟨l⟩⟩ := s
    change l ∈ kwL at h
    clear hk
    simp only [kwL, List.mem_cons, List.not_mem_nil, or_false] at h
    rcases h with rfl | rfl | rfl | rfl | rfl | rfl | rfl | rfl | rfl | rfl | rfl | rfl | rfl | rfl | rfl | rfl | rfl | rfl | rfl | rfl | rfl | rfl | rfl | rfl | rfl | rfl | rfl | rfl | rfl | rfl | rfl | rfl | rfl | rfl | rfl | rfl | rfl | rfl
    all_goals
      go_enter Tryz.func168, Tryz.ntmps168
      go_wp2_with fail
      go_ret
      exact ⟨rfl, rfl⟩
/-- isName. -/
theorem iName16 (s : ByteArray) (hs : s.size ≤ maxLen) (w : World) : Calls Tryz.prog 113 #[.string s] w fun e w' => e = .returned (.bool (nmA s)) ∧ w = w' := by
  have HV := Lib.hid (iValidName s hs w)
  have HK := Lib.hid (iKw s w)
  unfold nmA
  cases h1 : nameB s
  · rw [h1] at HV
    clear h1
    go_enter Tryz.func113, Tryz.ntmps113
    go_wp2_with (go_at_call 167; refine HV.out.mono ?_; rintro e w' ⟨rfl, rfl⟩)
    go_ret
    exact ⟨rfl, rfl⟩
  · rw [h1] at HV
    clear h1
    cases h2 : kwB s
    · rw [h2] at HK
      clear h2
      go_enter Tryz.func113, Tryz.ntmps113
      go_wp2_with (first | (go_at_call 167; refine HV.out.mono ?_; rintro e w' ⟨rfl, rfl⟩) | (go_at_call 168; refine HK.out.mono ?_; rintro e w' ⟨rfl, rfl⟩))
      go_ret
      exact ⟨rfl, rfl⟩
    · rw [h2] at HK
      clear h2
      go_enter Tryz.func113, Tryz.ntmps113
      go_wp2_with (first | (go_at_call 167; refine HV.out.mono ?_; rintro e w' ⟨rfl, rfl⟩) | (go_at_call 168; refine HK.out.mono ?_; rintro e w' ⟨rfl, rfl⟩))
      go_ret
      exact ⟨rfl, rfl⟩
end Go.Proofs.YtiaendggmamnkaaGreatDoor

namespace Go.Proofs.YtiaendggmamnkaaGreatDoor
open Go Go.RowKit

def GivesIdx (b : Bool) (w : World) (e : Ending) (w' : World) : Prop := ∃ r : Int, e = .returned (.int .i64 r) ∧ decide (0 ≤ r) = b ∧ w = w'
theorem inSNo {s : ByteArray} {l : List ByteArray} (h : ∀ j (hj : j < l.length), (s.toList == l[j].toList) = false) : inS s l = false := by
  cases e : inS s l
  · rfl
  · obtain ⟨j, hj, hs⟩ := List.getElem_of_mem (inSIff.1 e)
    have := h j hj
    rw [hs] at this
    simp at this
theorem inSYes {s : ByteArray} {l : List ByteArray} {j : Nat} (hj : j < l.length) (h : (s.toList == l[j].toList) = true) : inS s l = true := by
  have h1 : s.toList = l[j].toList := eq_of_beq h
  rw [ByteArray.toList_eq, ByteArray.toList_eq] at h1
  exact inSIff.2 (by rw [baExt h1]; exact List.getElem_mem hj)
set_option maxHeartbeats 1000000 in
theorem iIdxS16 (l : List ByteArray) (n c : Nat) (hn : l.length = n) (A : Option Addr) (s : ByteArray) (w : World) (hr : RdE 1 ES w A c l) :
    Calls Tryz.prog 169 #[.slice A n c, .string s] w (GivesIdx (inS s l) w) := by
  obtain ⟨b, hb⟩ : ∃ b, inS s l = b := ⟨_, rfl⟩
  rw [hb]
  have HB := Lib.hid hb
  have hm := hr.max
  have hle := hr.le
  rw [hn] at hle
  unfold maxLen at hm
  have HR := Lib.hid hr
  have HN := Lib.hid hn
  clear hb hr hn
  go_enter Tryz.func169, Tryz.ntmps169
  go_wp2
  go_loop [5, 8] (fun _ i => ∃ k : Nat, k ≤ n ∧ i = .int .i64 k ∧ Hid (∀ j (hj : j < l.length), j < k → (s.toList == l[j].toList) = false)) (fun _ i => n - (intOf i).toNat)
  case atStart => exact ⟨0, Nat.zero_le _, rfl, Lib.hid fun j _ h => by omega⟩
  case round =>
    obtain ⟨k, hk, rfl, HA⟩ := hrel
    by_cases hlt : k < n
    · have hkl : k < l.length := by rw [HN.out]; exact hlt
      obtain ⟨q, off, hA, _, h1⟩ := HR.out.one hkl
      subst hA
      unfold ES at h1
      rw [Nat.mul_one] at h1
      obtain ⟨t, ht⟩ : ∃ t, l[k] = t := ⟨_, rfl⟩
      rw [ht] at h1
      have HT := Lib.hid ht
      have hk0 : (0 : Int) ≤ k := by omega
      have hk1 : (k : Int) < n := by omega
      clear ht
      cases hq : (s.toList == t.toList)
      · have HX := Lib.hid (show ∀ j (hj : j < l.length), j < k + 1 → (s.toList == l[j].toList) = false from fun j hj h => by
          rcases Nat.lt_or_ge j k with h' | h'
          · exact HA.out j hj h'
          · obtain rfl : j = k := by omega
            rw [HT.out]; exact hq)
        go_wp2
        go_round
        case rel => exact ⟨k + 1, by omega, by go_num, HX⟩
        case measure => simp [intOf]; omega
      · have HX := Lib.hid (show inS s l = true from inSYes hkl (by rw [HT.out]; exact hq))
        go_wp2
        go_ret
        exact ⟨_, rfl, by rw [← HB.out, HX.out]; simp, rfl⟩
    · have HX := Lib.hid (show inS s l = false from inSNo fun j hj => HA.out j hj (by have := HN.out; omega))
      go_wp2
      go_ret
      exact ⟨_, rfl, by rw [← HB.out, HX.out]; decide, rfl⟩
theorem iHas16 (l : List ByteArray) (n c : Nat) (hn : l.length = n) (A : Option Addr) (s : ByteArray) (w : World) (hr : RdE 1 ES w A c l) :
    Calls Tryz.prog 114 #[.slice A n c, .string s] w fun e w' => e = .returned (.bool (inS s l)) ∧ w = w' := by
  have HI := Lib.hid (iIdxS16 l n c hn A s w hr)
  generalize inS s l = b at HI ⊢
  clear hr hn
  go_enter Tryz.func114, Tryz.ntmps114
  go_wp2_with fail
  refine HI.out.mono ?_
  rintro e w' ⟨r, rfl, hb, rfl⟩
  have HB := Lib.hid hb
  clear hb
  go_wp2_with fail
  go_ret
  exact ⟨by rw [← HB.out]; rfl, rfl⟩
end Go.Proofs.YtiaendggmamnkaaGreatDoor
