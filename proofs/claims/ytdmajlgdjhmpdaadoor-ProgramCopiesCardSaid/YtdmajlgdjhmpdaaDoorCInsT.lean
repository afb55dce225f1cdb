/-
  Instructions, without any program: the table of names and of fields, the checks, the registers.
-/
import Derived.Test.YtdmajlgdjhmpdaaDoorCSetMath
import Derived.RowKit
import Derived.Lib.SmallJoins
import Derived.Lib.Strings
import Derived.Test.YtdmajlgdjhmpdaaDoorCOwnI
import Derived.Test.YtdmajlgdjhmpdaaDoorTie
import Derived.ProofKit
import Derived.LaidMore
import Derived.OpenShut
import Derived.Lib.LaidTab
import Derived.Below
import Derived.ChangeSame
import Derived.ChangeMaps5
namespace Go.Proofs.YtdmajlgdjhmpdaaDoor
open Go.RowKit (wrap32 wrap64)

/-- The names of the operations, by number; number 0 has the empty one. -/
def mnTab : List ByteArray := [⟨#[]⟩, ⟨#[99, 111, 110, 115, 116]⟩, ⟨#[99, 111, 112, 121]⟩, ⟨#[99, 97, 108, 99]⟩, ⟨#[106, 117, 109, 112]⟩, ⟨#[98, 114, 97, 110, 99, 104]⟩, ⟨#[97, 115, 115, 101, 114, 116]⟩, ⟨#[115, 116, 111, 112]⟩, ⟨#[108, 111, 97, 100]⟩, ⟨#[115, 116, 111, 114, 101]⟩, ⟨#[115, 119, 97, 112]⟩, ⟨#[102, 101, 116, 99, 104, 97, 100, 100]⟩, ⟨#[99, 97, 115]⟩, ⟨#[102, 101, 110, 99, 101]⟩, ⟨#[97, 119, 97, 105, 116]⟩, ⟨#[108, 111, 99, 107]⟩, ⟨#[117, 110, 108, 111, 99, 107]⟩, ⟨#[116, 114, 121, 108, 111, 99, 107]⟩, ⟨#[119, 97, 105, 116]⟩, ⟨#[115, 105, 103, 110, 97, 108]⟩, ⟨#[98, 114, 111, 97, 100, 99, 97, 115, 116]⟩, ⟨#[115, 112, 97, 119, 110]⟩, ⟨#[106, 111, 105, 110]⟩]
def mn (k : Nat) : ByteArray := mnTab.getD k ⟨#[]⟩
/-- Does operation k use field f (0 to 6: A, B, C, Obj, N, Fn, Order)? -/
def usTab : List (List Bool) := [[false, false, false, false, false, false, false], [true, false, false, false, true, false, false], [true, true, false, false, false, false, false], [true, true, true, false, false, true, false], [false, false, false, false, true, false, false], [false, true, false, false, true, false, false], [false, true, false, false, false, false, false], [false, false, false, false, false, false, false], [true, false, false, true, false, false, true], [false, true, false, true, false, false, true], [true, true, false, true, false, false, true], [true, true, false, true, false, false, true], [true, true, true, true, false, false, true], [false, false, false, false, false, false, false], [true, true, false, true, false, true, true], [false, false, false, true, false, false, false], [false, false, false, true, false, false, false], [true, false, false, true, false, false, false], [false, false, false, true, true, false, false], [false, false, false, true, false, false, false], [false, false, false, true, false, false, false], [true, true, false, true, false, false, false], [false, true, false, false, false, false, false]]
def us (k f : Nat) : Bool := (usTab.getD k []).getD f false
/-- The letters of the fields, as the reference lists them. -/
def fdTab : List ByteArray := [⟨#[65, 78]⟩, ⟨#[65, 66]⟩, ⟨#[70, 65, 66, 67]⟩, ⟨#[78]⟩, ⟨#[66, 78]⟩, ⟨#[66]⟩, ⟨#[]⟩, ⟨#[65, 79, 82]⟩, ⟨#[79, 66, 82]⟩, ⟨#[65, 79, 66, 82]⟩, ⟨#[65, 79, 66, 82]⟩, ⟨#[65, 79, 66, 67, 82]⟩, ⟨#[]⟩, ⟨#[65, 79, 70, 66, 82]⟩, ⟨#[79]⟩, ⟨#[79]⟩, ⟨#[65, 79]⟩, ⟨#[79, 78]⟩, ⟨#[79]⟩, ⟨#[79]⟩, ⟨#[65, 79, 66]⟩, ⟨#[66]⟩]
def fd (k : Nat) : ByteArray := fdTab.getD k ⟨#[]⟩
def lt7 : List UInt8 := [65, 66, 67, 79, 78, 70, 82]
theorem usHas : ∀ k, k < 22 → ∀ f, f < 7 → us (k + 1) f = decide (lt7.getD f 0 ∈ (fd k).data.toList) := by decide
theorem mnInj : ∀ i, i < 23 → ∀ j, j < 23 → (mn i).data.toList = (mn j).data.toList → i = j := by decide
theorem mnFull : ∀ j, j < 23 → 1 ≤ j → (mn j).data.toList ≠ [] := by decide

/-- The names of the memory orders. -/
def orTab : List ByteArray := [⟨#[112, 108, 97, 105, 110]⟩, ⟨#[114, 101, 108, 97, 120, 101, 100]⟩, ⟨#[114, 101, 108, 97, 99, 113]⟩]
def orn (k : Nat) : ByteArray := orTab.getD k ⟨#[]⟩
theorem orInj : ∀ i, i < 3 → ∀ j, j < 3 → (orn i).data.toList = (orn j).data.toList → i = j := by decide
theorem orFull : ∀ j, j < 3 → (orn j).data.toList ≠ [] := by decide

/-- An instruction: its eight fields. -/
structure I8 where mk8 ::
  op : Int
  a : Int
  b : Int
  c : Int
  obj : Int
  n : Int
  fn : Int
  ord : Int
  deriving DecidableEq
def opOk (o : Int) : Bool := decide (1 ≤ o ∧ o ≤ 22)
def rgOk (r : Int) : Bool := decide (0 ≤ r ∧ r < 8)
def orOk (o : Int) : Bool := decide (0 ≤ o ∧ o ≤ 2)
def fnOk (f : Int) : Bool := decide (1 ≤ f ∧ f ≤ 10)
def nOk (n : Int) : Bool := decide (wrap32 n = n)
def I8.con (i : I8) (f : Nat) : Int := [i.a, i.b, i.c, i.obj, i.n, i.fn, i.ord].getD f 0
/-- Does the operation use field f? -/
def I8.u (i : I8) (f : Nat) : Bool := us i.op.toNat f
/-- Are the fields that the operation does not use zero? -/
def I8.fOk (i : I8) (f : Nat) : Bool := i.u f || decide (i.con f = 0)
def I8.fs (i : I8) : Bool := i.fOk 0 && i.fOk 1 && i.fOk 2 && i.fOk 3 && i.fOk 4 && i.fOk 5 && i.fOk 6
def I8.rs (i : I8) : Bool := rgOk i.a && rgOk i.b && rgOk i.c
/-- The error of an instruction on its own. -/
def I8.chk (i : I8) : Int :=
  if opOk i.op = false then 8 else if i.fs = false then 9 else if i.rs = false then 10 else if orOk i.ord = false then 13 else
  if (i.u 5 && !fnOk i.fn) = true then 8 else if (decide (i.op = 1) && !nOk i.n) = true then 2 else 0
/-- The registers that an instruction reads, as they stand. -/
def I8.rdL (i : I8) : List Int := (if i.u 1 then [i.b] else []) ++ (if i.u 2 then [i.c] else [])
def I8.uses (i : I8) : List Int := if i.chk = 0 then mk i.rdL else []
def I8.dfR (i : I8) : Int := if i.chk = 0 ∧ i.u 0 = true then i.a else 0
def I8.dfB (i : I8) : Bool := decide (i.chk = 0 ∧ i.u 0 = true)
/-- The instruction with its registers renamed. -/
def I8.ren (i : I8) (f : Int → Int) : I8 := { i with a := if i.u 0 then f i.a else i.a, b := if i.u 1 then f i.b else i.b, c := if i.u 2 then f i.c else i.c }
def I8.zero : I8 := ⟨0, 0, 0, 0, 0, 0, 0, 0⟩
/-- The instruction without its registers. -/
def I8.plain (i : I8) : I8 := { i with a := 0, b := 0, c := 0 }

theorem rgOk_iff {r : Int} : rgOk r = true ↔ 0 ≤ r ∧ r < 8 := by simp [rgOk]
/-- What a zero error says. -/
structure I8.Good (i : I8) : Prop where
  op : 1 ≤ i.op ∧ i.op ≤ 22
  fs : i.fs = true
  a : 0 ≤ i.a ∧ i.a < 8
  b : 0 ≤ i.b ∧ i.b < 8
  c : 0 ≤ i.c ∧ i.c < 8
  ord : orOk i.ord = true
  fn : (i.u 5 && !fnOk i.fn) = false
  n : (decide (i.op = 1) && !nOk i.n) = false
theorem I8.good {i : I8} (h : i.chk = 0) : i.Good := by
  unfold I8.chk at h
  split at h
  · cases h
  split at h
  · cases h
  split at h
  · cases h
  split at h
  · cases h
  split at h
  · cases h
  split at h
  · cases h
  rename_i h1 h2 h3 h4 h5 h6
  rw [Bool.not_eq_false] at h1 h2 h3 h4
  rw [Bool.not_eq_true] at h5 h6
  have h3' : (rgOk i.a = true ∧ rgOk i.b = true) ∧ rgOk i.c = true := by simpa [I8.rs] using h3
  exact ⟨by simpa [opOk] using h1, h2, rgOk_iff.1 h3'.1.1, rgOk_iff.1 h3'.1.2, rgOk_iff.1 h3'.2, h4, h5, h6⟩
theorem I8.Good.chk {i : I8} (h : i.Good) : i.chk = 0 := by
  unfold I8.chk
  have h1 : opOk i.op = true := by simpa [opOk] using h.op
  have h3 : i.rs = true := by simp [I8.rs, rgOk_iff.2 h.a, rgOk_iff.2 h.b, rgOk_iff.2 h.c]
  rw [if_neg (by simp [h1]), if_neg (by simp [h.fs]), if_neg (by simp [h3]), if_neg (by simp [h.ord]), if_neg (by simp [h.fn]), if_neg (by simp [h.n])]

/-- A mapping of the registers. -/
def MapOk (f : Int → Int) : Prop := ∀ r, 0 ≤ r → r < 8 → 0 ≤ f r ∧ f r < 8
theorem I8.renU (i : I8) (f : Int → Int) (k : Nat) : (i.ren f).u k = i.u k := rfl
theorem I8.Good.ren {i : I8} (h : i.Good) {f : Int → Int} (hf : MapOk f) : (i.ren f).Good := by
  have hfs := h.fs
  refine ⟨h.op, ?_, ?_, ?_, ?_, h.ord, h.fn, h.n⟩
  · simp only [I8.fs, I8.fOk, I8.renU, Bool.and_eq_true, Bool.or_eq_true, decide_eq_true_eq] at hfs ⊢
    obtain ⟨⟨⟨⟨⟨⟨h0, h1⟩, h2⟩, h3⟩, h4⟩, h5⟩, h6⟩ := hfs
    have aux : ∀ (u : Bool) (x y : Int), (u = true ∨ x = 0) → (u = true ∨ (if u = true then y else x) = 0) := by
      intro u x y hu
      cases u
      · simpa using hu
      · exact .inl rfl
    exact ⟨⟨⟨⟨⟨⟨aux _ _ _ h0, aux _ _ _ h1⟩, aux _ _ _ h2⟩, h3⟩, h4⟩, h5⟩, h6⟩
  · show 0 ≤ (if i.u 0 = true then f i.a else i.a) ∧ (if i.u 0 = true then f i.a else i.a) < 8
    split
    · exact hf _ h.a.1 h.a.2
    · exact h.a
  · show 0 ≤ (if i.u 1 = true then f i.b else i.b) ∧ (if i.u 1 = true then f i.b else i.b) < 8
    split
    · exact hf _ h.b.1 h.b.2
    · exact h.b
  · show 0 ≤ (if i.u 2 = true then f i.c else i.c) ∧ (if i.u 2 = true then f i.c else i.c) < 8
    split
    · exact hf _ h.c.1 h.c.2
    · exact h.c
theorem I8.renRen (i : I8) (f g : Int → Int) : (i.ren f).ren g = i.ren fun r => g (f r) := by
  have aux : ∀ (u : Bool) (x : Int), (if u = true then g (if u = true then f x else x) else (if u = true then f x else x)) = if u = true then g (f x) else x := by
    intro u x
    cases u <;> rfl
  show I8.mk8 _ (if i.u 0 = true then g (if i.u 0 = true then f i.a else i.a) else _) (if i.u 1 = true then g (if i.u 1 = true then f i.b else i.b) else _) (if i.u 2 = true then g (if i.u 2 = true then f i.c else i.c) else _) _ _ _ _ = _
  unfold I8.ren
  simp only [I8.mk8.injEq, true_and, and_true]
  exact ⟨aux _ _, aux _ _, aux _ _⟩
theorem I8.renCongr {i : I8} (h : i.Good) {f g : Int → Int} (e : ∀ r, 0 ≤ r → r < 8 → f r = g r) : i.ren f = i.ren g := by
  unfold I8.ren
  rw [e _ h.a.1 h.a.2, e _ h.b.1 h.b.2, e _ h.c.1 h.c.2]
theorem I8.renId {i : I8} (h : i.Good) {f : Int → Int} (e : ∀ r, 0 ≤ r → r < 8 → f r = r) : i.ren f = i := by
  rw [I8.renCongr h e]
  unfold I8.ren
  simp
theorem I8.renPlain (i : I8) (f : Int → Int) : (i.ren f).plain = i.plain := rfl
theorem mkMap (f : Int → Int) (l : List Int) : mk ((mk l).map f) = mk (l.map f) := mkCongr fun x => by
  rw [List.mem_map, List.mem_map]
  constructor
  · rintro ⟨y, h, rfl⟩; exact ⟨y, memMk.1 h, rfl⟩
  · rintro ⟨y, h, rfl⟩; exact ⟨y, memMk.2 h, rfl⟩
theorem I8.rdRen (i : I8) (f : Int → Int) : (i.ren f).rdL = i.rdL.map f := by
  unfold I8.rdL
  rw [I8.renU, I8.renU]
  simp only [I8.ren]
  cases i.u 1 <;> cases i.u 2 <;> simp
theorem I8.usesRen {i : I8} (h : i.Good) {f : Int → Int} (hf : MapOk f) : (i.ren f).uses = mk (i.uses.map f) := by
  unfold I8.uses
  rw [if_pos (h.ren hf).chk, if_pos h.chk, mkMap, I8.rdRen]
theorem I8.rdLen (i : I8) : i.rdL.length ≤ 2 := by unfold I8.rdL; cases i.u 1 <;> cases i.u 2 <;> simp
theorem I8.usesLen (i : I8) : i.uses.length ≤ 2 := by
  unfold I8.uses
  split
  · exact Nat.le_trans (lenMk _) i.rdLen
  · simp
theorem I8.usesReg {i : I8} (h : i.Good) : ∀ x ∈ i.uses, 0 ≤ x ∧ x < 8 := by
  intro x hx
  unfold I8.uses at hx
  rw [if_pos h.chk, memMk] at hx
  unfold I8.rdL at hx
  rcases List.mem_append.1 hx with hx | hx
  · cases hb : i.u 1
    · simp [hb] at hx
    · simp [hb] at hx; subst hx; exact h.b
  · cases hc : i.u 2
    · simp [hc] at hx
    · simp [hc] at hx; subst hx; exact h.c

/-- Octal digit k of a number. -/
def dg (m k : Nat) : Nat := m / 2 ^ (3 * k) % 8
def dgs (m : Nat) : List Int := (List.range 8).map fun k => ((dg m k : Nat) : Int)
theorem dgLt (m k : Nat) : dg m k < 8 := Nat.mod_lt _ (by decide)
/-- The mapping that a list of eight numbers gives. -/
def mpL (l : List Int) (r : Int) : Int := l.getD r.toNat 0
theorem dgsLen (m : Nat) : (dgs m).length = 8 := by simp [dgs]
theorem mpDgs (m : Nat) (r : Int) (h0 : 0 ≤ r) (h8 : r < 8) : mpL (dgs m) r = dg m r.toNat := by
  unfold mpL dgs
  rw [List.getD_eq_getElem?_getD, List.getElem?_map, List.getElem?_range (by omega)]
  rfl
theorem mapDgs (m : Nat) : MapOk (mpL (dgs m)) := fun r h0 h8 => by
  rw [mpDgs m r h0 h8]
  have := dgLt m r.toNat
  omega

/-- Number k of lo to hi has the name s, or none has it. -/
def FndT (T : Nat → ByteArray) (lo hi : Nat) (s : ByteArray) (k : Int) (b : Bool) : Prop :=
  (b = true ∧ ∃ j : Nat, lo ≤ j ∧ j ≤ hi ∧ k = j ∧ (T j).toList = s.toList) ∨ (b = false ∧ k = 0 ∧ ∀ j : Nat, lo ≤ j → j ≤ hi → (T j).toList ≠ s.toList)
def InjT (T : Nat → ByteArray) (lo hi : Nat) : Prop := ∀ i j : Nat, lo ≤ i → i ≤ hi → lo ≤ j → j ≤ hi → (T i).toList = (T j).toList → i = j
theorem FndT.one {T : Nat → ByteArray} {lo hi : Nat} (hI : InjT T lo hi) {s : ByteArray} {k k' : Int} {b b' : Bool} (h : FndT T lo hi s k b) (h' : FndT T lo hi s k' b') : k = k' ∧ b = b' := by
  rcases h with ⟨rfl, j, h1, h2, rfl, h3⟩ | ⟨rfl, rfl, hn⟩ <;> rcases h' with ⟨rfl, j', g1, g2, rfl, g3⟩ | ⟨rfl, rfl, gn⟩
  · exact ⟨by rw [hI j j' h1 h2 g1 g2 (h3.trans g3.symm)], rfl⟩
  · exact absurd h3 (gn j h1 h2)
  · exact absurd g3 (hn j' g1 g2)
  · exact ⟨rfl, rfl⟩
theorem FndT.any (T : Nat → ByteArray) (lo hi : Nat) (s : ByteArray) : ∃ k b, FndT T lo hi s k b := by
  by_cases h : ∃ j : Nat, lo ≤ j ∧ j ≤ hi ∧ (T j).toList = s.toList
  · obtain ⟨j, h1, h2, h3⟩ := h
    exact ⟨j, true, .inl ⟨rfl, j, h1, h2, rfl, h3⟩⟩
  · exact ⟨0, false, .inr ⟨rfl, rfl, fun j h1 h2 h3 => h ⟨j, h1, h2, h3⟩⟩⟩
theorem FndT.self (T : Nat → ByteArray) {lo hi k : Nat} (h1 : lo ≤ k) (h2 : k ≤ hi) : FndT T lo hi (T k) k true := .inl ⟨rfl, k, h1, h2, rfl, rfl⟩
/-- None of the names from lo up to k (k left out) is s. -/
def NotT (T : Nat → ByteArray) (lo : Nat) (s : ByteArray) (k : Nat) : Prop := ∀ j : Nat, lo ≤ j → j < k → (T j).toList ≠ s.toList
theorem NotT.start (T : Nat → ByteArray) (lo : Nat) (s : ByteArray) : NotT T lo s lo := fun j h1 h2 => by omega
theorem NotT.succ {T : Nat → ByteArray} {lo : Nat} {s : ByteArray} {k : Nat} (h : NotT T lo s k) (hk : ((T k).toList == s.toList) = false) : NotT T lo s (k + 1) := by
  intro j h1 h2
  by_cases e : j = k
  · subst e; simpa using hk
  · exact h j h1 (by omega)
theorem NotT.all {T : Nat → ByteArray} {lo hi : Nat} {s : ByteArray} (h : NotT T lo s (hi + 1)) : FndT T lo hi s 0 false := .inr ⟨rfl, rfl, fun j h1 h2 => h j h1 (by omega)⟩
theorem NotT.hit {T : Nat → ByteArray} {lo hi k : Nat} {s : ByteArray} (h1 : lo ≤ k) (h2 : k ≤ hi) (hk : ((T k).toList == s.toList) = true) : FndT T lo hi s k true := .inl ⟨rfl, k, h1, h2, rfl, by simpa using hk⟩
theorem bytesData (s : ByteArray) : s.toList = s.data.toList := Lib.toList_data s
theorem mnInjT : InjT mn 1 22 := fun i j h1 h2 g1 g2 e => mnInj i (by omega) j (by omega) (by rwa [bytesData, bytesData] at e)
theorem orInjT : InjT orn 0 2 := fun i j h1 h2 g1 g2 e => orInj i (by omega) j (by omega) (by rwa [bytesData, bytesData] at e)
theorem mnNone (s : ByteArray) (h : s.data.toList = []) : FndT mn 1 22 s 0 false := .inr ⟨rfl, rfl, fun j h1 h2 e => mnFull j (by omega) h1 (by rwa [bytesData, bytesData, h] at e)⟩
theorem orNone (s : ByteArray) (h : s.data.toList = []) : FndT orn 0 2 s 0 false := .inr ⟨rfl, rfl, fun j h1 h2 e => orFull j (by omega) (by rwa [bytesData, bytesData, h] at e)⟩
def mnOf (o : Int) : ByteArray := if opOk o = true then mn o.toNat else ⟨#[]⟩
def ornOf (o : Int) : ByteArray := if orOk o = true then orn o.toNat else ⟨#[]⟩
def visB (o : Int) : Bool := decide (8 ≤ o ∧ o ≤ 22)
def drnB (o : Int) : Bool := visB o && decide (o ≠ 8) && decide (o ≠ 9) && decide (o ≠ 14)
end Go.Proofs.YtdmajlgdjhmpdaaDoor

namespace Go.Proofs.YtdmajlgdjhmpdaaDoor
open Go Go.ChangeShapes Go.WideShapes Go.ChangeAt Go.WideMaps Go.WideElems Go.RowKit

def I8.val (i : I8) : Value := .agg #[.int .i64 i.op, .int .i64 i.a, .int .i64 i.b, .int .i64 i.c, .int .i64 i.obj, .int .i64 i.n, .int .i64 i.fn, .int .i64 i.ord]
def In64 (x : Int) : Prop := -9223372036854775808 ≤ x ∧ x ≤ 9223372036854775807
structure I8.Wf (i : I8) : Prop where
  op : In64 i.op
  a : In64 i.a
  b : In64 i.b
  c : In64 i.c
  obj : In64 i.obj
  n : In64 i.n
  fn : In64 i.fn
  ord : In64 i.ord

section
variable {H : Type} {enc : TypeId × Value → H} {P : Program} {w : World} {base : Nat} {sp : Nat → Bool} {held : Bool} {fuel : Nat}
theorem intOfTrod {t : TypeId} {v : Value} {y : DataW H × List MemPlace} (ht : P.underlying t = some (.int .i64)) (h : DataW.trod enc P w base sp held fuel t [v] = some y) : ∃ n, v = .int .i64 n ∧ In64 n := by
  obtain ⟨n, e, _, hw⟩ := DataW.trod_int ht h
  refine ⟨n, by simpa using e, ?_⟩
  have hw' : (decide (IntKind.i64.min ≤ n) && decide (n ≤ IntKind.i64.max)) = true := hw
  rw [Bool.and_eq_true, decide_eq_true_iff, decide_eq_true_iff] at hw'
  exact hw'
theorem array8 {α : Type} {cs : Array α} (h : cs.size = 8) : ∃ c0 c1 c2 c3 c4 c5 c6 c7, cs = #[c0, c1, c2, c3, c4, c5, c6, c7] := by
  obtain ⟨l⟩ := cs
  match l, h with
  | [c0, c1, c2, c3, c4, c5, c6, c7], _ => exact ⟨c0, c1, c2, c3, c4, c5, c6, c7, rfl⟩
end

set_option maxRecDepth 100000 in
theorem instFs : ∃ fs, Tryd.prog.underlying 40 = some (.struct fs) ∧ Deep.oneCellFields Tryd.prog fs = true ∧ fs.size = 8 ∧ (fs.toList.all fun f => [36, 3, 37, 38].contains f.type) = true :=
  ⟨_, Tryd.underlying40, by kernel_rfl, by kernel_rfl, by kernel_rfl⟩
theorem underI {u : TypeId} (h : ([36, 3, 37, 38] : List TypeId).contains u = true) : Tryd.prog.underlying u = some (.int .i64) := by
  simp only [List.contains_cons, List.contains_nil, Bool.or_false, Bool.or_eq_true, beq_iff_eq] at h
  rcases h with rfl | rfl | rfl | rfl
  · exact Tryd.underlying36
  · exact Tryd.underlying3
  · exact Tryd.underlying37
  · exact Tryd.underlying38
theorem cellsInst : Tryd.prog.cellsOf 40 = 8 := by kernel_rfl

set_option maxRecDepth 100000 in
theorem openI8 {H : Type} {enc : TypeId × Value → H} {W : World} {base b0 : Nat} {v : Value} {d : DataW H} {p : List MemPlace} (hv : Value.okWide Tryd.prog W .any base 40 v) (h : DataW.Trod enc Tryd.prog W b0 (fun _ => true) true 40 v d p) :
    ∃ i : I8, v = i.val ∧ i.Wf := by
  obtain ⟨fs, hfs, h1, h2, h3⟩ := instFs
  obtain ⟨cs, rfl, hsz⟩ := okWide_struct hfs hv
  obtain ⟨c0, c1, c2, c3, c4, c5, c6, c7, rfl⟩ := array8 (hsz.trans cellsInst)
  obtain ⟨fuel, hf⟩ := h
  obtain ⟨xs, n, _, _, _, hxl, hx⟩ := DataW.trod_struct hfs hf
  have key : ∀ k, k < 8 → ∀ c, [c0, c1, c2, c3, c4, c5, c6, c7][k]? = some c → ∃ z, c = .int .i64 z ∧ In64 z := by
    intro k hk c hc
    have hk' : k < fs.size := by omega
    have hkf : fs[k]? = some fs[k] := Array.getElem?_eq_getElem hk'
    obtain ⟨o, ce⟩ := Deep.hone_of h1 k fs[k] hkf
    have hu : Tryd.prog.underlying fs[k].type = some (.int .i64) := underI (List.all_eq_true.1 h3 fs[k] (by simp))
    have := hx k fs[k] hkf
    rw [o, ce, List.getElem?_eq_getElem (by omega)] at this
    refine intOfTrod (enc := enc) (w := W) (base := b0) (sp := fun _ => true) (held := true) (fuel := n) hu (y := xs[k]) ?_
    rw [← this]
    congr 1
    simp only [Value.cells]
    rcases k with _ | _ | _ | _ | _ | _ | _ | _ | k
    all_goals first | omega | (simp at hc ⊢; exact hc.symm)
  obtain ⟨z0, rfl, g0⟩ := key 0 (by omega) _ rfl
  obtain ⟨z1, rfl, g1⟩ := key 1 (by omega) _ rfl
  obtain ⟨z2, rfl, g2⟩ := key 2 (by omega) _ rfl
  obtain ⟨z3, rfl, g3⟩ := key 3 (by omega) _ rfl
  obtain ⟨z4, rfl, g4⟩ := key 4 (by omega) _ rfl
  obtain ⟨z5, rfl, g5⟩ := key 5 (by omega) _ rfl
  obtain ⟨z6, rfl, g6⟩ := key 6 (by omega) _ rfl
  obtain ⟨z7, rfl, g7⟩ := key 7 (by omega) _ rfl
  exact ⟨⟨z0, z1, z2, z3, z4, z5, z6, z7⟩, rfl, ⟨g0, g1, g2, g3, g4, g5, g6, g7⟩⟩

/-- The table of the operations is laid: name and fields of operation k. -/
structure InsT (w : World) : Prop where
  nm : ∀ k, k < 23 → w.cell? ⟨0, k * 8, none⟩ = some (.string (mn k))
  us : ∀ k f, k < 23 → f < 7 → w.cell? ⟨0, k * 8 + 1 + f, none⟩ = some (.bool (us k f))
end Go.Proofs.YtdmajlgdjhmpdaaDoor
