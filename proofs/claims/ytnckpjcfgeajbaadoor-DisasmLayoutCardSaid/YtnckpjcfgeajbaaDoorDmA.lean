/-
  Programs without an error that have the same text are equal.
-/
import Derived.Test.YtnckpjcfgeajbaaDoorPgM
import Derived.Test.YtnckpjcfgeajbaaDoorInsN
import Derived.Test.YtnckpjcfgeajbaaDoorBs
import Derived.Lib.Join
import Derived.Lib.ItoaNum
import Derived.Lib.ItoaLen
import Derived.Test.YtnckpjcfgeajbaaDoorPgW
namespace Go.Proofs.YtnckpjcfgeajbaaDoor
open Go.RowKit (wrap32 wrap64)

/-- What a word, a sentence or a call gives: a text, or an error (then the text is empty). -/
structure Wd where
  t : List UInt8
  e : Int
deriving DecidableEq
def Wd.ok (t : List UInt8) : Wd := ⟨t, 0⟩
def Wd.no (e : Int) : Wd := ⟨[], e⟩
def rgW (n : Int) : Wd := .ok (114 :: Lib.itoa n)
def nuW (n : Int) : Wd := if isVal n then .ok (Lib.itoa n) else .no 2
def tgW (n : Int) : Wd := if belB n 65 then .ok (Lib.itoa n) else .no 12
def knW (s : ByteArray) (e : Int) : Wd := if s.toList.isEmpty then .no e else .ok s.data.toList
def obW (l : List ByteArray) (k : Int) : Wd := if belB k l.length then .ok (l.getD k.toNat ⟨#[]⟩).data.toList else .no 11
def Prg.vN (p : Prg) : List ByteArray := p.vars.map (·.1)
def Prg.fN (p : Prg) : List ByteArray := p.funcs.map (·.1)
/-- The words of an instruction behind its name. -/
def Prg.opW (p : Prg) (i : I8) : List Wd :=
  match i.op.toNat with
  | 1 => [rgW i.a, nuW i.n]
  | 2 => [rgW i.a, rgW i.b]
  | 3 => [knW (nameOf i.fn) 8, rgW i.a, rgW i.b, rgW i.c]
  | 4 => [tgW i.n]
  | 5 => [rgW i.b, tgW i.n]
  | 6 => [rgW i.b]
  | 8 => [rgW i.a, obW p.vN i.obj, knW (ornOf i.ord) 13]
  | 9 => [obW p.vN i.obj, rgW i.b, knW (ornOf i.ord) 13]
  | 10 => [rgW i.a, obW p.vN i.obj, rgW i.b, knW (ornOf i.ord) 13]
  | 11 => [rgW i.a, obW p.vN i.obj, rgW i.b, knW (ornOf i.ord) 13]
  | 12 => [rgW i.a, obW p.vN i.obj, rgW i.b, rgW i.c, knW (ornOf i.ord) 13]
  | 14 => [rgW i.a, obW p.vN i.obj, knW (nameOf i.fn) 8, rgW i.b, knW (ornOf i.ord) 13]
  | 15 => [obW p.muts i.obj]
  | 16 => [obW p.muts i.obj]
  | 17 => [rgW i.a, obW p.muts i.obj]
  | 18 => [obW p.conds i.obj, obW p.muts i.n]
  | 19 => [obW p.conds i.obj]
  | 20 => [obW p.conds i.obj]
  | 21 => [rgW i.a, obW p.fN i.obj, rgW i.b]
  | 22 => [rgW i.b]
  | _ => []
/-- A first word and others behind blanks, or their first error. -/
def snt (acc : List UInt8) : List Wd → Wd
  | [] => .ok acc
  | x :: r => if x.e = 0 then snt (acc ++ 32 :: x.t) r else .no x.e
def Prg.insT (p : Prg) (i : I8) : Wd := snt (mnOf i.op).data.toList (p.opW i)
/-- What Instruction gives. -/
def Prg.insR (p : Prg) (i : I8) : Wd := if p.chk.1 ≠ 0 then .no p.chk.1 else if i.chk ≠ 0 then .no i.chk else p.insT i

def lVar (v : ByteArray × Int) : List UInt8 := [118, 97, 114, 32] ++ v.1.data.toList ++ 32 :: (Lib.itoa v.2 ++ [10])
def lMut (m : ByteArray) : List UInt8 := [109, 117, 116, 101, 120, 32] ++ (m.data.toList ++ [10])
def lCon (m : ByteArray) : List UInt8 := [99, 111, 110, 100, 32] ++ (m.data.toList ++ [10])
def lFun (m : ByteArray) : List UInt8 := [102, 117, 110, 99, 32] ++ (m.data.toList ++ [10])
def lIns (p : Prg) (i : I8) : List UInt8 := [32, 32] ++ ((p.insT i).t ++ [10])
def lEnd : List UInt8 := [101, 110, 100, 10]
def lThr (p : Prg) (t : Int × Int) : List UInt8 := [116, 104, 114, 101, 97, 100, 32] ++ (p.fN.getD t.1.toNat ⟨#[]⟩).data.toList ++ 32 :: (Lib.itoa t.2 ++ [10])
def tFun (p : Prg) (f : ByteArray × List I8) : List UInt8 := lFun f.1 ++ f.2.flatMap (lIns p) ++ lEnd
def Prg.txt (p : Prg) : List UInt8 := p.vars.flatMap lVar ++ p.muts.flatMap lMut ++ p.conds.flatMap lCon ++ p.funcs.flatMap (tFun p) ++ p.thr.flatMap (lThr p)
/-- What Program gives. -/
def Prg.disR (p : Prg) : Wd := if p.chk.1 ≠ 0 then .no p.chk.1 else if 16384 < p.txt.length then .no 4 else .ok p.txt

/-- An event: its nine fields. -/
structure E9 where
  ag : Int
  ix : Int
  kd : Int
  ob : Int
  mu : Int
  en : Int
  od : Int
  rd : Int
  wr : Int
def evTab : List ByteArray := [⟨#[]⟩, ⟨#[108, 111, 97, 100]⟩, ⟨#[115, 116, 111, 114, 101]⟩, ⟨#[98, 117, 102, 102, 101, 114]⟩, ⟨#[102, 108, 117, 115, 104]⟩, ⟨#[117, 112, 100, 97, 116, 101]⟩, ⟨#[109, 105, 115, 115]⟩, ⟨#[102, 101, 110, 99, 101]⟩, ⟨#[97, 119, 97, 105, 116]⟩, ⟨#[108, 111, 99, 107]⟩, ⟨#[117, 110, 108, 111, 99, 107]⟩, ⟨#[116, 114, 121, 108, 111, 99, 107]⟩, ⟨#[119, 97, 105, 116]⟩, ⟨#[119, 97, 107, 101]⟩, ⟨#[115, 105, 103, 110, 97, 108]⟩, ⟨#[98, 114, 111, 97, 100, 99, 97, 115, 116]⟩, ⟨#[115, 112, 97, 119, 110]⟩, ⟨#[106, 111, 105, 110]⟩]
def evn (k : Nat) : ByteArray := evTab.getD k ⟨#[]⟩
def entryB : List UInt8 := [101, 110, 116, 114, 121]
/-- The words of an event behind the name of its kind. -/
def Prg.evW (p : Prg) (x : E9) : List Wd :=
  match x.kd.toNat with
  | 1 => if x.en = -1 then [obW p.vN x.ob, knW (ornOf x.od) 13, nuW x.rd] else [obW p.vN x.ob, knW (ornOf x.od) 13, nuW x.rd, .ok entryB, nuW x.en]
  | 2 => [obW p.vN x.ob, knW (ornOf x.od) 13, nuW x.wr]
  | 3 => [obW p.vN x.ob, knW (ornOf x.od) 13, nuW x.wr, nuW x.en]
  | 4 => [obW p.vN x.ob, nuW x.wr, nuW x.en]
  | 5 => [obW p.vN x.ob, knW (ornOf x.od) 13, nuW x.rd, nuW x.wr]
  | 6 => [obW p.vN x.ob, knW (ornOf x.od) 13, nuW x.rd]
  | 8 => if x.en = -1 then [obW p.vN x.ob, knW (ornOf x.od) 13, nuW x.rd] else [obW p.vN x.ob, knW (ornOf x.od) 13, nuW x.rd, .ok entryB, nuW x.en]
  | 9 => [obW p.muts x.ob]
  | 10 => [obW p.muts x.ob]
  | 11 => [obW p.muts x.ob, nuW x.rd]
  | 12 => [obW p.conds x.ob, obW p.muts x.mu]
  | 13 => [obW p.conds x.ob]
  | 14 => [obW p.conds x.ob, nuW x.rd]
  | 15 => [obW p.conds x.ob, nuW x.rd]
  | 16 => [nuW x.ob]
  | 17 => [nuW x.ob]
  | _ => []
/-- The agent and the index. -/
def E9.stp (x : E9) : List UInt8 := (if x.ag < 0 then Lib.itoa (-x.ag - 1) ++ [98] else Lib.itoa x.ag) ++ 46 :: Lib.itoa x.ix
def E9.bad (x : E9) : Bool := !isVal x.ag || !isVal x.ix || decide (x.ix < 0)
def Prg.evT (p : Prg) (x : E9) : Wd := snt (evn x.kd.toNat).data.toList (p.evW x)
/-- What Event gives. -/
def Prg.evR (p : Prg) (x : E9) : Wd :=
  if p.chk.1 ≠ 0 then .no p.chk.1 else if x.kd < 1 ∨ 17 < x.kd then .no 8 else if (p.evT x).e ≠ 0 then .no (p.evT x).e else
  if x.bad = true then .no 2 else .ok (x.stp ++ 32 :: (p.evT x).t)

theorem nuW_ok {n : Int} (h : isVal n = true) : nuW n = .ok (Lib.itoa n) := by unfold nuW; rw [if_pos h]
theorem isValNOk {n : Int} : nOk n = isVal n := by
  unfold nOk isVal wrap32
  rw [Bool.eq_iff_iff]
  simp only [decide_eq_true_eq, Bool.and_eq_true]
  omega
theorem sntAll {acc : List UInt8} : ∀ {ws : List Wd}, (∀ x ∈ ws, x.e = 0) → snt acc ws = .ok (acc ++ Lib.joinTail [32] (ws.map (·.t)))
  | [], _ => by simp [snt, Lib.joinTail]
  | x :: r, h => by
    rw [snt, if_pos (h x (by simp)), sntAll fun y hy => h y (by simp [hy])]
    simp [Lib.joinTail]
theorem sntErr {acc : List UInt8} : ∀ {ws : List Wd}, (snt acc ws).e ≠ 0 → snt acc ws = .no (snt acc ws).e
  | [], h => absurd rfl h
  | x :: r, h => by
    rw [snt] at h ⊢
    split at h
    · rename_i hx
      rw [if_pos hx]
      exact sntErr h
    · rename_i hx
      rw [if_neg hx]
      rfl

/-! The example. -/
def dsX : Prg := ⟨[(⟨#[120]⟩, 0)], [], [], [(⟨#[102]⟩, [⟨8, 1, 0, 0, 0, 0, 0, 2⟩, ⟨5, 0, 1, 0, 0, 0, 0, 0⟩])], [(0, 3)]⟩
def dsT : List UInt8 := [118, 97, 114, 32, 120, 32, 48, 10, 102, 117, 110, 99, 32, 102, 10, 32, 32, 108, 111, 97, 100, 32, 114, 49, 32, 120, 32, 114, 101, 108, 97, 99, 113, 10, 32, 32, 98, 114, 97, 110, 99, 104, 32, 114, 49, 32, 48, 10, 101, 110, 100, 10, 116, 104, 114, 101, 97, 100, 32, 102, 32, 51, 10]
theorem dsDis : dsX.disR = .ok dsT := by decide +kernel
def dsE1 : E9 := ⟨0, 2, 3, 0, -1, 1, 0, 0, 5⟩
def dsE2 : E9 := ⟨-1, 0, 4, 0, -1, 1, 0, 0, 5⟩
theorem dsEv1 : dsX.evR dsE1 = .ok [48, 46, 50, 32, 98, 117, 102, 102, 101, 114, 32, 120, 32, 112, 108, 97, 105, 110, 32, 53, 32, 49] := by decide +kernel
theorem dsEv2 : dsX.evR dsE2 = .ok [48, 98, 46, 48, 32, 102, 108, 117, 115, 104, 32, 120, 32, 53, 32, 49] := by decide +kernel
theorem dsIns : dsX.insR ⟨8, 1, 0, 0, 0, 0, 0, 2⟩ = .ok [108, 111, 97, 100, 32, 114, 49, 32, 120, 32, 114, 101, 108, 97, 99, 113] := by decide +kernel
end Go.Proofs.YtnckpjcfgeajbaaDoor

namespace Go.Proofs.YtnckpjcfgeajbaaDoor
open Go.RowKit (wrap32 wrap64)

theorem nmFall : ∀ (l seen : List ByteArray) (k : Nat), (nmF seen l k).1 = 0 → ∀ s ∈ l, nameB s = true
  | [], _, _, _, s, hs => by cases hs
  | x :: t, seen, k, h, s, hs => by
    rw [nmF] at h
    split at h
    · exact absurd h (by simp)
    · rename_i h1
      rw [Bool.not_eq_false] at h1
      split at h
      · exact absurd h (by simp)
      · rcases List.mem_cons.1 hs with rfl | hs
        · exact h1
        · exact nmFall t _ _ h s hs
theorem Prg.cdFall {p : Prg} {len : Nat} : ∀ (l : List I8) (k : Nat), (p.cdF len l k).1 = 0 → ∀ i ∈ l, p.insE len i = 0
  | [], _, _, i, hi => by cases hi
  | x :: t, k, h, i, hi => by
    rw [Prg.cdF] at h
    split at h
    · rename_i h1
      exact absurd h h1
    · rename_i h1
      rcases List.mem_cons.1 hi with rfl | hi
      · simpa using h1
      · exact Prg.cdFall t _ h i hi
theorem Prg.fnFall {p : Prg} : ∀ (l : List (ByteArray × List I8)) (k : Nat), (p.fnF l k).1 = 0 → ∀ f ∈ l, (p.cd1 f.2).1 = 0
  | [], _, _, f, hf => by cases hf
  | x :: t, k, h, f, hf => by
    rw [Prg.fnF] at h
    split at h
    · rename_i h1
      exact absurd h h1
    · rename_i h1
      rcases List.mem_cons.1 hf with rfl | hf
      · simpa using h1
      · exact Prg.fnFall t _ h f hf
theorem Prg.thFall {p : Prg} : ∀ (l : List (Int × Int)), p.thF l = 0 → ∀ s ∈ l, belB s.1 p.funcs.length = true ∧ isVal s.2 = true
  | [], _, s, hs => by cases hs
  | x :: t, h, s, hs => by
    rw [Prg.thF] at h
    split at h
    · exact absurd h (by decide)
    · rename_i h1
      split at h
      · exact absurd h (by decide)
      · rename_i h2
        rcases List.mem_cons.1 hs with rfl | hs
        · exact ⟨by simpa using h1, by simpa using h2⟩
        · exact Prg.thFall t h s hs
/-- What a program without an error keeps to. -/
structure Prg.Vld (p : Prg) : Prop where
  nv : ∀ v ∈ p.vars, nameB v.1 = true
  nm : ∀ s ∈ p.muts, nameB s = true
  nc : ∀ s ∈ p.conds, nameB s = true
  nf : ∀ f ∈ p.funcs, nameB f.1 = true
  cv : p.vars.length ≤ 8
  cm : p.muts.length ≤ 4
  cc : p.conds.length ≤ 4
  cf : p.funcs.length ≤ 8
  iv : ∀ v ∈ p.vars, isVal v.2 = true
  cl : ∀ f ∈ p.funcs, f.2.length ≤ 64
  ie : ∀ f ∈ p.funcs, ∀ i ∈ f.2, p.insE f.2.length i = 0
  t1 : 1 ≤ p.thr.length
  t8 : p.thr.length ≤ 8
  te : ∀ s ∈ p.thr, belB s.1 p.funcs.length = true ∧ isVal s.2 = true
theorem Prg.vld {p : Prg} (h : p.chk.1 = 0) : p.Vld := by
  unfold Prg.chk at h
  split at h
  · rename_i h1; exact absurd h h1
  rename_i h1
  split at h
  · exact absurd h (by decide)
  rename_i h2
  split at h
  · exact absurd h (by decide)
  rename_i h3
  split at h
  · rename_i h4; exact absurd h h4
  rename_i h4
  have h1 : p.nmE.1 = 0 := by simpa using h1
  have h4 : (p.fnF p.funcs 0).1 = 0 := by simpa using h4
  have h5 : p.thE = 0 := h
  unfold Prg.nmE at h1
  split at h1
  · rename_i g; exact absurd h1 g
  rename_i g1
  split at h1
  · rename_i g; exact absurd h1 g
  rename_i g2
  split at h1
  · rename_i g; exact absurd h1 g
  rename_i g3
  have g1 : (nmF [] (p.vars.map (·.1)) 0).1 = 0 := by simpa using g1
  have g2 : (nmF [] p.muts 0).1 = 0 := by simpa using g2
  have g3 : (nmF [] p.conds 0).1 = 0 := by simpa using g3
  have m : p.vars.length ≤ 8 ∧ p.muts.length ≤ 4 ∧ p.conds.length ≤ 4 ∧ p.funcs.length ≤ 8 := by
    simp [Prg.many] at h2; omega
  unfold Prg.thE at h5
  split at h5
  · exact absurd h5 (by decide)
  rename_i h6
  refine ⟨fun v hv => nmFall _ _ _ g1 _ (List.mem_map_of_mem hv), nmFall _ _ _ g2, nmFall _ _ _ g3, fun f hf => nmFall _ _ _ h1 _ (List.mem_map_of_mem hf), m.1, m.2.1, m.2.2.1, m.2.2.2, ?_, ?_, ?_, by omega, by omega, Prg.thFall _ h5⟩
  · have : (p.vars.all fun v => isVal v.2) = true := by simpa using h3
    exact List.all_eq_true.1 this
  · intro f hf
    have := Prg.fnFall _ _ h4 f hf
    unfold Prg.cd1 at this
    split at this
    · exact absurd this (by decide)
    · omega
  · intro f hf
    have := Prg.fnFall _ _ h4 f hf
    unfold Prg.cd1 at this
    split at this
    · exact absurd this (by decide)
    · exact Prg.cdFall _ _ this
theorem nameSz {s : ByteArray} (h : nameB s = true) : 1 ≤ s.size ∧ s.size ≤ 16 := by
  unfold nameB at h
  simp only [Bool.and_eq_true, decide_eq_true_eq] at h
  exact ⟨h.1.1.1, h.1.1.2⟩

/-! The specification's letters. -/
def opl (o : Nat) : List UInt8 :=
  match o with
  | 1 => [65, 78]
  | 2 => [65, 66]
  | 3 => [70, 65, 66, 67]
  | 4 => [78]
  | 5 => [66, 78]
  | 6 => [66]
  | 8 => [65, 118, 79]
  | 9 => [118, 66, 79]
  | 10 => [65, 118, 66, 79]
  | 11 => [65, 118, 66, 79]
  | 12 => [65, 118, 66, 67, 79]
  | 14 => [65, 118, 70, 66, 79]
  | 15 => [109]
  | 16 => [109]
  | 17 => [65, 109]
  | 18 => [99, 119]
  | 19 => [99]
  | 20 => [99]
  | 21 => [65, 102, 66]
  | 22 => [66]
  | _ => []
/-- What a letter stands for. -/
def Prg.lw (p : Prg) (i : I8) (c : UInt8) : Wd :=
  if c = 65 then rgW i.a else if c = 66 then rgW i.b else if c = 67 then rgW i.c else if c = 78 then .ok (Lib.itoa i.n) else if c = 70 then .ok (nameOf i.fn).data.toList else if c = 79 then .ok (ornOf i.ord).data.toList else
  if c = 119 then obW p.muts i.n else if c = 118 then obW p.vN i.obj else if c = 109 then obW p.muts i.obj else if c = 99 then obW p.conds i.obj else if c = 102 then obW p.fN i.obj else .no 11
def Prg.lws (p : Prg) (i : I8) : List Wd := (opl i.op.toNat).map (p.lw i)
def allW (l : List Wd) : Bool := l.all fun x => decide (x.e = 0)
def catW (acc : List UInt8) (l : List Wd) : List UInt8 := acc ++ Lib.joinTail [32] (l.map (·.t))
theorem obCases (l : List ByteArray) (k : Int) : (belB k l.length = true ∧ obW l k = .ok (l.getD k.toNat ⟨#[]⟩).data.toList) ∨ (belB k l.length = false ∧ obW l k = .no 11) := by
  unfold obW
  cases belB k l.length
  · exact .inr ⟨rfl, rfl⟩
  · exact .inl ⟨rfl, rfl⟩
theorem obErr (l : List ByteArray) (k : Int) : (obW l k).e = 0 ∨ (obW l k).e = 11 := by
  rcases obCases l k with ⟨_, h⟩ | ⟨_, h⟩ <;> rw [h]
  · exact .inl rfl
  · exact .inr rfl
theorem lwErr (p : Prg) (i : I8) (c : UInt8) : (p.lw i c).e = 0 ∨ (p.lw i c).e = 11 := by
  unfold Prg.lw
  repeat' split
  all_goals first | exact .inl rfl | exact .inr rfl | exact obErr _ _
theorem sntFirst {E : Int} : ∀ {ws : List Wd} {acc : List UInt8}, (∀ x ∈ ws, x.e = 0 ∨ x.e = E) → snt acc ws = if allW ws = true then .ok (catW acc ws) else .no E
  | [], acc, _ => by simp [snt, allW, catW, Lib.joinTail]
  | x :: r, acc, h => by
    rw [snt]
    by_cases h0 : x.e = 0
    · rw [if_pos h0, sntFirst fun y hy => h y (by simp [hy])]
      have e1 : allW (x :: r) = allW r := by simp [allW, h0]
      have e2 : catW acc (x :: r) = catW (acc ++ 32 :: x.t) r := by simp [catW, Lib.joinTail]
      rw [e1, e2]
    · rw [if_neg h0]
      have e1 : allW (x :: r) = false := by simp [allW, h0]
      rw [e1, if_neg (by decide)]
      rcases h x (by simp) with h' | h'
      · exact absurd h' h0
      · rw [h']
theorem knOrd {i : I8} (h : orOk i.ord = true) : knW (ornOf i.ord) 13 = .ok (ornOf i.ord).data.toList := by
  have : (ornOf i.ord).toList.isEmpty = false := by
    unfold ornOf
    rw [if_pos h, bytesData, List.isEmpty_eq_false_iff]
    have h' : 0 ≤ i.ord ∧ i.ord ≤ 2 := by simpa [orOk] using h
    exact orFull _ (by omega)
  unfold knW
  rw [this, if_neg (by decide)]
theorem knFn {i : I8} (h : fnOk i.fn = true) : knW (nameOf i.fn) 8 = .ok (nameOf i.fn).data.toList := by
  unfold knW
  rw [nameEmpty, h, if_neg (by decide)]
/-- The text of an instruction without an error of its own, as the specification writes it. -/
theorem insRef {p : Prg} {i : I8} (h : i.chk = 0) : p.insT i = if allW (p.lws i) = true then (if (i.op = 4 ∨ i.op = 5) ∧ belB i.n 65 = false then .no 12 else .ok (catW (mnOf i.op).data.toList (p.lws i))) else .no 11 := by
  have hg := I8.good h
  have ho := hg.op
  have hor := knOrd hg.ord
  have hfn : i.u 5 = true → knW (nameOf i.fn) 8 = .ok (nameOf i.fn).data.toList := fun hu => knFn (by have := hg.fn; rw [hu] at this; simpa using this)
  have hn : i.op = 1 → nuW i.n = .ok (Lib.itoa i.n) := fun hu => nuW_ok (by have := hg.n; rw [hu] at this; rw [← isValNOk]; simpa using this)
  have key : (¬ (i.op = 4 ∨ i.op = 5)) → p.opW i = p.lws i → p.insT i = if allW (p.lws i) = true then (if (i.op = 4 ∨ i.op = 5) ∧ belB i.n 65 = false then .no 12 else .ok (catW (mnOf i.op).data.toList (p.lws i))) else .no 11 := by
    intro h45 he
    unfold Prg.insT
    rw [he, sntFirst (E := 11) fun x hx => by
      obtain ⟨c, _, rfl⟩ := List.mem_map.1 hx
      exact lwErr p i c]
    rw [if_neg (c := (i.op = 4 ∨ i.op = 5) ∧ _) fun hh => h45 hh.1]
  obtain ⟨op, a, b, c, obj, n, fn, ord⟩ := i
  simp only at ho hor hn key
  obtain ⟨k, rfl⟩ : ∃ k : Nat, op = k := ⟨op.toNat, by omega⟩
  have hk : k = 1 ∨ k = 2 ∨ k = 3 ∨ k = 4 ∨ k = 5 ∨ k = 6 ∨ k = 7 ∨ k = 8 ∨ k = 9 ∨ k = 10 ∨ k = 11 ∨ k = 12 ∨ k = 13 ∨ k = 14 ∨ k = 15 ∨ k = 16 ∨ k = 17 ∨ k = 18 ∨ k = 19 ∨ k = 20 ∨ k = 21 ∨ k = 22 := by omega
  rcases hk with rfl | rfl | rfl | rfl | rfl | rfl | rfl | rfl | rfl | rfl | rfl | rfl | rfl | rfl | rfl | rfl | rfl | rfl | rfl | rfl | rfl | rfl
  case inr.inr.inr.inl =>
    show snt _ [tgW n] = if allW [Wd.ok (Lib.itoa n)] = true then _ else _
    rw [if_pos (show allW [Wd.ok (Lib.itoa n)] = true from rfl)]
    cases hb : belB n 65
    · rw [if_pos ⟨.inl rfl, rfl⟩, tgW, hb]; rfl
    · rw [if_neg (fun hh => absurd hh.2 (by decide)), tgW, hb]
      show snt _ [Wd.ok (Lib.itoa n)] = Wd.ok (catW _ [Wd.ok (Lib.itoa n)])
      rw [sntAll (by simp [Wd.ok])]
      rfl
  case inr.inr.inr.inr.inl =>
    show snt _ [rgW b, tgW n] = if allW [rgW b, Wd.ok (Lib.itoa n)] = true then _ else _
    rw [if_pos (show allW [rgW b, Wd.ok (Lib.itoa n)] = true from rfl)]
    cases hb : belB n 65
    · rw [if_pos ⟨.inr rfl, rfl⟩, tgW, hb]; rfl
    · rw [if_neg (fun hh => absurd hh.2 (by decide)), tgW, hb]
      show snt _ [rgW b, Wd.ok (Lib.itoa n)] = Wd.ok (catW _ [rgW b, Wd.ok (Lib.itoa n)])
      rw [sntAll (by simp [rgW, Wd.ok])]
      rfl
  case inl =>
    refine key (by decide) ?_
    show [rgW a, nuW n] = [rgW a, Wd.ok (Lib.itoa n)]
    rw [hn rfl]
  case inr.inr.inl =>
    refine key (by decide) ?_
    show [knW (nameOf fn) 8, rgW a, rgW b, rgW c] = [Wd.ok (nameOf fn).data.toList, rgW a, rgW b, rgW c]
    rw [hfn rfl]
  case inr.inr.inr.inr.inr.inr.inr.inr.inr.inr.inr.inr.inr.inl =>
    refine key (by decide) ?_
    show [rgW a, obW p.vN obj, knW (nameOf fn) 8, rgW b, knW (ornOf ord) 13] = [rgW a, obW p.vN obj, Wd.ok (nameOf fn).data.toList, rgW b, Wd.ok (ornOf ord).data.toList]
    rw [hfn rfl, hor]
  all_goals first
    | exact key (by decide) rfl
    | (refine key (by decide) ?_
       show [rgW a, obW p.vN obj, knW (ornOf ord) 13] = [rgW a, obW p.vN obj, Wd.ok (ornOf ord).data.toList]
       rw [hor])
    | (refine key (by decide) ?_
       show [obW p.vN obj, rgW b, knW (ornOf ord) 13] = [obW p.vN obj, rgW b, Wd.ok (ornOf ord).data.toList]
       rw [hor])
    | (refine key (by decide) ?_
       show [rgW a, obW p.vN obj, rgW b, knW (ornOf ord) 13] = [rgW a, obW p.vN obj, rgW b, Wd.ok (ornOf ord).data.toList]
       rw [hor])
    | (refine key (by decide) ?_
       show [rgW a, obW p.vN obj, rgW b, rgW c, knW (ornOf ord) 13] = [rgW a, obW p.vN obj, rgW b, rgW c, Wd.ok (ornOf ord).data.toList]
       rw [hor])
end Go.Proofs.YtnckpjcfgeajbaaDoor

namespace Go.Proofs.YtnckpjcfgeajbaaDoor
open Go.RowKit (wrap32 wrap64)

theorem if2 {A B : Prop} [Decidable A] [Decidable B] (h : (if A then (11 : Int) else if B then 12 else 0) = 0) : ¬ A ∧ ¬ B := by
  by_cases a : A
  · rw [if_pos a] at h
    exact absurd h (by decide)
  · by_cases b : B
    · rw [if_neg a, if_pos b] at h
      exact absurd h (by decide)
    · exact ⟨a, b⟩
theorem Prg.Vld.ins {p : Prg} (hv : p.Vld) {f : ByteArray × List I8} (hf : f ∈ p.funcs) {i : I8} (hi : i ∈ f.2) : i.chk = 0 ∧ allW (p.lws i) = true ∧ ¬ ((i.op = 4 ∨ i.op = 5) ∧ belB i.n 65 = false) := by
  have he := hv.ie f hf i hi
  have hl := hv.cl f hf
  have h1 : i.chk = 0 := by
    by_cases g : i.chk ≠ 0
    · unfold Prg.insE at he
      rw [if_pos g] at he
      exact absurd he g
    · simpa using g
  have hne : ¬ i.chk ≠ 0 := fun g => g h1
  have h234 : (∀ c, p.objN i.op = some c → belB i.obj c = true) ∧ ¬ (i.op = 18 ∧ belB i.n p.muts.length = false) ∧ ¬ ((i.op = 4 ∨ i.op = 5) ∧ belB i.n (f.2.length + 1) = false) := by
    unfold Prg.insE at he
    rw [if_neg hne] at he
    obtain ⟨m, hm⟩ : ∃ m, p.objN i.op = m := ⟨_, rfl⟩
    rw [hm] at he
    cases m with
    | none =>
      simp only [Bool.true_eq_false, if_false] at he
      exact ⟨fun c hc => (by rw [hm] at hc; cases hc), if2 he⟩
    | some c =>
      simp only at he
      cases g : belB i.obj c
      · simp only [g, if_true] at he
        exact absurd he (by decide)
      · simp only [g, Bool.true_eq_false, if_false] at he
        refine ⟨fun d hd => ?_, if2 he⟩
        rw [hm] at hd
        injection hd with hd
        rw [← hd]; exact g
  obtain ⟨h2, h3, h4⟩ := h234
  clear he
  have hop := (I8.good h1).op
  refine ⟨h1, ?_, ?_⟩
  · obtain ⟨op, a, b, c, obj, n, fn, ord⟩ := i
    simp only at hop h2 h3
    obtain ⟨k, rfl⟩ : ∃ k : Nat, op = k := ⟨op.toNat, by omega⟩
    have hvL : p.vN.length = p.vars.length := by simp [Prg.vN]
    have hfL : p.fN.length = p.funcs.length := by simp [Prg.fN]
    have hk : k = 1 ∨ k = 2 ∨ k = 3 ∨ k = 4 ∨ k = 5 ∨ k = 6 ∨ k = 7 ∨ k = 8 ∨ k = 9 ∨ k = 10 ∨ k = 11 ∨ k = 12 ∨ k = 13 ∨ k = 14 ∨ k = 15 ∨ k = 16 ∨ k = 17 ∨ k = 18 ∨ k = 19 ∨ k = 20 ∨ k = 21 ∨ k = 22 := by omega
    have ob : ∀ l : List ByteArray, belB obj l.length = true → (obW l obj).e = 0 := fun l h => by unfold obW; rw [if_pos h]; rfl
    have V : belB obj p.vars.length = true → (obW p.vN obj).e = 0 := fun h => ob _ (by rw [hvL]; exact h)
    have F : belB obj p.funcs.length = true → (obW p.fN obj).e = 0 := fun h => ob _ (by rw [hfL]; exact h)
    have all1 : ∀ (l1 l2 : List Wd) (x : Wd), x.e = 0 → allW l1 = true → allW l2 = true → allW (l1 ++ x :: l2) = true := by
      intro l1 l2 x hx g1 g2
      unfold allW at *
      rw [List.all_append, g1, List.all_cons, g2, hx]; rfl
    rcases hk with rfl | rfl | rfl | rfl | rfl | rfl | rfl | rfl | rfl | rfl | rfl | rfl | rfl | rfl | rfl | rfl | rfl | rfl | rfl | rfl | rfl | rfl
    all_goals first
      | exact rfl
      | exact all1 [rgW a] [.ok (ornOf ord).data.toList] (obW p.vN obj) (V (h2 _ rfl)) rfl rfl
      | exact all1 [] [rgW b, .ok (ornOf ord).data.toList] (obW p.vN obj) (V (h2 _ rfl)) rfl rfl
      | exact all1 [rgW a] [rgW b, .ok (ornOf ord).data.toList] (obW p.vN obj) (V (h2 _ rfl)) rfl rfl
      | exact all1 [rgW a] [rgW b, rgW c, .ok (ornOf ord).data.toList] (obW p.vN obj) (V (h2 _ rfl)) rfl rfl
      | exact all1 [rgW a] [.ok (nameOf fn).data.toList, rgW b, .ok (ornOf ord).data.toList] (obW p.vN obj) (V (h2 _ rfl)) rfl rfl
      | exact all1 [] [] (obW p.muts obj) (ob _ (h2 _ rfl)) rfl rfl
      | exact all1 [rgW a] [] (obW p.muts obj) (ob _ (h2 _ rfl)) rfl rfl
      | exact all1 [] [] (obW p.conds obj) (ob _ (h2 _ rfl)) rfl rfl
      | exact all1 [rgW a] [rgW b] (obW p.fN obj) (F (h2 _ rfl)) rfl rfl
      | exact all1 [obW p.conds obj] [] (obW p.muts n) (by unfold obW; rw [if_pos (by simpa using h3)]; rfl) (all1 [] [] (obW p.conds obj) (ob _ (h2 _ rfl)) rfl rfl) rfl
  · rintro ⟨h5, h6⟩
    apply h4
    refine ⟨h5, ?_⟩
    simp only [belB, Bool.and_eq_false_iff, decide_eq_false_iff_not] at h6 ⊢
    omega
theorem Prg.Vld.insT {p : Prg} (hv : p.Vld) {f : ByteArray × List I8} (hf : f ∈ p.funcs) {i : I8} (hi : i ∈ f.2) : p.insT i = .ok (catW (mnOf i.op).data.toList (p.lws i)) := by
  obtain ⟨h1, h2, h3⟩ := hv.ins hf hi
  rw [insRef h1, if_pos h2, if_neg h3]
theorem nameLen : ∀ k, (nm k).data.toList.length ≤ 16 := by
  intro k
  by_cases h : k < 11
  · have : ∀ k, k < 11 → (nm k).data.toList.length ≤ 16 := by decide
    exact this k h
  · unfold nm
    rw [List.getD_eq_getElem?_getD, List.getElem?_eq_none (by simp [nmTab]; omega)]
    simp
theorem ornLen (k : Nat) : (orn k).data.toList.length ≤ 16 := by
  by_cases h : k < 3
  · have : ∀ k, k < 3 → (orn k).data.toList.length ≤ 16 := by decide
    exact this k h
  · unfold orn
    rw [List.getD_eq_getElem?_getD, List.getElem?_eq_none (by simp [orTab]; omega)]
    simp
theorem mnLen (k : Nat) : (mn k).data.toList.length ≤ 16 := by
  by_cases h : k < 23
  · have : ∀ k, k < 23 → (mn k).data.toList.length ≤ 16 := by decide
    exact this k h
  · unfold mn
    rw [List.getD_eq_getElem?_getD, List.getElem?_eq_none (by simp [mnTab]; omega)]
    simp
theorem mnOfLen (o : Int) : (mnOf o).data.toList.length ≤ 16 := by
  unfold mnOf
  split
  · exact mnLen _
  · simp
theorem obLen {l : List ByteArray} (h : ∀ s ∈ l, nameB s = true) (k : Int) : (obW l k).t.length ≤ 16 := by
  rcases obCases l k with ⟨hb, e⟩ | ⟨_, e⟩
  · rw [e]
    show (l.getD k.toNat ⟨#[]⟩).data.toList.length ≤ 16
    have hk : k.toNat < l.length := by
      simp only [belB, Bool.and_eq_true, decide_eq_true_eq] at hb; omega
    rw [List.getD_eq_getElem?_getD, List.getElem?_eq_getElem hk]
    exact (nameSz (h _ (List.getElem_mem hk))).2
  · rw [e]; exact Nat.zero_le _
theorem Prg.Vld.vNn {p : Prg} (hv : p.Vld) : ∀ s ∈ p.vN, nameB s = true := fun s hs => by
  obtain ⟨v, h, rfl⟩ := List.mem_map.1 hs
  exact hv.nv v h
theorem Prg.Vld.fNn {p : Prg} (hv : p.Vld) : ∀ s ∈ p.fN, nameB s = true := fun s hs => by
  obtain ⟨v, h, rfl⟩ := List.mem_map.1 hs
  exact hv.nf v h
theorem lwLen {p : Prg} (hv : p.Vld) {i : I8} (hi : i.Wf) (c : UInt8) : (p.lw i c).t.length ≤ 22 := by
  have rg : ∀ n : Int, -9223372036854775808 ≤ n ∧ n ≤ 9223372036854775807 → (rgW n).t.length ≤ 22 := fun n h => by
    have := Lib.itoa_length_le n h.1 h.2
    show (114 :: Lib.itoa n).length ≤ 22
    rw [List.length_cons]; omega
  unfold Prg.lw
  repeat' split
  · exact rg _ hi.a
  · exact rg _ hi.b
  · exact rg _ hi.c
  · exact Nat.le_succ_of_le (Lib.itoa_length_le i.n hi.n.1 hi.n.2)
  · show (nameOf i.fn).data.toList.length ≤ 22
    unfold nameOf
    split
    · have := nameLen i.fn.toNat; omega
    · simp
  · show (ornOf i.ord).data.toList.length ≤ 22
    unfold ornOf
    split
    · have := ornLen i.ord.toNat; omega
    · simp
  · have := obLen hv.nm i.n; omega
  · have := obLen hv.vNn i.obj; omega
  · have := obLen hv.nm i.obj; omega
  · have := obLen hv.nc i.obj; omega
  · have := obLen hv.fNn i.obj; omega
  · exact Nat.zero_le _
theorem oplLen (o : Nat) : (opl o).length ≤ 5 := by
  unfold opl
  split <;> simp
theorem joinTailLen {l : List (List UInt8)} {B : Nat} (h : ∀ x ∈ l, x.length ≤ B) : (Lib.joinTail [32] l).length ≤ l.length * (B + 1) := by
  induction l with
  | nil => simp [Lib.joinTail]
  | cons x r ih =>
    have h1 := h x (by simp)
    have h2 := ih fun y hy => h y (by simp [hy])
    have e : Lib.joinTail [32] (x :: r) = 32 :: x ++ Lib.joinTail [32] r := by simp [Lib.joinTail]
    rw [e, List.length_append, List.length_cons, List.length_cons, Nat.succ_mul]
    omega
theorem catLen {p : Prg} (hv : p.Vld) {i : I8} (hi : i.Wf) : (catW (mnOf i.op).data.toList (p.lws i)).length ≤ 131 := by
  unfold catW
  rw [List.length_append]
  have h1 := mnOfLen i.op
  have h2 := joinTailLen (l := (p.lws i).map (·.t)) (B := 22) fun x hx => by
    obtain ⟨y, hy, rfl⟩ := List.mem_map.1 hx
    obtain ⟨c, _, rfl⟩ := List.mem_map.1 hy
    exact lwLen hv hi c
  have h3 : ((p.lws i).map (·.t)).length ≤ 5 := by
    rw [List.length_map, Prg.lws, List.length_map]
    exact oplLen _
  have h4 := Nat.mul_le_mul_right 23 h3
  omega
theorem flatLen {α : Type} {g : α → List UInt8} {B : Nat} {l : List α} (h : ∀ x ∈ l, (g x).length ≤ B) : (l.flatMap g).length ≤ l.length * B := by
  induction l with
  | nil => simp
  | cons x r ih =>
    have h1 := h x (by simp)
    have h2 := ih fun y hy => h y (by simp [hy])
    rw [List.flatMap_cons, List.length_append, List.length_cons, Nat.succ_mul]
    omega
theorem itLen {n : Int} (h : isVal n = true) : (Lib.itoa n).length ≤ 21 := by
  unfold isVal at h
  simp only [Bool.and_eq_true, decide_eq_true_eq] at h
  exact Lib.itoa_length_le n (by omega) (by omega)
theorem nameLen16 {s : ByteArray} (h : nameB s = true) : s.data.toList.length ≤ 16 := (nameSz h).2
theorem lVarLen {p : Prg} (hv : p.Vld) : ∀ v ∈ p.vars, (lVar v).length ≤ 50 := fun v h => by
  have h1 := nameLen16 (hv.nv v h)
  have h2 := itLen (hv.iv v h)
  simp only [lVar, List.length_append, List.length_cons, List.length_nil]; omega
theorem lMutLen {p : Prg} (hv : p.Vld) : ∀ v ∈ p.muts, (lMut v).length ≤ 50 := fun v h => by
  have h1 := nameLen16 (hv.nm v h)
  simp only [lMut, List.length_append, List.length_cons, List.length_nil]; omega
theorem lConLen {p : Prg} (hv : p.Vld) : ∀ v ∈ p.conds, (lCon v).length ≤ 50 := fun v h => by
  have h1 := nameLen16 (hv.nc v h)
  simp only [lCon, List.length_append, List.length_cons, List.length_nil]; omega
theorem lInsLen {p : Prg} (hv : p.Vld) (hw : p.Wf) {f : ByteArray × List I8} (hf : f ∈ p.funcs) : ∀ i ∈ f.2, (lIns p i).length ≤ 150 := fun i hi => by
  have h1 := catLen hv (hw.ins f hf i hi)
  unfold lIns
  rw [hv.insT hf hi]
  simp only [Wd.ok, List.length_append, List.length_cons, List.length_nil]; omega
theorem tFunLen {p : Prg} (hv : p.Vld) (hw : p.Wf) : ∀ f ∈ p.funcs, (tFun p f).length ≤ 9700 := fun f hf => by
  have h1 := nameLen16 (hv.nf f hf)
  have h2 := flatLen (lInsLen hv hw hf)
  have h3 := Nat.mul_le_mul_right 150 (hv.cl f hf)
  simp only [tFun, lFun, lEnd, List.length_append, List.length_cons, List.length_nil]; omega
theorem thrName {p : Prg} (hv : p.Vld) {t : Int × Int} (ht : t ∈ p.thr) : nameB (p.fN.getD t.1.toNat ⟨#[]⟩) = true := by
  have hb := (hv.te t ht).1
  have hk : t.1.toNat < p.fN.length := by
    have : p.fN.length = p.funcs.length := by simp [Prg.fN]
    simp only [belB, Bool.and_eq_true, decide_eq_true_eq] at hb; omega
  rw [List.getD_eq_getElem?_getD, List.getElem?_eq_getElem hk]
  exact hv.fNn _ (List.getElem_mem hk)
theorem lThrLen {p : Prg} (hv : p.Vld) : ∀ t ∈ p.thr, (lThr p t).length ≤ 60 := fun t h => by
  have h1 := nameLen16 (thrName hv h)
  have h2 := itLen (hv.te t h).2
  simp only [lThr, List.length_append, List.length_cons, List.length_nil]; omega
/-- How long the text of a program without an error is at most. -/
theorem txtLen {p : Prg} (hv : p.Vld) (hw : p.Wf) : p.txt.length ≤ 100000 := by
  have h1 := flatLen (lVarLen hv)
  have h2 := flatLen (lMutLen hv)
  have h3 := flatLen (lConLen hv)
  have h4 := flatLen (tFunLen hv hw)
  have h5 := flatLen (lThrLen hv)
  have c1 := Nat.mul_le_mul_right 50 hv.cv
  have c2 := Nat.mul_le_mul_right 50 hv.cm
  have c3 := Nat.mul_le_mul_right 50 hv.cc
  have c4 := Nat.mul_le_mul_right 9700 hv.cf
  have c5 := Nat.mul_le_mul_right 60 hv.t8
  simp only [Prg.txt, List.length_append]; omega
end Go.Proofs.YtnckpjcfgeajbaaDoor

namespace Go.Proofs.YtnckpjcfgeajbaaDoor
open Go.RowKit (wrap32 wrap64)

/-- A word: not empty, no blank and no line feed in it. -/
def Wrd (x : List UInt8) : Prop := x ≠ [] ∧ ∀ c ∈ x, c ≠ 10 ∧ c ≠ 32
/-- A line without its line feed. -/
def LnOk (x : List UInt8) : Prop := (∀ c ∈ x, c ≠ 10) ∧ ∃ y c, x = y ++ [c] ∧ c ≠ 32
theorem Wrd.last {x : List UInt8} (h : Wrd x) : ∃ y c, x = y ++ [c] ∧ c ≠ 32 := by
  obtain ⟨y, c, e⟩ : ∃ y c, x = y ++ [c] := ⟨x.dropLast, x.getLast h.1, (List.dropLast_concat_getLast h.1).symm⟩
  exact ⟨y, c, e, (h.2 c (by rw [e]; simp)).2⟩
theorem LnOk.join {a x : List UInt8} (ha : ∀ c ∈ a, c ≠ 10) (h : Wrd x) : LnOk (a ++ x) := by
  obtain ⟨y, c, e, hc⟩ := h.last
  refine ⟨fun d hd => ?_, a ++ y, c, by rw [e, List.append_assoc], hc⟩
  rcases List.mem_append.1 hd with hd | hd
  · exact ha d hd
  · exact (h.2 d hd).1
theorem wrdDec (x : List UInt8) (h : (decide (x ≠ []) && x.all fun c => decide (c ≠ 10 ∧ c ≠ 32)) = true) : Wrd x := by
  rw [Bool.and_eq_true, decide_eq_true_eq, List.all_eq_true] at h
  exact ⟨h.1, fun c hc => of_decide_eq_true (h.2 c hc)⟩
theorem nameWrd {s : ByteArray} (h : nameB s = true) : Wrd s.data.toList := by
  have hs := nameSz h
  unfold nameB at h
  simp only [Bool.and_eq_true, decide_eq_true_eq] at h
  refine ⟨fun e => ?_, fun c hc => ?_⟩
  · have : s.data.toList.length = s.size := rfl
    rw [e] at this
    simp at this
    omega
  · have := List.all_eq_true.1 h.2 c hc
    unfold tailB letB digB at this
    simp only [Bool.or_eq_true, Bool.and_eq_true, decide_eq_true_eq] at this
    constructor
    · rintro rfl
      have e : (10 : UInt8).toNat = 10 := rfl
      rw [e] at this
      omega
    · rintro rfl
      have e : (32 : UInt8).toNat = 32 := rfl
      rw [e] at this
      omega
theorem decWrd (n : Nat) : Wrd (Lib.decDigits n) := by
  induction n using Nat.strongRecOn with
  | _ n ih =>
    have dig : ∀ d, d < 10 → Wrd [UInt8.ofNat (48 + d)] := by
      intro d hd
      have : ∀ d, d < 10 → (decide ([UInt8.ofNat (48 + d)] ≠ []) && [UInt8.ofNat (48 + d)].all fun c => decide (c ≠ 10 ∧ c ≠ 32)) = true := by decide
      exact wrdDec _ (this d hd)
    rw [Lib.decDigits]
    split
    · exact dig n (by assumption)
    · have h1 := ih (n / 10) (by omega)
      have h2 := dig (n % 10) (Nat.mod_lt _ (by omega))
      refine ⟨by simp, fun c hc => ?_⟩
      rcases List.mem_append.1 hc with hc | hc
      · exact h1.2 c hc
      · exact h2.2 c hc
theorem Wrd.cons {x : List UInt8} (h : Wrd x) {c : UInt8} (hc : c ≠ 10 ∧ c ≠ 32) : Wrd (c :: x) :=
  ⟨by simp, fun d hd => by
    rcases List.mem_cons.1 hd with rfl | hd
    · exact hc
    · exact h.2 d hd⟩
theorem itWrd (n : Int) : Wrd (Lib.itoa n) := by
  unfold Lib.itoa
  split
  · exact (decWrd _).cons (by decide)
  · exact decWrd _
theorem rgWrd (n : Int) : Wrd (rgW n).t := (itWrd n).cons (by decide)
theorem nmWrd : ∀ k, k < 11 → 1 ≤ k → (decide ((nm k).data.toList ≠ []) && (nm k).data.toList.all fun c => decide (c ≠ 10 ∧ c ≠ 32)) = true := by decide
theorem ornWrd : ∀ k, k < 3 → (decide ((orn k).data.toList ≠ []) && (orn k).data.toList.all fun c => decide (c ≠ 10 ∧ c ≠ 32)) = true := by decide
theorem mnWrd : ∀ k, k < 23 → 1 ≤ k → (decide ((mn k).data.toList ≠ []) && (mn k).data.toList.all fun c => decide (c ≠ 10 ∧ c ≠ 32)) = true := by decide
theorem obWrd {l : List ByteArray} (h : ∀ s ∈ l, nameB s = true) {k : Int} (he : (obW l k).e = 0) : Wrd (obW l k).t := by
  rcases obCases l k with ⟨hb, e⟩ | ⟨_, e⟩
  · rw [e]
    show Wrd (l.getD k.toNat ⟨#[]⟩).data.toList
    have hk : k.toNat < l.length := by
      simp only [belB, Bool.and_eq_true, decide_eq_true_eq] at hb; omega
    rw [List.getD_eq_getElem?_getD, List.getElem?_eq_getElem hk]
    exact nameWrd (h _ (List.getElem_mem hk))
  · rw [e] at he; exact absurd he (by decide)
set_option maxHeartbeats 1000000 in
/-- The words of an instruction of a program without an error are words. -/
theorem Prg.Vld.lwW {p : Prg} (hv : p.Vld) {f : ByteArray × List I8} (hf : f ∈ p.funcs) {i : I8} (hi : i ∈ f.2) : ∀ x ∈ p.lws i, Wrd x.t := by
  obtain ⟨h1, h2, _⟩ := hv.ins hf hi
  have hg := I8.good h1
  intro x hx
  have hx0 : x.e = 0 := by
    have := List.all_eq_true.1 h2 x hx
    simpa using this
  unfold Prg.lws at hx
  obtain ⟨c, hc, rfl⟩ := List.mem_map.1 hx
  clear hx
  have hfn : c = 70 → fnOk i.fn = true := by
    intro e
    subst e
    have hu : i.op = 3 ∨ i.op = 14 := by
      have ho := hg.op
      obtain ⟨k, hk⟩ : ∃ k : Nat, i.op = k := ⟨i.op.toNat, by omega⟩
      rw [hk, Int.toNat_natCast] at hc
      rw [hk] at ho ⊢
      have hc' : (70 : UInt8) ∈ opl k := hc
      have : ∀ k, k < 23 → (70 : UInt8) ∈ opl k → k = 3 ∨ k = 14 := by decide +kernel
      rcases this k (by omega) hc' with rfl | rfl
      · exact .inl rfl
      · exact .inr rfl
    have hus : i.u 5 = true := by
      unfold I8.u
      rcases hu with h | h <;> rw [h] <;> rfl
    have := hg.fn
    rw [hus] at this
    simpa using this
  revert hx0
  unfold Prg.lw
  repeat' split
  · exact fun _ => rgWrd _
  · exact fun _ => rgWrd _
  · exact fun _ => rgWrd _
  · exact fun _ => itWrd _
  · rename_i h
    intro _
    have hk := hfn h
    have hk' : 1 ≤ i.fn ∧ i.fn ≤ 10 := by simpa [fnOk] using hk
    show Wrd (nameOf i.fn).data.toList
    unfold nameOf
    rw [if_pos hk']
    exact wrdDec _ (nmWrd _ (by omega) (by omega))
  · intro _
    have hk' : 0 ≤ i.ord ∧ i.ord ≤ 2 := by simpa [orOk] using hg.ord
    show Wrd (ornOf i.ord).data.toList
    unfold ornOf
    rw [if_pos hg.ord]
    exact wrdDec _ (ornWrd _ (by omega))
  · exact obWrd hv.nm
  · exact obWrd hv.vNn
  · exact obWrd hv.nm
  · exact obWrd hv.nc
  · exact obWrd hv.fNn
  · exact fun h => absurd h (by decide)
theorem mnOfWrd {o : Int} (h : 1 ≤ o ∧ o ≤ 22) : Wrd (mnOf o).data.toList := by
  unfold mnOf
  rw [if_pos (by simpa [opOk] using h)]
  exact wrdDec _ (mnWrd _ (by omega) (by omega))
theorem catLn {a : List UInt8} (ha : Wrd a) : ∀ {ws : List (List UInt8)}, (∀ x ∈ ws, Wrd x) → LnOk (a ++ Lib.joinTail [32] ws) := by
  have gen : ∀ {ws : List (List UInt8)} {a : List UInt8}, LnOk a → (∀ x ∈ ws, Wrd x) → LnOk (a ++ Lib.joinTail [32] ws) := by
    intro ws
    induction ws with
    | nil => intro a h _; simpa [Lib.joinTail] using h
    | cons x r ih =>
      intro a h hw
      have e : a ++ Lib.joinTail [32] (x :: r) = ((a ++ [32]) ++ x) ++ Lib.joinTail [32] r := by simp [Lib.joinTail]
      rw [e]
      refine ih (LnOk.join (fun c hc => ?_) (hw x (by simp))) fun y hy => hw y (by simp [hy])
      rcases List.mem_append.1 hc with hc | hc
      · exact h.1 c hc
      · rw [List.mem_singleton.1 hc]; decide
  intro ws hw
  refine gen ?_ hw
  have := LnOk.join (a := []) (by simp) ha
  simpa using this
/-- n lines make up t. -/
def Lns (t : List UInt8) (n : Nat) : Prop := ∃ ls : List (List UInt8), ls.length = n ∧ t = ls.flatMap (fun x => x ++ [10]) ∧ ∀ x ∈ ls, LnOk x
theorem Lns.nil : Lns [] 0 := ⟨[], rfl, rfl, by simp⟩
theorem Lns.one {x : List UInt8} (h : LnOk x) : Lns (x ++ [10]) 1 := ⟨[x], rfl, by simp, by simpa using h⟩
theorem Lns.app {s t : List UInt8} {m n : Nat} (h : Lns s m) (g : Lns t n) : Lns (s ++ t) (m + n) := by
  obtain ⟨l1, e1, rfl, h1⟩ := h
  obtain ⟨l2, e2, rfl, h2⟩ := g
  refine ⟨l1 ++ l2, by simp [e1, e2], by simp, fun x hx => ?_⟩
  rcases List.mem_append.1 hx with hx | hx
  · exact h1 x hx
  · exact h2 x hx
theorem Lns.flat {α : Type} {g : α → List UInt8} {c : α → Nat} : ∀ {l : List α}, (∀ x ∈ l, Lns (g x) (c x)) → Lns (l.flatMap g) (l.map c).sum
  | [], _ => Lns.nil
  | x :: r, h => by
    rw [List.flatMap_cons, List.map_cons, List.sum_cons]
    exact (h x (by simp)).app (Lns.flat fun y hy => h y (by simp [hy]))
theorem Lns.flat1 {α : Type} {g : α → List UInt8} {l : List α} (h : ∀ x ∈ l, Lns (g x) 1) : Lns (l.flatMap g) l.length := by
  have := Lns.flat (c := fun _ => 1) h
  have e : (l.map fun _ => 1).sum = l.length := by
    clear this h
    induction l with
    | nil => rfl
    | cons x r ih => rw [List.map_cons, List.sum_cons, ih, List.length_cons]; omega
  rwa [e] at this
theorem no10 {x : List UInt8} (h : (x.all fun c => decide (c ≠ 10)) = true) : ∀ c ∈ x, c ≠ 10 := fun c hc => of_decide_eq_true (List.all_eq_true.1 h c hc)
theorem Wrd.no {x : List UInt8} (h : Wrd x) : ∀ c ∈ x, c ≠ 10 := fun c hc => (h.2 c hc).1
theorem noApp {x y : List UInt8} (h : ∀ c ∈ x, c ≠ 10) (g : ∀ c ∈ y, c ≠ 10) : ∀ c ∈ x ++ y, c ≠ 10 := fun c hc => by
  rcases List.mem_append.1 hc with hc | hc
  · exact h c hc
  · exact g c hc
def Prg.lines (p : Prg) : Nat := p.vars.length + p.muts.length + p.conds.length + (p.funcs.map fun f => f.2.length + 2).sum + p.thr.length
/-- The text of a program without an error has as many lines as stated. -/
theorem txtLns {p : Prg} (hv : p.Vld) : Lns p.txt p.lines := by
  unfold Prg.txt Prg.lines
  refine ((((Lns.flat1 fun v h => ?_).app (Lns.flat1 fun v h => ?_)).app (Lns.flat1 fun v h => ?_)).app (Lns.flat fun f h => ?_)).app (Lns.flat1 fun v h => ?_)
  · have e : lVar v = (([118, 97, 114, 32] ++ v.1.data.toList ++ [32]) ++ Lib.itoa v.2) ++ [10] := by simp [lVar]
    rw [e]
    exact Lns.one (LnOk.join (noApp (noApp (no10 rfl) (nameWrd (hv.nv v h)).no) (no10 rfl)) (itWrd _))
  · have e : lMut v = ([109, 117, 116, 101, 120, 32] ++ v.data.toList) ++ [10] := by simp [lMut]
    rw [e]
    exact Lns.one (LnOk.join (no10 rfl) (nameWrd (hv.nm v h)))
  · have e : lCon v = ([99, 111, 110, 100, 32] ++ v.data.toList) ++ [10] := by simp [lCon]
    rw [e]
    exact Lns.one (LnOk.join (no10 rfl) (nameWrd (hv.nc v h)))
  · have e1 : Lns (lFun f.1) 1 := by
      have e : lFun f.1 = ([102, 117, 110, 99, 32] ++ f.1.data.toList) ++ [10] := by simp [lFun]
      rw [e]
      exact Lns.one (LnOk.join (no10 rfl) (nameWrd (hv.nf f h)))
    have e2 : Lns (f.2.flatMap (lIns p)) f.2.length := Lns.flat1 fun i hi => by
      have e : lIns p i = ([32, 32] ++ catW (mnOf i.op).data.toList (p.lws i)) ++ [10] := by simp [lIns, hv.insT h hi, Wd.ok]
      rw [e]
      refine Lns.one ?_
      have hc := catLn (mnOfWrd (I8.good (hv.ins h hi).1).op) (ws := (p.lws i).map (·.t)) fun x hx => by
        obtain ⟨y, hy, rfl⟩ := List.mem_map.1 hx
        exact hv.lwW h hi y hy
      obtain ⟨y, c, e3, h3⟩ := hc.2
      refine ⟨noApp (no10 rfl) hc.1, [32, 32] ++ y, c, ?_, h3⟩
      rw [List.append_assoc, ← e3]; rfl
    have e3 : Lns lEnd 1 := Lns.one (x := [101, 110, 100]) (by
      have := LnOk.join (a := []) (x := [101, 110, 100]) (by simp) (wrdDec _ rfl)
      simpa using this)
    have := (e1.app e2).app e3
    have e : f.2.length + 2 = 1 + f.2.length + 1 := by omega
    rw [e]
    exact this
  · have e : lThr p v = (([116, 104, 114, 101, 97, 100, 32] ++ (p.fN.getD v.1.toNat ⟨#[]⟩).data.toList ++ [32]) ++ Lib.itoa v.2) ++ [10] := by simp [lThr]
    rw [e]
    exact Lns.one (LnOk.join (noApp (noApp (no10 rfl) (nameWrd (thrName hv h)).no) (no10 rfl)) (itWrd _))
theorem cntNo {x : List UInt8} (h : ∀ c ∈ x, c ≠ 10) : x.count 10 = 0 := List.count_eq_zero.2 fun hm => h 10 hm rfl
theorem countL : ∀ ls : List (List UInt8), (∀ x ∈ ls, LnOk x) → (ls.flatMap fun x => x ++ [10]).count 10 = ls.length
  | [], _ => rfl
  | x :: r, hl => by
    rw [List.flatMap_cons, List.count_append, List.count_append, cntNo (hl x (by simp)).1, countL r fun y hy => hl y (by simp [hy]), List.length_cons]
    simp
    omega
theorem Lns.count {t : List UInt8} {n : Nat} (h : Lns t n) : t.count 10 = n := by
  obtain ⟨ls, e1, e, hl⟩ := h
  rw [e, ← e1]
  exact countL ls hl
theorem aheadL : ∀ ls : List (List UInt8), (∀ x ∈ ls, LnOk x) → ∀ i : Nat, (ls.flatMap fun x => x ++ [10])[i]? = some 10 → ∃ (j : Nat) (c : UInt8), i = j + 1 ∧ (ls.flatMap fun x => x ++ [10])[j]? = some c ∧ c ≠ 10 ∧ c ≠ 32
  | [], _, i, hi => by simp at hi
  | x :: r, hl, i, hi => by
    rw [List.flatMap_cons] at hi ⊢
    obtain ⟨h1, y, c, e, hc⟩ := hl x (by simp)
    by_cases hlt : i < x.length
    · rw [List.append_assoc, List.getElem?_append_left hlt, List.getElem?_eq_getElem hlt] at hi
      injection hi with hi
      exact absurd hi (h1 _ (List.getElem_mem hlt))
    · by_cases heq : i = x.length
      · subst heq
        refine ⟨y.length, c, by rw [e]; simp, ?_, h1 c (by rw [e]; simp), hc⟩
        rw [e, List.append_assoc, List.append_assoc, List.getElem?_append_right (Nat.le_refl _)]
        simp
      · rw [List.getElem?_append_right (by simp; omega)] at hi
        obtain ⟨j, c', e1, e2, e3⟩ := aheadL r (fun z hz => hl z (by simp [hz])) _ hi
        refine ⟨(x ++ [10]).length + j, c', by simp at e1 ⊢; omega, ?_, e3⟩
        rw [List.getElem?_append_right (by omega), Nat.add_sub_cancel_left, e2]
/-- Ahead of a line feed stands neither a line feed nor a blank. -/
theorem Lns.ahead {t : List UInt8} {n : Nat} (h : Lns t n) : ∀ i : Nat, t[i]? = some 10 → ∃ (j : Nat) (c : UInt8), i = j + 1 ∧ t[j]? = some c ∧ c ≠ 10 ∧ c ≠ 32 := by
  obtain ⟨ls, _, e, hl⟩ := h
  subst e
  exact aheadL ls hl
theorem Lns.last {t : List UInt8} {n : Nat} (h : Lns t n) (hn : 0 < n) : ∃ y, t = y ++ [10] := by
  obtain ⟨ls, rfl, rfl, -⟩ := h
  obtain ⟨l, x, rfl⟩ : ∃ l x, ls = l ++ [x] := ⟨ls.dropLast, ls.getLast (by intro e; rw [e] at hn; simp at hn), (List.dropLast_concat_getLast _).symm⟩
  exact ⟨l.flatMap (fun x => x ++ [10]) ++ x, by simp⟩
end Go.Proofs.YtnckpjcfgeajbaaDoor

namespace Go.Proofs.YtnckpjcfgeajbaaDoor
open Go.RowKit (wrap32 wrap64)

theorem nmFnodup : ∀ (l seen : List ByteArray) (k : Nat), (nmF seen l k).1 = 0 → (∀ s ∈ l, s ∉ seen) ∧ l.Nodup
  | [], _, _, _ => ⟨by simp, by simp⟩
  | x :: t, seen, k, h => by
    rw [nmF] at h
    split at h
    · exact absurd h (by simp)
    · split at h
      · exact absurd h (by simp)
      · rename_i h1 h2
        obtain ⟨g1, g2⟩ := nmFnodup t _ _ h
        have hx : x ∉ seen := fun hx => h2 (inSIff.2 hx)
        refine ⟨fun s hs => ?_, ?_⟩
        · rcases List.mem_cons.1 hs with rfl | hs
          · exact hx
          · exact fun hm => g1 s hs (by simp [hm])
        · rw [List.nodup_cons]
          exact ⟨fun hm => g1 x hm (by simp), g2⟩
structure Prg.Dst (p : Prg) : Prop where
  v : p.vN.Nodup
  m : p.muts.Nodup
  c : p.conds.Nodup
  f : p.fN.Nodup
theorem Prg.dst {p : Prg} (h : p.chk.1 = 0) : p.Dst := by
  unfold Prg.chk at h
  split at h
  · rename_i h1; exact absurd h h1
  rename_i h1
  have h1 : p.nmE.1 = 0 := by simpa using h1
  clear h
  unfold Prg.nmE at h1
  split at h1
  · rename_i g; exact absurd h1 g
  rename_i g1
  split at h1
  · rename_i g; exact absurd h1 g
  rename_i g2
  split at h1
  · rename_i g; exact absurd h1 g
  rename_i g3
  have g1 : (nmF [] (p.vars.map (·.1)) 0).1 = 0 := by simpa using g1
  have g2 : (nmF [] p.muts 0).1 = 0 := by simpa using g2
  have g3 : (nmF [] p.conds 0).1 = 0 := by simpa using g3
  exact ⟨(nmFnodup _ _ _ g1).2, (nmFnodup _ _ _ g2).2, (nmFnodup _ _ _ g3).2, (nmFnodup _ _ _ h1).2⟩
/-- What stands before the first c. -/
theorem cancel {c : UInt8} : ∀ {x y s t : List UInt8}, (∀ d ∈ x, d ≠ c) → (∀ d ∈ y, d ≠ c) → x ++ c :: s = y ++ c :: t → x = y ∧ s = t
  | [], [], s, t, _, _, h => by simpa using h
  | [], b :: y, s, t, _, hy, h => by
    rw [List.nil_append, List.cons_append] at h
    injection h with h1 h2
    exact absurd h1.symm (hy b (by simp))
  | a :: x, [], s, t, hx, _, h => by
    rw [List.nil_append, List.cons_append] at h
    injection h with h1 h2
    exact absurd h1 (hx a (by simp))
  | a :: x, b :: y, s, t, hx, hy, h => by
    rw [List.cons_append, List.cons_append] at h
    injection h with h1 h2
    obtain ⟨e1, e2⟩ := cancel (fun d hd => hx d (by simp [hd])) (fun d hd => hy d (by simp [hd])) h2
    exact ⟨by rw [h1, e1], e2⟩
theorem Wrd.no32 {x : List UInt8} (h : Wrd x) : ∀ c ∈ x, c ≠ 32 := fun c hc => (h.2 c hc).2
/-- What a text of pieces that begin with one character is made of. -/
theorem peel {α : Type} {g : α → List UInt8} {P : α → Prop} {hd : UInt8} (gi : ∀ x y s t, P x → P y → g x ++ s = g y ++ t → x = y ∧ s = t) (gh : ∀ x, P x → ∃ r, g x = hd :: r) :
    ∀ {l m : List α} {s t : List UInt8}, (∀ x ∈ l, P x) → (∀ x ∈ m, P x) → s.head? ≠ some hd → t.head? ≠ some hd → l.flatMap g ++ s = m.flatMap g ++ t → l = m ∧ s = t
  | [], [], s, t, _, _, _, _, h => by simpa using h
  | [], y :: m, s, t, _, hm, hs, _, h => by
    obtain ⟨r, e⟩ := gh y (hm y (by simp))
    rw [List.flatMap_cons, e] at h
    simp at h
    rw [h] at hs
    simp at hs
  | x :: l, [], s, t, hl, _, _, ht, h => by
    obtain ⟨r, e⟩ := gh x (hl x (by simp))
    rw [List.flatMap_cons, e] at h
    simp at h
    rw [← h] at ht
    simp at ht
  | x :: l, y :: m, s, t, hl, hm, hs, ht, h => by
    rw [List.flatMap_cons, List.flatMap_cons, List.append_assoc, List.append_assoc] at h
    obtain ⟨e1, e2⟩ := gi x y _ _ (hl x (by simp)) (hm y (by simp)) h
    obtain ⟨e3, e4⟩ := peel gi gh (fun z hz => hl z (by simp [hz])) (fun z hz => hm z (by simp [hz])) hs ht e2
    exact ⟨by rw [e1, e3], e4⟩

/-! Numbers. -/
def dval (l : List UInt8) : Nat := l.foldl (fun a c => 10 * a + (c.toNat - 48)) 0
theorem dvalDec (n : Nat) : dval (Lib.decDigits n) = n := by
  induction n using Nat.strongRecOn with
  | _ n ih =>
    have dig : ∀ d, d < 10 → (UInt8.ofNat (48 + d)).toNat - 48 = d := by decide
    rw [Lib.decDigits]
    split
    · rename_i h
      show 10 * 0 + ((UInt8.ofNat (48 + n)).toNat - 48) = n
      rw [dig n h]; omega
    · have h1 := ih (n / 10) (by omega)
      unfold dval at h1 ⊢
      rw [List.foldl_append, h1]
      show 10 * (n / 10) + ((UInt8.ofNat (48 + n % 10)).toNat - 48) = n
      rw [dig _ (Nat.mod_lt _ (by omega))]; omega
theorem decHead (n : Nat) : ∀ c ∈ Lib.decDigits n, c ≠ 45 := by
  induction n using Nat.strongRecOn with
  | _ n ih =>
    have dig : ∀ d, d < 10 → UInt8.ofNat (48 + d) ≠ 45 := by decide
    intro c hc
    rw [Lib.decDigits] at hc
    split at hc
    · rename_i h
      rw [List.mem_singleton.1 hc]
      exact dig n h
    · rcases List.mem_append.1 hc with hc | hc
      · exact ih (n / 10) (by omega) c hc
      · rw [List.mem_singleton.1 hc]
        exact dig _ (Nat.mod_lt _ (by omega))
theorem itInj {m n : Int} (h : Lib.itoa m = Lib.itoa n) : m = n := by
  unfold Lib.itoa at h
  split at h <;> split at h
  · injection h with _ h
    have := congrArg dval h
    rw [dvalDec, dvalDec] at this
    omega
  · exact absurd rfl (decHead _ 45 (by rw [← h]; simp))
  · exact absurd rfl (decHead _ 45 (by rw [h]; simp))
  · have := congrArg dval h
    rw [dvalDec, dvalDec] at this
    omega
theorem baInj {a b : ByteArray} (h : a.data.toList = b.data.toList) : a = b := baExt h
theorem consInj {pre x y s t : List UInt8} (h : pre ++ x ++ s = pre ++ y ++ t) : x ++ s = y ++ t := by
  rw [List.append_assoc, List.append_assoc] at h
  exact List.append_cancel_left h

/-! Words. -/
theorem joinInj : ∀ {ws vs : List (List UInt8)} {a b : List UInt8}, (∀ c ∈ a, c ≠ 32) → (∀ c ∈ b, c ≠ 32) → (∀ x ∈ ws, ∀ c ∈ x, c ≠ 32) → (∀ x ∈ vs, ∀ c ∈ x, c ≠ 32) → a ++ Lib.joinTail [32] ws = b ++ Lib.joinTail [32] vs → a = b ∧ ws = vs
  | [], [], a, b, _, _, _, _, h => by simpa [Lib.joinTail] using h
  | [], v :: vs, a, b, ha, _, _, _, h => by
    have : (32 : UInt8) ∈ a := by
      have e : a = b ++ Lib.joinTail [32] (v :: vs) := by simpa [Lib.joinTail] using h
      rw [e]; simp [Lib.joinTail]
    exact absurd rfl (ha _ this)
  | x :: ws, [], a, b, _, hb, _, _, h => by
    have : (32 : UInt8) ∈ b := by
      have e : a ++ Lib.joinTail [32] (x :: ws) = b := by simpa [Lib.joinTail] using h
      rw [← e]; simp [Lib.joinTail]
    exact absurd rfl (hb _ this)
  | x :: ws, v :: vs, a, b, ha, hb, hw, hv, h => by
    have e1 : ∀ (y : List UInt8) (r : List (List UInt8)), Lib.joinTail [32] (y :: r) = 32 :: (y ++ Lib.joinTail [32] r) := fun y r => by simp [Lib.joinTail]
    rw [e1, e1] at h
    obtain ⟨g1, g2⟩ := cancel ha hb h
    obtain ⟨g3, g4⟩ := joinInj (hw x (by simp)) (hv v (by simp)) (fun y hy => hw y (by simp [hy])) (fun y hy => hv y (by simp [hy])) g2
    exact ⟨g1, by rw [g3, g4]⟩
theorem obInj {l : List ByteArray} (hn : l.Nodup) {j k : Int} (hj : (obW l j).e = 0) (hk : (obW l k).e = 0) (h : (obW l j).t = (obW l k).t) : j = k := by
  rcases obCases l j with ⟨bj, ej⟩ | ⟨_, ej⟩
  · rcases obCases l k with ⟨bk, ek⟩ | ⟨_, ek⟩
    · rw [ej, ek] at h
      have h : (l.getD j.toNat ⟨#[]⟩).data.toList = (l.getD k.toNat ⟨#[]⟩).data.toList := h
      have h := baInj h
      simp only [belB, Bool.and_eq_true, decide_eq_true_eq] at bj bk
      have hj' : j.toNat < l.length := by omega
      have hk' : k.toNat < l.length := by omega
      rw [List.getD_eq_getElem?_getD, List.getD_eq_getElem?_getD, List.getElem?_eq_getElem hj', List.getElem?_eq_getElem hk'] at h
      have := (List.getElem_inj hn).1 (show l[j.toNat] = l[k.toNat] from h)
      omega
    · rw [ek] at hk; exact absurd hk (by decide)
  · rw [ej] at hj; exact absurd hj (by decide)
theorem nmInj : ∀ i, i < 11 → ∀ j, j < 11 → (nm i).data.toList = (nm j).data.toList → i = j := by decide
theorem fnInj {f g : Int} (hf : fnOk f = true) (hg : fnOk g = true) (h : (nameOf f).data.toList = (nameOf g).data.toList) : f = g := by
  have hf : 1 ≤ f ∧ f ≤ 10 := by simpa [fnOk] using hf
  have hg : 1 ≤ g ∧ g ≤ 10 := by simpa [fnOk] using hg
  unfold nameOf at h
  rw [if_pos hf, if_pos hg] at h
  have := nmInj _ (by omega) _ (by omega) h
  omega
theorem ordInj {f g : Int} (hf : orOk f = true) (hg : orOk g = true) (h : (ornOf f).data.toList = (ornOf g).data.toList) : f = g := by
  have h1 : 0 ≤ f ∧ f ≤ 2 := by simpa [orOk] using hf
  have h2 : 0 ≤ g ∧ g ≤ 2 := by simpa [orOk] using hg
  unfold ornOf at h
  rw [if_pos hf, if_pos hg] at h
  have := orInj _ (by omega) _ (by omega) h
  omega
theorem mnOfInj {f g : Int} (h1 : 1 ≤ f ∧ f ≤ 22) (h2 : 1 ≤ g ∧ g ≤ 22) (h : (mnOf f).data.toList = (mnOf g).data.toList) : f = g := by
  unfold mnOf at h
  rw [if_pos (by simpa [opOk] using h1), if_pos (by simpa [opOk] using h2)] at h
  have := mnInj _ (by omega) _ (by omega) h
  omega
theorem mapCongr {α β : Type} {f g : α → β} : ∀ {l : List α}, l.map f = l.map g → ∀ x ∈ l, f x = g x
  | [], _, x, hx => by cases hx
  | a :: r, h, x, hx => by
    rw [List.map_cons, List.map_cons] at h
    injection h with h1 h2
    rcases List.mem_cons.1 hx with rfl | hx
    · exact h1
    · exact mapCongr h2 x hx
set_option maxHeartbeats 2000000 in
/-- An instruction is determined by its text. -/
theorem insInj {p q : Prg} (dp : p.Dst) (ev : p.vN = q.vN) (em : p.muts = q.muts) (ec : p.conds = q.conds) (ef : p.fN = q.fN) {i j : I8} (hi : i.chk = 0) (hj : j.chk = 0) (ai : allW (p.lws i) = true) (aj : allW (q.lws j) = true) (wi : ∀ x ∈ p.lws i, Wrd x.t) (wj : ∀ x ∈ q.lws j, Wrd x.t)
    (h : catW (mnOf i.op).data.toList (p.lws i) = catW (mnOf j.op).data.toList (q.lws j)) : i = j := by
  have gi := I8.good hi
  have gj := I8.good hj
  unfold catW at h
  obtain ⟨h1, h2⟩ := joinInj (mnOfWrd gi.op).no32 (mnOfWrd gj.op).no32 (fun x hx => by
      obtain ⟨y, hy, rfl⟩ := List.mem_map.1 hx
      exact (wi y hy).no32) (fun x hx => by
      obtain ⟨y, hy, rfl⟩ := List.mem_map.1 hx
      exact (wj y hy).no32) h
  have eop := mnOfInj gi.op gj.op h1
  have hql : ∀ c, q.lw j c = p.lw j c := fun c => by unfold Prg.lw; rw [ev, em, ec, ef]
  have ee : q.lws j = (opl i.op.toNat).map (p.lw j) := by unfold Prg.lws; rw [eop]; exact List.map_congr_left fun c _ => hql c
  rw [ee] at h2 aj
  unfold Prg.lws at h2 ai
  rw [List.map_map, List.map_map] at h2
  have hw := mapCongr h2
  have zi : ∀ c ∈ opl i.op.toNat, (p.lw i c).e = 0 := fun c hc => by
    have := List.all_eq_true.1 ai _ (List.mem_map_of_mem hc)
    simpa using this
  have zj : ∀ c ∈ opl i.op.toNat, (p.lw j c).e = 0 := fun c hc => by
    have := List.all_eq_true.1 aj _ (List.mem_map_of_mem hc)
    simpa using this
  clear h h1 h2 ai aj wi wj ee hql
  have fi := gi.fs
  have fj := gj.fs
  have iu : ∀ f, i.u f = us i.op.toNat f := fun f => rfl
  have ju : ∀ f, j.u f = us i.op.toNat f := fun f => by unfold I8.u; rw [eop]
  have hfi := gi.fn
  have hfj := gj.fn
  have hoi := gi.ord
  have hoj := gj.ord
  simp only [I8.fs, I8.fOk, iu, ju, Bool.and_eq_true, Bool.or_eq_true, decide_eq_true_eq] at fi fj
  rw [iu] at hfi
  rw [ju] at hfj
  have hop := gi.op
  obtain ⟨op, a, b, c, obj, n, fn, ord⟩ := i
  obtain ⟨op', a', b', c', obj', n', fn', ord'⟩ := j
  simp only at eop fi fj hw zi zj hop hfi hfj hoi hoj
  subst eop
  clear gi gj hi hj iu ju
  obtain ⟨k, rfl⟩ : ∃ k : Nat, op = k := ⟨op.toNat, by omega⟩
  rw [Int.toNat_natCast] at hw zi zj fi fj hfi hfj
  have hk : k < 23 := by omega
  obtain ⟨⟨⟨⟨⟨⟨i0, i1⟩, i2⟩, i3⟩, i4⟩, i5⟩, i6⟩ := fi
  obtain ⟨⟨⟨⟨⟨⟨j0, j1⟩, j2⟩, j3⟩, j4⟩, j5⟩, j6⟩ := fj
  have u0 : ∀ k, k < 23 → us k 0 = true → (65 : UInt8) ∈ opl k := by decide +kernel
  have u1 : ∀ k, k < 23 → us k 1 = true → (66 : UInt8) ∈ opl k := by decide +kernel
  have u2 : ∀ k, k < 23 → us k 2 = true → (67 : UInt8) ∈ opl k := by decide +kernel
  have u3 : ∀ k, k < 23 → us k 3 = true → (118 : UInt8) ∈ opl k ∨ (109 : UInt8) ∈ opl k ∨ (99 : UInt8) ∈ opl k ∨ (102 : UInt8) ∈ opl k := by decide +kernel
  have u4 : ∀ k, k < 23 → us k 4 = true → (78 : UInt8) ∈ opl k ∨ (119 : UInt8) ∈ opl k := by decide +kernel
  have u5 : ∀ k, k < 23 → us k 5 = true → (70 : UInt8) ∈ opl k := by decide +kernel
  have u6 : ∀ k, k < 23 → us k 6 = true → (79 : UInt8) ∈ opl k := by decide +kernel
  have ea : a = a' := by
    cases hu : us k 0
    · rw [hu] at i0 j0
      have x : a = 0 := by simpa [I8.con] using i0
      have y : a' = 0 := by simpa [I8.con] using j0
      rw [x, y]
    · have := hw 65 (u0 k hk hu)
      have : 114 :: Lib.itoa a = 114 :: Lib.itoa a' := this
      injection this with _ this
      exact itInj this
  have eb : b = b' := by
    cases hu : us k 1
    · rw [hu] at i1 j1
      have x : b = 0 := by simpa [I8.con] using i1
      have y : b' = 0 := by simpa [I8.con] using j1
      rw [x, y]
    · have := hw 66 (u1 k hk hu)
      have : 114 :: Lib.itoa b = 114 :: Lib.itoa b' := this
      injection this with _ this
      exact itInj this
  have ec' : c = c' := by
    cases hu : us k 2
    · rw [hu] at i2 j2
      have x : c = 0 := by simpa [I8.con] using i2
      have y : c' = 0 := by simpa [I8.con] using j2
      rw [x, y]
    · have := hw 67 (u2 k hk hu)
      have : 114 :: Lib.itoa c = 114 :: Lib.itoa c' := this
      injection this with _ this
      exact itInj this
  have eo : obj = obj' := by
    cases hu : us k 3
    · rw [hu] at i3 j3
      have x : obj = 0 := by simpa [I8.con] using i3
      have y : obj' = 0 := by simpa [I8.con] using j3
      rw [x, y]
    · rcases u3 k hk hu with hc | hc | hc | hc
      · exact obInj dp.v (zi _ hc) (zj _ hc) (hw _ hc)
      · exact obInj dp.m (zi _ hc) (zj _ hc) (hw _ hc)
      · exact obInj dp.c (zi _ hc) (zj _ hc) (hw _ hc)
      · exact obInj dp.f (zi _ hc) (zj _ hc) (hw _ hc)
  have en : n = n' := by
    cases hu : us k 4
    · rw [hu] at i4 j4
      have x : n = 0 := by simpa [I8.con] using i4
      have y : n' = 0 := by simpa [I8.con] using j4
      rw [x, y]
    · rcases u4 k hk hu with hc | hc
      · exact itInj (hw _ hc)
      · exact obInj dp.m (zi _ hc) (zj _ hc) (hw _ hc)
  have efn : fn = fn' := by
    cases hu : us k 5
    · rw [hu] at i5 j5
      have x : fn = 0 := by simpa [I8.con] using i5
      have y : fn' = 0 := by simpa [I8.con] using j5
      rw [x, y]
    · rw [hu] at hfi hfj
      exact fnInj (by simpa using hfi) (by simpa using hfj) (hw _ (u5 k hk hu))
  have eor : ord = ord' := by
    cases hu : us k 6
    · rw [hu] at i6 j6
      have x : ord = 0 := by simpa [I8.con] using i6
      have y : ord' = 0 := by simpa [I8.con] using j6
      rw [x, y]
    · exact ordInj hoi hoj (hw _ (u6 k hk hu))
  rw [ea, eb, ec', eo, en, efn, eor]

/-! Programs. -/
def rIns (t : List UInt8) : List UInt8 := [32, 32] ++ (t ++ [10])
def rFun (r : List UInt8 × List (List UInt8)) : List UInt8 := ([102, 117, 110, 99, 32] ++ (r.1 ++ [10])) ++ r.2.flatMap rIns ++ lEnd
def rThr (r : List UInt8 × Int) : List UInt8 := [116, 104, 114, 101, 97, 100, 32] ++ r.1 ++ 32 :: (Lib.itoa r.2 ++ [10])
def Prg.rF (p : Prg) (f : ByteArray × List I8) : List UInt8 × List (List UInt8) := (f.1.data.toList, f.2.map fun i => (p.insT i).t)
def Prg.rT (p : Prg) (t : Int × Int) : List UInt8 × Int := ((p.fN.getD t.1.toNat ⟨#[]⟩).data.toList, t.2)
theorem flatMapMap {α β : Type} (f : α → β) (g : β → List UInt8) (l : List α) : (l.map f).flatMap g = l.flatMap fun x => g (f x) := by
  induction l with
  | nil => rfl
  | cons x r ih => rw [List.map_cons, List.flatMap_cons, List.flatMap_cons, ih]
theorem tFunR (p : Prg) (f : ByteArray × List I8) : tFun p f = rFun (p.rF f) := by
  unfold tFun rFun Prg.rF lFun
  rw [flatMapMap]
  rfl
theorem txtR (p : Prg) : p.txt = p.vars.flatMap lVar ++ (p.muts.flatMap lMut ++ (p.conds.flatMap lCon ++ ((p.funcs.map p.rF).flatMap rFun ++ ((p.thr.map p.rT).flatMap rThr ++ [])))) := by
  unfold Prg.txt
  rw [flatMapMap, flatMapMap]
  have : (p.funcs.flatMap fun x => rFun (p.rF x)) = p.funcs.flatMap (tFun p) := by
    congr 1
    funext f
    exact (tFunR p f).symm
  rw [this]
  simp only [List.append_assoc, List.append_nil]
  rfl
theorem headFlat {α : Type} {g : α → List UInt8} {hd c : UInt8} {l : List α} {s : List UInt8} (gh : ∀ x, ∃ r, g x = hd :: r) (hc : hd ≠ c) (hs : s.head? ≠ some c) : (l.flatMap g ++ s).head? ≠ some c := by
  cases l with
  | nil => simpa using hs
  | cons x r =>
    obtain ⟨y, e⟩ := gh x
    rw [List.flatMap_cons, e]
    simpa using hc
theorem hVar (x : ByteArray × Int) : ∃ r, lVar x = 118 :: r := ⟨_, rfl⟩
theorem hMut (x : ByteArray) : ∃ r, lMut x = 109 :: r := ⟨_, rfl⟩
theorem hCon (x : ByteArray) : ∃ r, lCon x = 99 :: r := ⟨_, rfl⟩
theorem hFun (x : List UInt8 × List (List UInt8)) : ∃ r, rFun x = 102 :: r := ⟨_, rfl⟩
theorem hThr (x : List UInt8 × Int) : ∃ r, rThr x = 116 :: r := ⟨_, rfl⟩
theorem hIns (x : List UInt8) : ∃ r, rIns x = 32 :: r := ⟨_, rfl⟩
def okF (r : List UInt8 × List (List UInt8)) : Prop := (∀ c ∈ r.1, c ≠ 10) ∧ ∀ t ∈ r.2, ∀ c ∈ t, c ≠ 10
theorem funInj (x y : List UInt8 × List (List UInt8)) (s t : List UInt8) (hx : okF x) (hy : okF y) (h : rFun x ++ s = rFun y ++ t) : x = y ∧ s = t := by
  obtain ⟨x1, x2⟩ := x
  obtain ⟨y1, y2⟩ := y
  unfold rFun at h
  simp only [List.append_assoc] at h
  have h := List.append_cancel_left h
  simp only [List.cons_append, List.nil_append] at h
  obtain ⟨e1, e2⟩ := cancel hx.1 hy.1 h
  have e1 : x1 = y1 := e1
  obtain ⟨e3, e4⟩ := peel (g := rIns) (P := fun z => ∀ c ∈ z, c ≠ 10) (hd := 32) (fun a b u v ha hb hh => by
    unfold rIns at hh
    simp only [List.append_assoc] at hh
    have hh := List.append_cancel_left hh
    simp only [List.cons_append, List.nil_append] at hh
    exact cancel ha hb hh) (fun a _ => hIns a) hx.2 hy.2 (by simp [lEnd]) (by simp [lEnd]) e2
  exact ⟨by rw [e1, show x2 = y2 from e3], List.append_cancel_left e4⟩
theorem Prg.Vld.okF {p : Prg} (hv : p.Vld) {f : ByteArray × List I8} (hf : f ∈ p.funcs) : okF (p.rF f) := by
  refine ⟨(nameWrd (hv.nf f hf)).no, fun t ht => ?_⟩
  obtain ⟨i, hi, rfl⟩ := List.mem_map.1 ht
  rw [hv.insT hf hi]
  exact (catLn (mnOfWrd (I8.good (hv.ins hf hi).1).op) (ws := (p.lws i).map (·.t)) fun x hx => by
    obtain ⟨y, hy, rfl⟩ := List.mem_map.1 hx
    exact hv.lwW hf hi y hy).1
theorem mapInj {α β : Type} {f g : α → β} : ∀ {l m : List α}, l.map f = m.map g → (∀ x ∈ l, ∀ y ∈ m, f x = g y → x = y) → l = m
  | [], [], _, _ => rfl
  | [], y :: m, h, _ => by simp at h
  | x :: l, [], h, _ => by simp at h
  | x :: l, y :: m, h, hi => by
    rw [List.map_cons, List.map_cons] at h
    injection h with h1 h2
    rw [hi x (by simp) y (by simp) h1, mapInj h2 fun a ha b hb => hi a (by simp [ha]) b (by simp [hb])]
theorem txtInj {p q : Prg} (cp : p.chk.1 = 0) (cq : q.chk.1 = 0) (h : p.txt = q.txt) : p = q := by
  have hp := p.vld cp
  have hq := q.vld cq
  have dp := p.dst cp
  rw [txtR, txtR] at h
  have t0 : ([] : List UInt8).head? ≠ some 116 := by simp
  have sT : ∀ (p : Prg) (c : UInt8), c ≠ 116 → ((p.thr.map p.rT).flatMap rThr ++ []).head? ≠ some c := fun p c hc => headFlat hThr (Ne.symm hc) (by simp)
  have sF : ∀ (p : Prg) (c : UInt8), c ≠ 116 → c ≠ 102 → ((p.funcs.map p.rF).flatMap rFun ++ ((p.thr.map p.rT).flatMap rThr ++ [])).head? ≠ some c := fun p c hc h2 => headFlat hFun (Ne.symm h2) (sT p c hc)
  have sC : ∀ (p : Prg) (c : UInt8), c ≠ 116 → c ≠ 102 → c ≠ 99 → (p.conds.flatMap lCon ++ ((p.funcs.map p.rF).flatMap rFun ++ ((p.thr.map p.rT).flatMap rThr ++ []))).head? ≠ some c := fun p c hc h2 h3 => headFlat hCon (Ne.symm h3) (sF p c hc h2)
  have sM : ∀ (p : Prg) (c : UInt8), c ≠ 116 → c ≠ 102 → c ≠ 99 → c ≠ 109 → (p.muts.flatMap lMut ++ (p.conds.flatMap lCon ++ ((p.funcs.map p.rF).flatMap rFun ++ ((p.thr.map p.rT).flatMap rThr ++ [])))).head? ≠ some c := fun p c hc h2 h3 h4 => headFlat hMut (Ne.symm h4) (sC p c hc h2 h3)
  obtain ⟨ev, h⟩ := peel (g := lVar) (P := fun v => nameB v.1 = true) (hd := 118) (fun x y s t hx hy hh => by
      unfold lVar at hh
      simp only [List.append_assoc] at hh
      have hh := List.append_cancel_left hh
      simp only [List.cons_append, List.nil_append, List.append_assoc] at hh
      obtain ⟨e1, e2⟩ := cancel (nameWrd hx).no32 (nameWrd hy).no32 hh
      obtain ⟨e3, e4⟩ := cancel (itWrd _).no (itWrd _).no e2
      exact ⟨Prod.ext (baInj e1) (itInj e3), e4⟩) (fun x _ => hVar x) hp.nv hq.nv (sM p _ (by decide) (by decide) (by decide) (by decide)) (sM q _ (by decide) (by decide) (by decide) (by decide)) h
  obtain ⟨em, h⟩ := peel (g := lMut) (P := fun v => nameB v = true) (hd := 109) (fun x y s t hx hy hh => by
      unfold lMut at hh
      simp only [List.append_assoc] at hh
      have hh := List.append_cancel_left hh
      simp only [List.cons_append, List.nil_append] at hh
      obtain ⟨e1, e2⟩ := cancel (nameWrd hx).no (nameWrd hy).no hh
      exact ⟨baInj e1, e2⟩) (fun x _ => hMut x) hp.nm hq.nm (sC p _ (by decide) (by decide) (by decide)) (sC q _ (by decide) (by decide) (by decide)) h
  obtain ⟨ec, h⟩ := peel (g := lCon) (P := fun v => nameB v = true) (hd := 99) (fun x y s t hx hy hh => by
      unfold lCon at hh
      simp only [List.append_assoc] at hh
      have hh := List.append_cancel_left hh
      simp only [List.cons_append, List.nil_append] at hh
      obtain ⟨e1, e2⟩ := cancel (nameWrd hx).no (nameWrd hy).no hh
      exact ⟨baInj e1, e2⟩) (fun x _ => hCon x) hp.nc hq.nc (sF p _ (by decide) (by decide)) (sF q _ (by decide) (by decide)) h
  obtain ⟨ef, h⟩ := peel (g := rFun) (P := okF) (hd := 102) funInj (fun x _ => hFun x) (fun x hx => by
      obtain ⟨f, hf, rfl⟩ := List.mem_map.1 hx
      exact hp.okF hf) (fun x hx => by
      obtain ⟨f, hf, rfl⟩ := List.mem_map.1 hx
      exact hq.okF hf) (sT p _ (by decide)) (sT q _ (by decide)) h
  obtain ⟨et, _⟩ := peel (g := rThr) (P := fun r => ∀ c ∈ r.1, c ≠ 32) (hd := 116) (fun x y s t hx hy hh => by
      unfold rThr at hh
      simp only [List.append_assoc] at hh
      have hh := List.append_cancel_left hh
      simp only [List.cons_append, List.nil_append, List.append_assoc] at hh
      obtain ⟨e1, e2⟩ := cancel hx hy hh
      obtain ⟨e3, e4⟩ := cancel (itWrd _).no (itWrd _).no e2
      exact ⟨Prod.ext e1 (itInj e3), e4⟩) (fun x _ => hThr x) (fun x hx => by
      obtain ⟨f, hf, rfl⟩ := List.mem_map.1 hx
      exact (nameWrd (thrName hp hf)).no32) (fun x hx => by
      obtain ⟨f, hf, rfl⟩ := List.mem_map.1 hx
      exact (nameWrd (thrName hq hf)).no32) t0 t0 h
  have evN : p.vN = q.vN := by unfold Prg.vN; rw [ev]
  have efN : p.fN = q.fN := by
    have := congrArg (List.map fun r : List UInt8 × List (List UInt8) => r.1) ef
    rw [List.map_map, List.map_map] at this
    unfold Prg.fN
    refine mapInj (f := fun s : ByteArray => s.data.toList) (g := fun s : ByteArray => s.data.toList) ?_ fun x _ y _ hxy => baInj hxy
    rw [List.map_map, List.map_map]
    exact this
  have eF : p.funcs = q.funcs := mapInj ef fun f hf g hg hfg => by
    obtain ⟨f1, f2⟩ := f
    obtain ⟨g1, g2⟩ := g
    injection hfg with a1 a2
    have a1 : f1 = g1 := baInj a1
    have a2 : f2 = g2 := mapInj a2 fun i hi j hj hij => by
      have hij : (p.insT i).t = (q.insT j).t := hij
      rw [hp.insT hf hi, hq.insT hg hj] at hij
      obtain ⟨i1, i2, _⟩ := hp.ins hf hi
      obtain ⟨j1, j2, _⟩ := hq.ins hg hj
      exact insInj dp evN em ec efN i1 j1 i2 j2 (hp.lwW hf hi) (hq.lwW hg hj) hij
    rw [a1, a2]
  have eT : p.thr = q.thr := mapInj et fun s hs t ht hst => by
    obtain ⟨s1, s2⟩ := s
    obtain ⟨t1, t2⟩ := t
    injection hst with a1 a2
    have a2 : s2 = t2 := a2
    have bs := (hp.te _ hs).1
    have bt := (hq.te _ ht).1
    have lp : p.fN.length = p.funcs.length := by simp [Prg.fN]
    have lq : q.fN.length = q.funcs.length := by simp [Prg.fN]
    rw [← lp] at bs
    rw [← lq, ← efN] at bt
    rw [← efN] at a1
    have : s1 = t1 := obInj dp.f (by unfold obW; rw [if_pos bs]; rfl) (by unfold obW; rw [if_pos bt]; rfl) (by
      unfold obW
      rw [if_pos bs, if_pos bt]
      exact a1)
    rw [this, a2]
  obtain ⟨v, m, c, f, t⟩ := p
  obtain ⟨v', m', c', f', t'⟩ := q
  simp only at ev em ec eF eT
  subst ev; subst em; subst ec; subst eF; subst eT
  rfl
end Go.Proofs.YtnckpjcfgeajbaaDoor
