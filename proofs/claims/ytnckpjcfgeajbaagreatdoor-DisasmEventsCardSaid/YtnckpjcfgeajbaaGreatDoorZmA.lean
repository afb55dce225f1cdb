/-
  The instructions of a program without an error have texts; how long they are, and how long the program's text is.
-/
import Derived.Test.YtnckpjcfgeajbaaGreatDoorPgM
import Derived.Test.YtnckpjcfgeajbaaGreatDoorInsN
import Derived.Lib.Join
import Derived.Lib.ItoaNum
import Derived.Lib.ItoaLen
import Derived.Test.YtnckpjcfgeajbaaGreatDoorPgW
namespace Go.Proofs.YtnckpjcfgeajbaaGreatDoor
open Go.RowKit (wrap32 wrap64)

/-- What a word, a sentence or a call gives: a text, or an error (then the text is empty). -/
structure Wd where
  t : List UInt8
  e : Int
deriving DecidableEq
def Wd.ok (t : List UInt8) : Wd := ⟨t, 0⟩
def Wd.no (e : Int) : Wd := ⟨[], e⟩
def rgW (n : Int) : Wd := .ok (114 :: Lib.itoa n)
def nuW (n : Int) : Wd := if isVal n then .ok (Lib.itoa n) else .no 2
def tgW (n : Int) : Wd := if belB n 65 then .ok (Lib.itoa n) else .no 12
def knW (s : ByteArray) (e : Int) : Wd := if s.toList.isEmpty then .no e else .ok s.data.toList
def obW (l : List ByteArray) (k : Int) : Wd := if belB k l.length then .ok (l.getD k.toNat ⟨#[]⟩).data.toList else .no 11
def Prg.vN (p : Prg) : List ByteArray := p.vars.map (·.1)
def Prg.fN (p : Prg) : List ByteArray := p.funcs.map (·.1)
/-- The words of an instruction behind its name. -/
def Prg.opW (p : Prg) (i : I8) : List Wd :=
  match i.op.toNat with
  | 1 => [rgW i.a, nuW i.n]
  | 2 => [rgW i.a, rgW i.b]
  | 3 => [knW (nameOf i.fn) 8, rgW i.a, rgW i.b, rgW i.c]
  | 4 => [tgW i.n]
  | 5 => [rgW i.b, tgW i.n]
  | 6 => [rgW i.b]
  | 8 => [rgW i.a, obW p.vN i.obj, knW (ornOf i.ord) 13]
  | 9 => [obW p.vN i.obj, rgW i.b, knW (ornOf i.ord) 13]
  | 10 => [rgW i.a, obW p.vN i.obj, rgW i.b, knW (ornOf i.ord) 13]
  | 11 => [rgW i.a, obW p.vN i.obj, rgW i.b, knW (ornOf i.ord) 13]
  | 12 => [rgW i.a, obW p.vN i.obj, rgW i.b, rgW i.c, knW (ornOf i.ord) 13]
  | 14 => [rgW i.a, obW p.vN i.obj, knW (nameOf i.fn) 8, rgW i.b, knW (ornOf i.ord) 13]
  | 15 => [obW p.muts i.obj]
  | 16 => [obW p.muts i.obj]
  | 17 => [rgW i.a, obW p.muts i.obj]
  | 18 => [obW p.conds i.obj, obW p.muts i.n]
  | 19 => [obW p.conds i.obj]
  | 20 => [obW p.conds i.obj]
  | 21 => [rgW i.a, obW p.fN i.obj, rgW i.b]
  | 22 => [rgW i.b]
  | _ => []
/-- A first word and others behind blanks, or their first error. -/
def snt (acc : List UInt8) : List Wd → Wd
  | [] => .ok acc
  | x :: r => if x.e = 0 then snt (acc ++ 32 :: x.t) r else .no x.e
def Prg.insT (p : Prg) (i : I8) : Wd := snt (mnOf i.op).data.toList (p.opW i)
/-- What Instruction gives. -/
def Prg.insR (p : Prg) (i : I8) : Wd := if p.chk.1 ≠ 0 then .no p.chk.1 else if i.chk ≠ 0 then .no i.chk else p.insT i

def lVar (v : ByteArray × Int) : List UInt8 := [118, 97, 114, 32] ++ v.1.data.toList ++ 32 :: (Lib.itoa v.2 ++ [10])
def lMut (m : ByteArray) : List UInt8 := [109, 117, 116, 101, 120, 32] ++ (m.data.toList ++ [10])
def lCon (m : ByteArray) : List UInt8 := [99, 111, 110, 100, 32] ++ (m.data.toList ++ [10])
def lFun (m : ByteArray) : List UInt8 := [102, 117, 110, 99, 32] ++ (m.data.toList ++ [10])
def lIns (p : Prg) (i : I8) : List UInt8 := [32, 32] ++ ((p.insT i).t ++ [10])
def lEnd : List UInt8 := [101, 110, 100, 10]
def lThr (p : Prg) (t : Int × Int) : List UInt8 := [116, 104, 114, 101, 97, 100, 32] ++ (p.fN.getD t.1.toNat ⟨#[]⟩).data.toList ++ 32 :: (Lib.itoa t.2 ++ [10])
def tFun (p : Prg) (f : ByteArray × List I8) : List UInt8 := lFun f.1 ++ f.2.flatMap (lIns p) ++ lEnd
def Prg.txt (p : Prg) : List UInt8 := p.vars.flatMap lVar ++ p.muts.flatMap lMut ++ p.conds.flatMap lCon ++ p.funcs.flatMap (tFun p) ++ p.thr.flatMap (lThr p)
/-- What Program gives. -/
def Prg.disR (p : Prg) : Wd := if p.chk.1 ≠ 0 then .no p.chk.1 else if 16384 < p.txt.length then .no 4 else .ok p.txt

/-- An event: its nine fields. -/
structure E9 where
  ag : Int
  ix : Int
  kd : Int
  ob : Int
  mu : Int
  en : Int
  od : Int
  rd : Int
  wr : Int
def evTab : List ByteArray := [⟨#[]⟩, ⟨#[108, 111, 97, 100]⟩, ⟨#[115, 116, 111, 114, 101]⟩, ⟨#[98, 117, 102, 102, 101, 114]⟩, ⟨#[102, 108, 117, 115, 104]⟩, ⟨#[117, 112, 100, 97, 116, 101]⟩, ⟨#[109, 105, 115, 115]⟩, ⟨#[102, 101, 110, 99, 101]⟩, ⟨#[97, 119, 97, 105, 116]⟩, ⟨#[108, 111, 99, 107]⟩, ⟨#[117, 110, 108, 111, 99, 107]⟩, ⟨#[116, 114, 121, 108, 111, 99, 107]⟩, ⟨#[119, 97, 105, 116]⟩, ⟨#[119, 97, 107, 101]⟩, ⟨#[115, 105, 103, 110, 97, 108]⟩, ⟨#[98, 114, 111, 97, 100, 99, 97, 115, 116]⟩, ⟨#[115, 112, 97, 119, 110]⟩, ⟨#[106, 111, 105, 110]⟩]
def evn (k : Nat) : ByteArray := evTab.getD k ⟨#[]⟩
def entryB : List UInt8 := [101, 110, 116, 114, 121]
/-- The words of an event behind the name of its kind. -/
def Prg.evW (p : Prg) (x : E9) : List Wd :=
  match x.kd.toNat with
  | 1 => if x.en = -1 then [obW p.vN x.ob, knW (ornOf x.od) 13, nuW x.rd] else [obW p.vN x.ob, knW (ornOf x.od) 13, nuW x.rd, .ok entryB, nuW x.en]
  | 2 => [obW p.vN x.ob, knW (ornOf x.od) 13, nuW x.wr]
  | 3 => [obW p.vN x.ob, knW (ornOf x.od) 13, nuW x.wr, nuW x.en]
  | 4 => [obW p.vN x.ob, nuW x.wr, nuW x.en]
  | 5 => [obW p.vN x.ob, knW (ornOf x.od) 13, nuW x.rd, nuW x.wr]
  | 6 => [obW p.vN x.ob, knW (ornOf x.od) 13, nuW x.rd]
  | 8 => if x.en = -1 then [obW p.vN x.ob, knW (ornOf x.od) 13, nuW x.rd] else [obW p.vN x.ob, knW (ornOf x.od) 13, nuW x.rd, .ok entryB, nuW x.en]
  | 9 => [obW p.muts x.ob]
  | 10 => [obW p.muts x.ob]
  | 11 => [obW p.muts x.ob, nuW x.rd]
  | 12 => [obW p.conds x.ob, obW p.muts x.mu]
  | 13 => [obW p.conds x.ob]
  | 14 => [obW p.conds x.ob, nuW x.rd]
  | 15 => [obW p.conds x.ob, nuW x.rd]
  | 16 => [nuW x.ob]
  | 17 => [nuW x.ob]
  | _ => []
/-- The agent and the index. -/
def E9.stp (x : E9) : List UInt8 := (if x.ag < 0 then Lib.itoa (-x.ag - 1) ++ [98] else Lib.itoa x.ag) ++ 46 :: Lib.itoa x.ix
def E9.bad (x : E9) : Bool := !isVal x.ag || !isVal x.ix || decide (x.ix < 0)
def Prg.evT (p : Prg) (x : E9) : Wd := snt (evn x.kd.toNat).data.toList (p.evW x)
/-- What Event gives. -/
def Prg.evR (p : Prg) (x : E9) : Wd :=
  if p.chk.1 ≠ 0 then .no p.chk.1 else if x.kd < 1 ∨ 17 < x.kd then .no 8 else if (p.evT x).e ≠ 0 then .no (p.evT x).e else
  if x.bad = true then .no 2 else .ok (x.stp ++ 32 :: (p.evT x).t)

theorem nuW_ok {n : Int} (h : isVal n = true) : nuW n = .ok (Lib.itoa n) := by unfold nuW; rw [if_pos h]
theorem isValNOk {n : Int} : nOk n = isVal n := by
  unfold nOk isVal wrap32
  rw [Bool.eq_iff_iff]
  simp only [decide_eq_true_eq, Bool.and_eq_true]
  omega
theorem sntAll {acc : List UInt8} : ∀ {ws : List Wd}, (∀ x ∈ ws, x.e = 0) → snt acc ws = .ok (acc ++ Lib.joinTail [32] (ws.map (·.t)))
  | [], _ => by simp [snt, Lib.joinTail]
  | x :: r, h => by
    rw [snt, if_pos (h x (by simp)), sntAll fun y hy => h y (by simp [hy])]
    simp [Lib.joinTail]
theorem sntErr {acc : List UInt8} : ∀ {ws : List Wd}, (snt acc ws).e ≠ 0 → snt acc ws = .no (snt acc ws).e
  | [], h => absurd rfl h
  | x :: r, h => by
    rw [snt] at h ⊢
    split at h
    · rename_i hx
      rw [if_pos hx]
      exact sntErr h
    · rename_i hx
      rw [if_neg hx]
      rfl

/-! The example. -/
def dsX : Prg := ⟨[(⟨#[120]⟩, 0)], [], [], [(⟨#[102]⟩, [⟨8, 1, 0, 0, 0, 0, 0, 2⟩, ⟨5, 0, 1, 0, 0, 0, 0, 0⟩])], [(0, 3)]⟩
def dsT : List UInt8 := [118, 97, 114, 32, 120, 32, 48, 10, 102, 117, 110, 99, 32, 102, 10, 32, 32, 108, 111, 97, 100, 32, 114, 49, 32, 120, 32, 114, 101, 108, 97, 99, 113, 10, 32, 32, 98, 114, 97, 110, 99, 104, 32, 114, 49, 32, 48, 10, 101, 110, 100, 10, 116, 104, 114, 101, 97, 100, 32, 102, 32, 51, 10]
theorem dsDis : dsX.disR = .ok dsT := by decide +kernel
def dsE1 : E9 := ⟨0, 2, 3, 0, -1, 1, 0, 0, 5⟩
def dsE2 : E9 := ⟨-1, 0, 4, 0, -1, 1, 0, 0, 5⟩
theorem dsEv1 : dsX.evR dsE1 = .ok [48, 46, 50, 32, 98, 117, 102, 102, 101, 114, 32, 120, 32, 112, 108, 97, 105, 110, 32, 53, 32, 49] := by decide +kernel
theorem dsEv2 : dsX.evR dsE2 = .ok [48, 98, 46, 48, 32, 102, 108, 117, 115, 104, 32, 120, 32, 53, 32, 49] := by decide +kernel
theorem dsIns : dsX.insR ⟨8, 1, 0, 0, 0, 0, 0, 2⟩ = .ok [108, 111, 97, 100, 32, 114, 49, 32, 120, 32, 114, 101, 108, 97, 99, 113] := by decide +kernel
end Go.Proofs.YtnckpjcfgeajbaaGreatDoor

namespace Go.Proofs.YtnckpjcfgeajbaaGreatDoor
open Go.RowKit (wrap32 wrap64)

theorem nmFall : ∀ (l seen : List ByteArray) (k : Nat), (nmF seen l k).1 = 0 → ∀ s ∈ l, nameB s = true
  | [], _, _, _, s, hs => by cases hs
  | x :: t, seen, k, h, s, hs => by
    rw [nmF] at h
    split at h
    · exact absurd h (by simp)
    · rename_i h1
      rw [Bool.not_eq_false] at h1
      split at h
      · exact absurd h (by simp)
      · rcases List.mem_cons.1 hs with rfl | hs
        · exact h1
        · exact nmFall t _ _ h s hs
theorem Prg.cdFall {p : Prg} {len : Nat} : ∀ (l : List I8) (k : Nat), (p.cdF len l k).1 = 0 → ∀ i ∈ l, p.insE len i = 0
  | [], _, _, i, hi => by cases hi
  | x :: t, k, h, i, hi => by
    rw [Prg.cdF] at h
    split at h
    · rename_i h1
      exact absurd h h1
    · rename_i h1
      rcases List.mem_cons.1 hi with rfl | hi
      · simpa using h1
      · exact Prg.cdFall t _ h i hi
theorem Prg.fnFall {p : Prg} : ∀ (l : List (ByteArray × List I8)) (k : Nat), (p.fnF l k).1 = 0 → ∀ f ∈ l, (p.cd1 f.2).1 = 0
  | [], _, _, f, hf => by cases hf
  | x :: t, k, h, f, hf => by
    rw [Prg.fnF] at h
    split at h
    · rename_i h1
      exact absurd h h1
    · rename_i h1
      rcases List.mem_cons.1 hf with rfl | hf
      · simpa using h1
      · exact Prg.fnFall t _ h f hf
theorem Prg.thFall {p : Prg} : ∀ (l : List (Int × Int)), p.thF l = 0 → ∀ s ∈ l, belB s.1 p.funcs.length = true ∧ isVal s.2 = true
  | [], _, s, hs => by cases hs
  | x :: t, h, s, hs => by
    rw [Prg.thF] at h
    split at h
    · exact absurd h (by decide)
    · rename_i h1
      split at h
      · exact absurd h (by decide)
      · rename_i h2
        rcases List.mem_cons.1 hs with rfl | hs
        · exact ⟨by simpa using h1, by simpa using h2⟩
        · exact Prg.thFall t h s hs
/-- What a program without an error keeps to. -/
structure Prg.Vld (p : Prg) : Prop where
  nv : ∀ v ∈ p.vars, nameB v.1 = true
  nm : ∀ s ∈ p.muts, nameB s = true
  nc : ∀ s ∈ p.conds, nameB s = true
  nf : ∀ f ∈ p.funcs, nameB f.1 = true
  cv : p.vars.length ≤ 8
  cm : p.muts.length ≤ 4
  cc : p.conds.length ≤ 4
  cf : p.funcs.length ≤ 8
  iv : ∀ v ∈ p.vars, isVal v.2 = true
  cl : ∀ f ∈ p.funcs, f.2.length ≤ 64
  ie : ∀ f ∈ p.funcs, ∀ i ∈ f.2, p.insE f.2.length i = 0
  t1 : 1 ≤ p.thr.length
  t8 : p.thr.length ≤ 8
  te : ∀ s ∈ p.thr, belB s.1 p.funcs.length = true ∧ isVal s.2 = true
theorem Prg.vld {p : Prg} (h : p.chk.1 = 0) : p.Vld := by
  unfold Prg.chk at h
  split at h
  · rename_i h1; exact absurd h h1
  rename_i h1
  split at h
  · exact absurd h (by decide)
  rename_i h2
  split at h
  · exact absurd h (by decide)
  rename_i h3
  split at h
  · rename_i h4; exact absurd h h4
  rename_i h4
  have h1 : p.nmE.1 = 0 := by simpa using h1
  have h4 : (p.fnF p.funcs 0).1 = 0 := by simpa using h4
  have h5 : p.thE = 0 := h
  unfold Prg.nmE at h1
  split at h1
  · rename_i g; exact absurd h1 g
  rename_i g1
  split at h1
  · rename_i g; exact absurd h1 g
  rename_i g2
  split at h1
  · rename_i g; exact absurd h1 g
  rename_i g3
  have g1 : (nmF [] (p.vars.map (·.1)) 0).1 = 0 := by simpa using g1
  have g2 : (nmF [] p.muts 0).1 = 0 := by simpa using g2
  have g3 : (nmF [] p.conds 0).1 = 0 := by simpa using g3
  have m : p.vars.length ≤ 8 ∧ p.muts.length ≤ 4 ∧ p.conds.length ≤ 4 ∧ p.funcs.length ≤ 8 := by
    simp [Prg.many] at h2; omega
  unfold Prg.thE at h5
  split at h5
  · exact absurd h5 (by decide)
  rename_i h6
  refine ⟨fun v hv => nmFall _ _ _ g1 _ (List.mem_map_of_mem hv), nmFall _ _ _ g2, nmFall _ _ _ g3, fun f hf => nmFall _ _ _ h1 _ (List.mem_map_of_mem hf), m.1, m.2.1, m.2.2.1, m.2.2.2, ?_, ?_, ?_, by omega, by omega, Prg.thFall _ h5⟩
  · have : (p.vars.all fun v => isVal v.2) = true := by simpa using h3
    exact List.all_eq_true.1 this
  · intro f hf
    have := Prg.fnFall _ _ h4 f hf
    unfold Prg.cd1 at this
    split at this
    · exact absurd this (by decide)
    · omega
  · intro f hf
    have := Prg.fnFall _ _ h4 f hf
    unfold Prg.cd1 at this
    split at this
    · exact absurd this (by decide)
    · exact Prg.cdFall _ _ this
theorem nameSz {s : ByteArray} (h : nameB s = true) : 1 ≤ s.size ∧ s.size ≤ 16 := by
  unfold nameB at h
  simp only [Bool.and_eq_true, decide_eq_true_eq] at h
  exact ⟨h.1.1.1, h.1.1.2⟩

/-! The specification's letters. -/
def opl (o : Nat) : List UInt8 :=
  match o with
  | 1 => [65, 78]
  | 2 => [65, 66]
  | 3 => [70, 65, 66, 67]
  | 4 => [78]
  | 5 => [66, 78]
  | 6 => [66]
  | 8 => [65, 118, 79]
  | 9 => [118, 66, 79]
  | 10 => [65, 118, 66, 79]
  | 11 => [65, 118, 66, 79]
  | 12 => [65, 118, 66, 67, 79]
  | 14 => [65, 118, 70, 66, 79]
  | 15 => [109]
  | 16 => [109]
  | 17 => [65, 109]
  | 18 => [99, 119]
  | 19 => [99]
  | 20 => [99]
  | 21 => [65, 102, 66]
  | 22 => [66]
  | _ => []
/-- What a letter stands for. -/
def Prg.lw (p : Prg) (i : I8) (c : UInt8) : Wd :=
  if c = 65 then rgW i.a else if c = 66 then rgW i.b else if c = 67 then rgW i.c else if c = 78 then .ok (Lib.itoa i.n) else if c = 70 then .ok (nameOf i.fn).data.toList else if c = 79 then .ok (ornOf i.ord).data.toList else
  if c = 119 then obW p.muts i.n else if c = 118 then obW p.vN i.obj else if c = 109 then obW p.muts i.obj else if c = 99 then obW p.conds i.obj else if c = 102 then obW p.fN i.obj else .no 11
def Prg.lws (p : Prg) (i : I8) : List Wd := (opl i.op.toNat).map (p.lw i)
def allW (l : List Wd) : Bool := l.all fun x => decide (x.e = 0)
def catW (acc : List UInt8) (l : List Wd) : List UInt8 := acc ++ Lib.joinTail [32] (l.map (·.t))
theorem obCases (l : List ByteArray) (k : Int) : (belB k l.length = true ∧ obW l k = .ok (l.getD k.toNat ⟨#[]⟩).data.toList) ∨ (belB k l.length = false ∧ obW l k = .no 11) := by
  unfold obW
  cases belB k l.length
  · exact .inr ⟨rfl, rfl⟩
  · exact .inl ⟨rfl, rfl⟩
theorem obErr (l : List ByteArray) (k : Int) : (obW l k).e = 0 ∨ (obW l k).e = 11 := by
  rcases obCases l k with ⟨_, h⟩ | ⟨_, h⟩ <;> rw [h]
  · exact .inl rfl
  · exact .inr rfl
theorem lwErr (p : Prg) (i : I8) (c : UInt8) : (p.lw i c).e = 0 ∨ (p.lw i c).e = 11 := by
  unfold Prg.lw
  repeat' split
  all_goals first | exact .inl rfl | exact .inr rfl | exact obErr _ _
theorem sntFirst {E : Int} : ∀ {ws : List Wd} {acc : List UInt8}, (∀ x ∈ ws, x.e = 0 ∨ x.e = E) → snt acc ws = if allW ws = true then .ok (catW acc ws) else .no E
  | [], acc, _ => by simp [snt, allW, catW, Lib.joinTail]
  | x :: r, acc, h => by
    rw [snt]
    by_cases h0 : x.e = 0
    · rw [if_pos h0, sntFirst fun y hy => h y (by simp [hy])]
      have e1 : allW (x :: r) = allW r := by simp [allW, h0]
      have e2 : catW acc (x :: r) = catW (acc ++ 32 :: x.t) r := by simp [catW, Lib.joinTail]
      rw [e1, e2]
    · rw [if_neg h0]
      have e1 : allW (x :: r) = false := by simp [allW, h0]
      rw [e1, if_neg (by decide)]
      rcases h x (by simp) with h' | h'
      · exact absurd h' h0
      · rw [h']
theorem knOrd {i : I8} (h : orOk i.ord = true) : knW (ornOf i.ord) 13 = .ok (ornOf i.ord).data.toList := by
  have : (ornOf i.ord).toList.isEmpty = false := by
    unfold ornOf
    rw [if_pos h, bytesData, List.isEmpty_eq_false_iff]
    have h' : 0 ≤ i.ord ∧ i.ord ≤ 2 := by simpa [orOk] using h
    exact orFull _ (by omega)
  unfold knW
  rw [this, if_neg (by decide)]
theorem knFn {i : I8} (h : fnOk i.fn = true) : knW (nameOf i.fn) 8 = .ok (nameOf i.fn).data.toList := by
  unfold knW
  rw [nameEmpty, h, if_neg (by decide)]
/-- The text of an instruction without an error of its own, as the specification writes it. -/
theorem insRef {p : Prg} {i : I8} (h : i.chk = 0) : p.insT i = if allW (p.lws i) = true then (if (i.op = 4 ∨ i.op = 5) ∧ belB i.n 65 = false then .no 12 else .ok (catW (mnOf i.op).data.toList (p.lws i))) else .no 11 := by
  have hg := I8.good h
  have ho := hg.op
  have hor := knOrd hg.ord
  have hfn : i.u 5 = true → knW (nameOf i.fn) 8 = .ok (nameOf i.fn).data.toList := fun hu => knFn (by have := hg.fn; rw [hu] at this; simpa using this)
  have hn : i.op = 1 → nuW i.n = .ok (Lib.itoa i.n) := fun hu => nuW_ok (by have := hg.n; rw [hu] at this; rw [← isValNOk]; simpa using this)
  have key : (¬ (i.op = 4 ∨ i.op = 5)) → p.opW i = p.lws i → p.insT i = if allW (p.lws i) = true then (if (i.op = 4 ∨ i.op = 5) ∧ belB i.n 65 = false then .no 12 else .ok (catW (mnOf i.op).data.toList (p.lws i))) else .no 11 := by
    intro h45 he
    unfold Prg.insT
    rw [he, sntFirst (E := 11) fun x hx => by
      obtain ⟨c, _, rfl⟩ := List.mem_map.1 hx
      exact lwErr p i c]
    rw [if_neg (c := (i.op = 4 ∨ i.op = 5) ∧ _) fun hh => h45 hh.1]
  obtain ⟨op, a, b, c, obj, n, fn, ord⟩ := i
  simp only at ho hor hn key
  obtain ⟨k, rfl⟩ : ∃ k : Nat, op = k := ⟨op.toNat, by omega⟩
  have hk : k = 1 ∨ k = 2 ∨ k = 3 ∨ k = 4 ∨ k = 5 ∨ k = 6 ∨ k = 7 ∨ k = 8 ∨ k = 9 ∨ k = 10 ∨ k = 11 ∨ k = 12 ∨ k = 13 ∨ k = 14 ∨ k = 15 ∨ k = 16 ∨ k = 17 ∨ k = 18 ∨ k = 19 ∨ k = 20 ∨ k = 21 ∨ k = 22 := by omega
  rcases hk with rfl | rfl | rfl | rfl | rfl | rfl | rfl | rfl | rfl | rfl | rfl | rfl | rfl | rfl | rfl | rfl | rfl | rfl | rfl | rfl | rfl | rfl
  case inr.inr.inr.inl =>
    show snt _ [tgW n] = if allW [Wd.ok (Lib.itoa n)] = true then _ else _
    rw [if_pos (show allW [Wd.ok (Lib.itoa n)] = true from rfl)]
    cases hb : belB n 65
    · rw [if_pos ⟨.inl rfl, rfl⟩, tgW, hb]; rfl
    · rw [if_neg (fun hh => absurd hh.2 (by decide)), tgW, hb]
      show snt _ [Wd.ok (Lib.itoa n)] = Wd.ok (catW _ [Wd.ok (Lib.itoa n)])
      rw [sntAll (by simp [Wd.ok])]
      rfl
  case inr.inr.inr.inr.inl =>
    show snt _ [rgW b, tgW n] = if allW [rgW b, Wd.ok (Lib.itoa n)] = true then _ else _
    rw [if_pos (show allW [rgW b, Wd.ok (Lib.itoa n)] = true from rfl)]
    cases hb : belB n 65
    · rw [if_pos ⟨.inr rfl, rfl⟩, tgW, hb]; rfl
    · rw [if_neg (fun hh => absurd hh.2 (by decide)), tgW, hb]
      show snt _ [rgW b, Wd.ok (Lib.itoa n)] = Wd.ok (catW _ [rgW b, Wd.ok (Lib.itoa n)])
      rw [sntAll (by simp [rgW, Wd.ok])]
      rfl
  case inl =>
    refine key (by decide) ?_
    show [rgW a, nuW n] = [rgW a, Wd.ok (Lib.itoa n)]
    rw [hn rfl]
  case inr.inr.inl =>
    refine key (by decide) ?_
    show [knW (nameOf fn) 8, rgW a, rgW b, rgW c] = [Wd.ok (nameOf fn).data.toList, rgW a, rgW b, rgW c]
    rw [hfn rfl]
  case inr.inr.inr.inr.inr.inr.inr.inr.inr.inr.inr.inr.inr.inl =>
    refine key (by decide) ?_
    show [rgW a, obW p.vN obj, knW (nameOf fn) 8, rgW b, knW (ornOf ord) 13] = [rgW a, obW p.vN obj, Wd.ok (nameOf fn).data.toList, rgW b, Wd.ok (ornOf ord).data.toList]
    rw [hfn rfl, hor]
  all_goals first
    | exact key (by decide) rfl
    | (refine key (by decide) ?_
       show [rgW a, obW p.vN obj, knW (ornOf ord) 13] = [rgW a, obW p.vN obj, Wd.ok (ornOf ord).data.toList]
       rw [hor])
    | (refine key (by decide) ?_
       show [obW p.vN obj, rgW b, knW (ornOf ord) 13] = [obW p.vN obj, rgW b, Wd.ok (ornOf ord).data.toList]
       rw [hor])
    | (refine key (by decide) ?_
       show [rgW a, obW p.vN obj, rgW b, knW (ornOf ord) 13] = [rgW a, obW p.vN obj, rgW b, Wd.ok (ornOf ord).data.toList]
       rw [hor])
    | (refine key (by decide) ?_
       show [rgW a, obW p.vN obj, rgW b, rgW c, knW (ornOf ord) 13] = [rgW a, obW p.vN obj, rgW b, rgW c, Wd.ok (ornOf ord).data.toList]
       rw [hor])
end Go.Proofs.YtnckpjcfgeajbaaGreatDoor

namespace Go.Proofs.YtnckpjcfgeajbaaGreatDoor
open Go.RowKit (wrap32 wrap64)

theorem if2 {A B : Prop} [Decidable A] [Decidable B] (h : (if A then (11 : Int) else if B then 12 else 0) = 0) : ¬ A ∧ ¬ B := by
  by_cases a : A
  · rw [if_pos a] at h
    exact absurd h (by decide)
  · by_cases b : B
    · rw [if_neg a, if_pos b] at h
      exact absurd h (by decide)
    · exact ⟨a, b⟩
theorem Prg.Vld.ins {p : Prg} (hv : p.Vld) {f : ByteArray × List I8} (hf : f ∈ p.funcs) {i : I8} (hi : i ∈ f.2) : i.chk = 0 ∧ allW (p.lws i) = true ∧ ¬ ((i.op = 4 ∨ i.op = 5) ∧ belB i.n 65 = false) := by
  have he := hv.ie f hf i hi
  have hl := hv.cl f hf
  have h1 : i.chk = 0 := by
    by_cases g : i.chk ≠ 0
    · unfold Prg.insE at he
      rw [if_pos g] at he
      exact absurd he g
    · simpa using g
  have hne : ¬ i.chk ≠ 0 := fun g => g h1
  have h234 : (∀ c, p.objN i.op = some c → belB i.obj c = true) ∧ ¬ (i.op = 18 ∧ belB i.n p.muts.length = false) ∧ ¬ ((i.op = 4 ∨ i.op = 5) ∧ belB i.n (f.2.length + 1) = false) := by
    unfold Prg.insE at he
    rw [if_neg hne] at he
    obtain ⟨m, hm⟩ : ∃ m, p.objN i.op = m := ⟨_, rfl⟩
    rw [hm] at he
    cases m with
    | none =>
      simp only [Bool.true_eq_false, if_false] at he
      exact ⟨fun c hc => (by rw [hm] at hc; cases hc), if2 he⟩
    | some c =>
      simp only at he
      cases g : belB i.obj c
      · simp only [g, if_true] at he
        exact absurd he (by decide)
      · simp only [g, Bool.true_eq_false, if_false] at he
        refine ⟨fun d hd => ?_, if2 he⟩
        rw [hm] at hd
        injection hd with hd
        rw [← hd]; exact g
  obtain ⟨h2, h3, h4⟩ := h234
  clear he
  have hop := (I8.good h1).op
  refine ⟨h1, ?_, ?_⟩
  · obtain ⟨op, a, b, c, obj, n, fn, ord⟩ := i
    simp only at hop h2 h3
    obtain ⟨k, rfl⟩ : ∃ k : Nat, op = k := ⟨op.toNat, by omega⟩
    have hvL : p.vN.length = p.vars.length := by simp [Prg.vN]
    have hfL : p.fN.length = p.funcs.length := by simp [Prg.fN]
    have hk : k = 1 ∨ k = 2 ∨ k = 3 ∨ k = 4 ∨ k = 5 ∨ k = 6 ∨ k = 7 ∨ k = 8 ∨ k = 9 ∨ k = 10 ∨ k = 11 ∨ k = 12 ∨ k = 13 ∨ k = 14 ∨ k = 15 ∨ k = 16 ∨ k = 17 ∨ k = 18 ∨ k = 19 ∨ k = 20 ∨ k = 21 ∨ k = 22 := by omega
    have ob : ∀ l : List ByteArray, belB obj l.length = true → (obW l obj).e = 0 := fun l h => by unfold obW; rw [if_pos h]; rfl
    have V : belB obj p.vars.length = true → (obW p.vN obj).e = 0 := fun h => ob _ (by rw [hvL]; exact h)
    have F : belB obj p.funcs.length = true → (obW p.fN obj).e = 0 := fun h => ob _ (by rw [hfL]; exact h)
    have all1 : ∀ (l1 l2 : List Wd) (x : Wd), x.e = 0 → allW l1 = true → allW l2 = true → allW (l1 ++ x :: l2) = true := by
      intro l1 l2 x hx g1 g2
      unfold allW at *
      rw [List.all_append, g1, List.all_cons, g2, hx]; rfl
    rcases hk with rfl | rfl | rfl | rfl | rfl | rfl | rfl | rfl | rfl | rfl | rfl | rfl | rfl | rfl | rfl | rfl | rfl | rfl | rfl | rfl | rfl | rfl
    all_goals first
      | exact rfl
      | exact all1 [rgW a] [.ok (ornOf ord).data.toList] (obW p.vN obj) (V (h2 _ rfl)) rfl rfl
      | exact all1 [] [rgW b, .ok (ornOf ord).data.toList] (obW p.vN obj) (V (h2 _ rfl)) rfl rfl
      | exact all1 [rgW a] [rgW b, .ok (ornOf ord).data.toList] (obW p.vN obj) (V (h2 _ rfl)) rfl rfl
      | exact all1 [rgW a] [rgW b, rgW c, .ok (ornOf ord).data.toList] (obW p.vN obj) (V (h2 _ rfl)) rfl rfl
      | exact all1 [rgW a] [.ok (nameOf fn).data.toList, rgW b, .ok (ornOf ord).data.toList] (obW p.vN obj) (V (h2 _ rfl)) rfl rfl
      | exact all1 [] [] (obW p.muts obj) (ob _ (h2 _ rfl)) rfl rfl
      | exact all1 [rgW a] [] (obW p.muts obj) (ob _ (h2 _ rfl)) rfl rfl
      | exact all1 [] [] (obW p.conds obj) (ob _ (h2 _ rfl)) rfl rfl
      | exact all1 [rgW a] [rgW b] (obW p.fN obj) (F (h2 _ rfl)) rfl rfl
      | exact all1 [obW p.conds obj] [] (obW p.muts n) (by unfold obW; rw [if_pos (by simpa using h3)]; rfl) (all1 [] [] (obW p.conds obj) (ob _ (h2 _ rfl)) rfl rfl) rfl
  · rintro ⟨h5, h6⟩
    apply h4
    refine ⟨h5, ?_⟩
    simp only [belB, Bool.and_eq_false_iff, decide_eq_false_iff_not] at h6 ⊢
    omega
theorem Prg.Vld.insT {p : Prg} (hv : p.Vld) {f : ByteArray × List I8} (hf : f ∈ p.funcs) {i : I8} (hi : i ∈ f.2) : p.insT i = .ok (catW (mnOf i.op).data.toList (p.lws i)) := by
  obtain ⟨h1, h2, h3⟩ := hv.ins hf hi
  rw [insRef h1, if_pos h2, if_neg h3]
theorem nameLen : ∀ k, (nm k).data.toList.length ≤ 16 := by
  intro k
  by_cases h : k < 11
  · have : ∀ k, k < 11 → (nm k).data.toList.length ≤ 16 := by decide
    exact this k h
  · unfold nm
    rw [List.getD_eq_getElem?_getD, List.getElem?_eq_none (by simp [nmTab]; omega)]
    simp
theorem ornLen (k : Nat) : (orn k).data.toList.length ≤ 16 := by
  by_cases h : k < 3
  · have : ∀ k, k < 3 → (orn k).data.toList.length ≤ 16 := by decide
    exact this k h
  · unfold orn
    rw [List.getD_eq_getElem?_getD, List.getElem?_eq_none (by simp [orTab]; omega)]
    simp
theorem mnLen (k : Nat) : (mn k).data.toList.length ≤ 16 := by
  by_cases h : k < 23
  · have : ∀ k, k < 23 → (mn k).data.toList.length ≤ 16 := by decide
    exact this k h
  · unfold mn
    rw [List.getD_eq_getElem?_getD, List.getElem?_eq_none (by simp [mnTab]; omega)]
    simp
theorem mnOfLen (o : Int) : (mnOf o).data.toList.length ≤ 16 := by
  unfold mnOf
  split
  · exact mnLen _
  · simp
theorem obLen {l : List ByteArray} (h : ∀ s ∈ l, nameB s = true) (k : Int) : (obW l k).t.length ≤ 16 := by
  rcases obCases l k with ⟨hb, e⟩ | ⟨_, e⟩
  · rw [e]
    show (l.getD k.toNat ⟨#[]⟩).data.toList.length ≤ 16
    have hk : k.toNat < l.length := by
      simp only [belB, Bool.and_eq_true, decide_eq_true_eq] at hb; omega
    rw [List.getD_eq_getElem?_getD, List.getElem?_eq_getElem hk]
    exact (nameSz (h _ (List.getElem_mem hk))).2
  · rw [e]; exact Nat.zero_le _
theorem Prg.Vld.vNn {p : Prg} (hv : p.Vld) : ∀ s ∈ p.vN, nameB s = true := fun s hs => by
  obtain ⟨v, h, rfl⟩ := List.mem_map.1 hs
  exact hv.nv v h
theorem Prg.Vld.fNn {p : Prg} (hv : p.Vld) : ∀ s ∈ p.fN, nameB s = true := fun s hs => by
  obtain ⟨v, h, rfl⟩ := List.mem_map.1 hs
  exact hv.nf v h
theorem lwLen {p : Prg} (hv : p.Vld) {i : I8} (hi : i.Wf) (c : UInt8) : (p.lw i c).t.length ≤ 22 := by
  have rg : ∀ n : Int, -9223372036854775808 ≤ n ∧ n ≤ 9223372036854775807 → (rgW n).t.length ≤ 22 := fun n h => by
    have := Lib.itoa_length_le n h.1 h.2
    show (114 :: Lib.itoa n).length ≤ 22
    rw [List.length_cons]; omega
  unfold Prg.lw
  repeat' split
  · exact rg _ hi.a
  · exact rg _ hi.b
  · exact rg _ hi.c
  · exact Nat.le_succ_of_le (Lib.itoa_length_le i.n hi.n.1 hi.n.2)
  · show (nameOf i.fn).data.toList.length ≤ 22
    unfold nameOf
    split
    · have := nameLen i.fn.toNat; omega
    · simp
  · show (ornOf i.ord).data.toList.length ≤ 22
    unfold ornOf
    split
    · have := ornLen i.ord.toNat; omega
    · simp
  · have := obLen hv.nm i.n; omega
  · have := obLen hv.vNn i.obj; omega
  · have := obLen hv.nm i.obj; omega
  · have := obLen hv.nc i.obj; omega
  · have := obLen hv.fNn i.obj; omega
  · exact Nat.zero_le _
theorem oplLen (o : Nat) : (opl o).length ≤ 5 := by
  unfold opl
  split <;> simp
theorem joinTailLen {l : List (List UInt8)} {B : Nat} (h : ∀ x ∈ l, x.length ≤ B) : (Lib.joinTail [32] l).length ≤ l.length * (B + 1) := by
  induction l with
  | nil => simp [Lib.joinTail]
  | cons x r ih =>
    have h1 := h x (by simp)
    have h2 := ih fun y hy => h y (by simp [hy])
    have e : Lib.joinTail [32] (x :: r) = 32 :: x ++ Lib.joinTail [32] r := by simp [Lib.joinTail]
    rw [e, List.length_append, List.length_cons, List.length_cons, Nat.succ_mul]
    omega
theorem catLen {p : Prg} (hv : p.Vld) {i : I8} (hi : i.Wf) : (catW (mnOf i.op).data.toList (p.lws i)).length ≤ 131 := by
  unfold catW
  rw [List.length_append]
  have h1 := mnOfLen i.op
  have h2 := joinTailLen (l := (p.lws i).map (·.t)) (B := 22) fun x hx => by
    obtain ⟨y, hy, rfl⟩ := List.mem_map.1 hx
    obtain ⟨c, _, rfl⟩ := List.mem_map.1 hy
    exact lwLen hv hi c
  have h3 : ((p.lws i).map (·.t)).length ≤ 5 := by
    rw [List.length_map, Prg.lws, List.length_map]
    exact oplLen _
  have h4 := Nat.mul_le_mul_right 23 h3
  omega
theorem flatLen {α : Type} {g : α → List UInt8} {B : Nat} {l : List α} (h : ∀ x ∈ l, (g x).length ≤ B) : (l.flatMap g).length ≤ l.length * B := by
  induction l with
  | nil => simp
  | cons x r ih =>
    have h1 := h x (by simp)
    have h2 := ih fun y hy => h y (by simp [hy])
    rw [List.flatMap_cons, List.length_append, List.length_cons, Nat.succ_mul]
    omega
theorem itLen {n : Int} (h : isVal n = true) : (Lib.itoa n).length ≤ 21 := by
  unfold isVal at h
  simp only [Bool.and_eq_true, decide_eq_true_eq] at h
  exact Lib.itoa_length_le n (by omega) (by omega)
theorem nameLen16 {s : ByteArray} (h : nameB s = true) : s.data.toList.length ≤ 16 := (nameSz h).2
theorem lVarLen {p : Prg} (hv : p.Vld) : ∀ v ∈ p.vars, (lVar v).length ≤ 50 := fun v h => by
  have h1 := nameLen16 (hv.nv v h)
  have h2 := itLen (hv.iv v h)
  simp only [lVar, List.length_append, List.length_cons, List.length_nil]; omega
theorem lMutLen {p : Prg} (hv : p.Vld) : ∀ v ∈ p.muts, (lMut v).length ≤ 50 := fun v h => by
  have h1 := nameLen16 (hv.nm v h)
  simp only [lMut, List.length_append, List.length_cons, List.length_nil]; omega
theorem lConLen {p : Prg} (hv : p.Vld) : ∀ v ∈ p.conds, (lCon v).length ≤ 50 := fun v h => by
  have h1 := nameLen16 (hv.nc v h)
  simp only [lCon, List.length_append, List.length_cons, List.length_nil]; omega
theorem lInsLen {p : Prg} (hv : p.Vld) (hw : p.Wf) {f : ByteArray × List I8} (hf : f ∈ p.funcs) : ∀ i ∈ f.2, (lIns p i).length ≤ 150 := fun i hi => by
  have h1 := catLen hv (hw.ins f hf i hi)
  unfold lIns
  rw [hv.insT hf hi]
  simp only [Wd.ok, List.length_append, List.length_cons, List.length_nil]; omega
theorem tFunLen {p : Prg} (hv : p.Vld) (hw : p.Wf) : ∀ f ∈ p.funcs, (tFun p f).length ≤ 9700 := fun f hf => by
  have h1 := nameLen16 (hv.nf f hf)
  have h2 := flatLen (lInsLen hv hw hf)
  have h3 := Nat.mul_le_mul_right 150 (hv.cl f hf)
  simp only [tFun, lFun, lEnd, List.length_append, List.length_cons, List.length_nil]; omega
theorem thrName {p : Prg} (hv : p.Vld) {t : Int × Int} (ht : t ∈ p.thr) : nameB (p.fN.getD t.1.toNat ⟨#[]⟩) = true := by
  have hb := (hv.te t ht).1
  have hk : t.1.toNat < p.fN.length := by
    have : p.fN.length = p.funcs.length := by simp [Prg.fN]
    simp only [belB, Bool.and_eq_true, decide_eq_true_eq] at hb; omega
  rw [List.getD_eq_getElem?_getD, List.getElem?_eq_getElem hk]
  exact hv.fNn _ (List.getElem_mem hk)
theorem lThrLen {p : Prg} (hv : p.Vld) : ∀ t ∈ p.thr, (lThr p t).length ≤ 60 := fun t h => by
  have h1 := nameLen16 (thrName hv h)
  have h2 := itLen (hv.te t h).2
  simp only [lThr, List.length_append, List.length_cons, List.length_nil]; omega
/-- How long the text of a program without an error is at most. -/
theorem txtLen {p : Prg} (hv : p.Vld) (hw : p.Wf) : p.txt.length ≤ 100000 := by
  have h1 := flatLen (lVarLen hv)
  have h2 := flatLen (lMutLen hv)
  have h3 := flatLen (lConLen hv)
  have h4 := flatLen (tFunLen hv hw)
  have h5 := flatLen (lThrLen hv)
  have c1 := Nat.mul_le_mul_right 50 hv.cv
  have c2 := Nat.mul_le_mul_right 50 hv.cm
  have c3 := Nat.mul_le_mul_right 50 hv.cc
  have c4 := Nat.mul_le_mul_right 9700 hv.cf
  have c5 := Nat.mul_le_mul_right 60 hv.t8
  simp only [Prg.txt, List.length_append]; omega
end Go.Proofs.YtnckpjcfgeajbaaGreatDoor
