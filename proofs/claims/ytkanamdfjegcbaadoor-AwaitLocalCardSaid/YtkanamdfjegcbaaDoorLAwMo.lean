/-
  A program with one function more: its spin loops and its rewriting, pure.
-/
import Derived.Test.YtkanamdfjegcbaaDoorLAwN
import Derived.Test.YtkanamdfjegcbaaDoorLPgCr
import Derived.Test.YtkanamdfjegcbaaDoorLAwL
namespace Go.Proofs.YtkanamdfjegcbaaDoor
open Go.RowKit

/-- The program with a function more, behind the others. -/
def Prg.more (p : Prg) (s : ByteArray) (C : List I8) : Prg := { p with funcs := p.funcs ++ [(s, C)] }
theorem moreLen (p : Prg) (s : ByteArray) (C : List I8) : (p.more s C).funcs.length = p.funcs.length + 1 := by simp [Prg.more]
theorem moreSmall {p : Prg} (h : p.small = true) {s : ByteArray} {C : List I8} (hc : C.length ≤ 100) (hf : p.funcs.length < 20) : (p.more s C).small = true := by
  have h1 := fewOf h
  have h2 := shortOf h
  unfold Prg.small Prg.few Prg.short Prg.more
  simp only [Bool.and_eq_true, decide_eq_true_eq, List.all_eq_true, List.length_append, List.length_cons, List.length_nil, List.mem_append, List.mem_singleton]
  refine ⟨⟨⟨⟨⟨h1.1, h1.2.1⟩, h1.2.2.1⟩, by omega⟩, h1.2.2.2.2⟩, fun f hf => ?_⟩
  rcases hf with hf | rfl
  · exact h2 f hf
  · exact hc
theorem moreWf {p : Prg} (h : p.Wf) {s : ByteArray} {C : List I8} (hC : ∀ i ∈ C, i.Wf) (hs : s.size ≤ maxLen) : (p.more s C).Wf := by
  refine ⟨fun f hf i hi => ?_, h.vn, h.mn, h.cn, fun f hf => ?_⟩
  · rcases List.mem_append.1 hf with hf | hf
    · exact h.ins f hf i hi
    · rw [List.mem_singleton.1 hf] at hi
      exact hC i hi
  · rcases List.mem_append.1 hf with hf | hf
    · exact h.fn f hf
    · rw [List.mem_singleton.1 hf]
      exact hs
theorem spFSucc (F : List (ByteArray × List I8)) (k : Nat) : spF F (k + 1) = spF F k ++ (spL (F.getD k (⟨#[]⟩, [])).2 (F.getD k (⟨#[]⟩, [])).2.length).map fun n => (k, n) := rfl
theorem spFApp (F : List (ByteArray × List I8)) (x : ByteArray × List I8) : ∀ k, k ≤ F.length → spF (F ++ [x]) k = spF F k
  | 0, _ => rfl
  | k + 1, h => by
    have e : (F ++ [x]).getD k (⟨#[]⟩, []) = F.getD k (⟨#[]⟩, []) := by
      rw [List.getD_eq_getElem?_getD, List.getD_eq_getElem?_getD, List.getElem?_append_left (by omega)]
    unfold spF
    rw [spFApp F x k (by omega), e]
/-- The spin loops of the function more. -/
def moreSp (p : Prg) (C : List I8) : List (Nat × Nat) := (spL C C.length).map fun n => (p.funcs.length, n)
theorem moreSpins (p : Prg) (s : ByteArray) (C : List I8) : (p.more s C).spins = p.spins ++ moreSp p C := by
  unfold Prg.spins
  rw [moreLen]
  show spF (p.funcs ++ [(s, C)]) (p.funcs.length + 1) = _
  rw [spFSucc, spFApp _ _ _ (Nat.le_refl _)]
  have e : (p.funcs ++ [(s, C)]).getD p.funcs.length (⟨#[]⟩, []) = (s, C) := by
    rw [List.getD_eq_getElem?_getD, List.getElem?_append_right (Nat.le_refl _)]; simp
  rw [e]
  rfl
theorem moreRw (p : Prg) (s : ByteArray) (C : List I8) : rwP (p.more s C) (p.more s C).spins = (rwP p p.spins).more s (rwA C) := by
  rw [rwPAll, rwPAll]
  unfold Prg.more
  simp
/-- The first spin loops are those of the program. -/
theorem moreTake (p : Prg) (s : ByteArray) (C : List I8) : (p.more s C).spins.take p.spins.length = p.spins := by rw [moreSpins, List.take_left]
theorem moreGe (p : Prg) (s : ByteArray) (C : List I8) : p.spins.length ≤ (p.more s C).spins.length := by rw [moreSpins, List.length_append]; omega
theorem moreAt {p : Prg} {s : ByteArray} {C : List I8} {i : Nat} (h1 : p.spins.length ≤ i) (h2 : i < (p.more s C).spins.length) : (p.more s C).spins[i].1 = p.funcs.length := by
  have h : (p.more s C).spins[i] = (moreSp p C)[i - p.spins.length]'(by rw [moreSpins, List.length_append] at h2; omega) := by
    simp only [moreSpins, List.getElem_append_right h1]
  rw [h]
  unfold moreSp
  rw [List.getElem_map]
theorem moreSpLen {p : Prg} {s : ByteArray} {C : List I8} (h : (p.more s C).small = true) : (p.more s C).spins.length ≤ 2000 := by
  have := spFLen (F := (p.more s C).funcs) (shortOf h) (Nat.le_refl _)
  have := (fewOf h).2.2.2.1
  unfold Prg.spins
  omega
end Go.Proofs.YtkanamdfjegcbaaDoor

namespace Go.Proofs.YtkanamdfjegcbaaDoor
open Go Go.RowKit

theorem moreLp {W1 Y : World} {p : Prg} {a : PgA} {g : Nat} (hb : Below W1.heap.size W1 Y) (hlo : W1.heap.size ≤ g) (hB : PBox Y g a) (hC : Cl8 W1.heap.size Y p a) (hO : OwF W1.heap.size Y p a) (s : ByteArray) (C : List I8) : LpR W1 Y (p.more s C) a g p.funcs.length := by
  have h4 := hC.pg.l4
  refine ⟨hlo, hb, hB, h4.symm, hC.pg.l1, hC.pg.l2, hC.pg.l3, hC.pg.l5, hC.pg.vars, hC.pg.muts, hC.pg.conds, hC.pg.thr, hC.f1, hC.f2, hC.f3, hC.f5, ?_⟩
  obtain ⟨ys, h1, h2⟩ := hO
  rw [← h4] at h1 h2
  refine ⟨ys, h1, fun j hj hl => ?_, h2.2⟩
  have e : (p.more s C).funcs[j] = p.funcs[j] := List.getElem_append_left hj
  rw [e]
  exact h2.1 j hj hj
theorem rdTake {α : Type} {k : Nat} {E : World → Nat → Nat → α → Prop} {w : World} {A : Option Addr} {c : Nat} {l : List α} (h : RdE k E w A c l) (n : Nat) : RdE k E w A c (l.take n) :=
  ⟨by have := h.le; rw [List.length_take]; omega, h.max, fun h0 => by
    rw [List.length_take] at h0
    obtain ⟨b, off, e, hb, hx⟩ := h.at_ (by omega)
    refine ⟨b, off, e, hb, fun j hj => ?_⟩
    rw [List.length_take] at hj
    rw [List.getElem_take]
    exact hx j (by omega)⟩
theorem moreFn (p : Prg) (s : ByteArray) (C : List I8) : (p.more s C).funcs[p.funcs.length]'(by rw [moreLen]; omega) = (s, C) := by
  unfold Prg.more
  simp
/-- The rewritten program with its first functions alone is the rewriting of the program. -/
theorem moreCut {w : World} {a : PgA} {p : Prg} {s : ByteArray} {C : List I8} (h : PgW w a (rwP (p.more s C) (p.more s C).spins)) {n : Nat} (hn : p.funcs.length = n) : PgW w ⟨a.A1, a.n1, a.c1, a.A2, a.n2, a.c2, a.A3, a.n3, a.c3, a.A4, n, a.c4, a.A5, a.n5, a.c5⟩ (rwP p p.spins) := by
  rw [moreRw] at h
  have e : ((rwP p p.spins).more s (rwA C)).funcs.take n = (rwP p p.spins).funcs := by
    unfold Prg.more
    rw [← hn, ← rwPLen p, List.take_left]
  exact ⟨h.l1, h.l2, h.l3, by rw [rwPLen]; exact hn, h.l5, h.vars, h.muts, h.conds, by have := rdTake h.funcs n; rw [e] at this; exact this, h.thr⟩
end Go.Proofs.YtkanamdfjegcbaaDoor
