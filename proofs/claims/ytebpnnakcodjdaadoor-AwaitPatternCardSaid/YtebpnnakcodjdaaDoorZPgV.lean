/-
  The check of the code (a closure over the program that ranges over the instructions): the first error, with the function and the instruction.
-/
import Derived.Test.YtebpnnakcodjdaaDoorZPgR
namespace Go.Proofs.YtebpnnakcodjdaaDoor
open Go Go.RowKit Go.Shelf
attribute [local go_sem] Oper.semAt_some

/-- The length of function f's code. -/
def Prg.lenF (p : Prg) (f : Nat) : Nat := ((p.funcs[f]?).map (·.2.length)).getD 0
theorem lenFat {p : Prg} {f : Nat} (hf : f < p.funcs.length) : p.lenF f = (p.funcs[f]).2.length := by
  unfold Prg.lenF
  rw [List.getElem?_eq_getElem hf]; rfl
/-- The first error of a list of instructions. -/
def Prg.cdL (p : Prg) : List (Nat × Nat × I8) → Int × Int × Int
  | [] => (0, -1, -1)
  | x :: t => if x.2.1 = 0 ∧ 64 < p.lenF x.1 then (4, x.1, -1) else if p.insE (p.lenF x.1) x.2.2 ≠ 0 then (p.insE (p.lenF x.1) x.2.2, x.1, x.2.1) else p.cdL t
theorem cdLinst {p : Prg} {f len : Nat} (hl : p.lenF f = len) (h64 : len ≤ 64) (rest : List (Nat × Nat × I8)) : ∀ (c : List I8) (k : Nat), p.cdL (flI f c k ++ rest) = if (p.cdF len c k).1 ≠ 0 then ((p.cdF len c k).1, (f : Int), (p.cdF len c k).2) else p.cdL rest
  | [], k => by simp [flI, Prg.cdF]
  | i :: c, k => by
    rw [flI, List.cons_append, Prg.cdL, Prg.cdF, cdLinst hl h64 rest c (k + 1)]
    simp only [hl]
    rw [if_neg (by omega)]
    by_cases h : p.insE len i ≠ 0
    · simp [h]
    · simp only [h, if_false]
theorem cdLfun {p : Prg} : ∀ (d : Nat) (f : Nat), p.funcs.length - f = d → p.cdL (flF (p.funcs.drop f) f) = p.fnF (p.funcs.drop f) f
  | 0, f, hd => by
    rw [List.drop_eq_nil_of_le (by omega)]
    rfl
  | d + 1, f, hd => by
    have hf : f < p.funcs.length := by omega
    have ih := cdLfun (p := p) d (f + 1) (by omega)
    rw [List.drop_eq_getElem_cons hf, flF, Prg.fnF]
    by_cases h64 : 64 < (p.funcs[f]).2.length
    · have h1 : p.cd1 (p.funcs[f]).2 = (4, -1) := by unfold Prg.cd1; rw [if_pos h64]
      rw [h1, if_pos (by simp)]
      rcases hc : (p.funcs[f]).2 with _ | ⟨i, c⟩
      · rw [hc] at h64; simp at h64
      · rw [flI, List.cons_append, Prg.cdL]
        rw [if_pos ⟨rfl, by rw [lenFat hf]; exact h64⟩]
    · have h1 : p.cd1 (p.funcs[f]).2 = p.cdF (p.funcs[f]).2.length (p.funcs[f]).2 0 := by unfold Prg.cd1; rw [if_neg h64]
      rw [h1, cdLinst (lenFat hf) (by omega), ih]
theorem cdLall (p : Prg) : p.cdL (flF p.funcs 0) = p.fnF p.funcs 0 := by
  have := cdLfun (p := p) _ 0 rfl
  rwa [List.drop_zero] at this
/-- The iterator value. -/
theorem iInsts (a : PgA) (w : World) : Calls Tryd.prog 52 #[a.val] w fun e w' => e = .returned (.func (.func 66) #[] #[.pointer (some ⟨w.heap.size, 0, none⟩)]) ∧ w' = w.alloc (.cells a.fs 27) := by
  obtain ⟨A1, n1, c1, A2, n2, c2, A3, n3, c3, A4, n4, c4, A5, n5, c5⟩ := a
  simp only [PgA.val, PgA.fs]
  go_enter Tryd.func52, Tryd.ntmps52
  go_wp2
  go_ret
  exact ⟨rfl, rfl⟩
theorem resErr3 {tmps : Array Value} {b1 b2 b3 : Nat} {x y z : Int} {W : World} (h1 : tmps.getD 1 undef = .pointer (some ⟨b1, 0, none⟩)) (h2 : tmps.getD 2 undef = .pointer (some ⟨b2, 0, none⟩)) (h3 : tmps.getD 3 undef = .pointer (some ⟨b3, 0, none⟩))
    (k1 : Boxed W b1 33 (.int .i64 x)) (k2 : Boxed W b2 3 (.int .i64 y)) (k3 : Boxed W b3 3 (.int .i64 z)) : (results Tryd.f51 tmps).run Tryd.prog W = .ok (.tuple #[.int .i64 x, .int .i64 y, .int .i64 z]) W := by
  have c1 := k1.cell
  have c2 := k2.cell
  have c3 := k3.cell
  have h1' : tmps[1]?.getD undef = .pointer (some ⟨b1, 0, none⟩) := by simpa using h1
  have h2' : tmps[2]?.getD undef = .pointer (some ⟨b2, 0, none⟩) := by simpa using h2
  have h3' : tmps[3]?.getD undef = .pointer (some ⟨b3, 0, none⟩) := by simpa using h3
  simp [results, h1', h2', h3', asAddr, loadVar, isAgg, run_underlying Tryd.underlying33, run_underlying Tryd.underlying3, go_sem, c1, c2, c3]
/-- The three boxes of the results. -/
structure Res3 (b : Nat) (x y z : Int) (W : World) : Prop where
  r1 : Boxed W b 33 (.int .i64 x)
  r2 : Boxed W (b + 1) 3 (.int .i64 y)
  r3 : Boxed W (b + 1 + 1) 3 (.int .i64 z)
theorem Res3.set {b : Nat} {x y z : Int} {W : World} (h : Res3 b x y z W) (x' y' z' : Int) : Res3 b x' y' z' (((W.setCell ⟨b, 0, none⟩ (.int .i64 x')).setCell ⟨b + 1, 0, none⟩ (.int .i64 y')).setCell ⟨b + 1 + 1, 0, none⟩ (.int .i64 z')) :=
  ⟨((h.r1.set _).other (by omega) _).other (by omega) _, ((h.r2.other (by omega) _).set _).other (by omega) _, ((h.r3.other (by omega) _).other (by omega) _).set _⟩
theorem Res3.below {b : Nat} {x y z : Int} {W W' : World} (h : Res3 b x y z W) (hb : Below W.heap.size W W') : Res3 b x y z W' := ⟨(hb.block _ h.r1.lt).trans h.r1, (hb.block _ h.r2.lt).trans h.r2, (hb.block _ h.r3.lt).trans h.r3⟩
theorem Res3.own {β : Type} (b : Nat) (x y z : Int) : Own (fun (_ : β) W => Res3 b x y z W) := fun _ X Y row hs hg hr => ⟨boxed_own (β := Unit) _ _ (fun _ => _) () X Y row hs.r1 hg hr, boxed_own (β := Unit) _ _ (fun _ => _) () X Y row hs.r2 hg hr, boxed_own (β := Unit) _ _ (fun _ => _) () X Y row hs.r3 hg hr⟩
end Go.Proofs.YtebpnnakcodjdaaDoor
