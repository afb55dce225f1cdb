/-
  Words for the law LexLocal.
-/
import Derived.Test.YtnlhkeobfidjkaaDoorLxL1
import Derived.Deep.RegionHeld3
import Derived.Laws.StructEq
namespace Go.Proofs.YtnlhkeobfidjkaaDoor
open Go Go.RowKit

set_option maxRecDepth 10000 in
theorem sizeK (W : World) : (sizeOf (Tryd.prog.elem 23)).run Tryd.prog W = .ok 4 W := by kernel_rfl
set_option maxRecDepth 100000 in
theorem cutK (A : Option Addr) (n c k : Nat) (hk : k ≤ c) (W : World) : (Instr.sliceAt 23 (.slice A n c) none (some (.int .i64 (k : Int))) none).run Tryd.prog W = .ok (.slice A k c) W := by
  rw [run_sliceAt_slice (h := Tryd.underlying23), run_slice_h (ht := Tryd.underlying23) (h0 := by omega) (h2 := by omega), sizeK W]
  simp [Result.andThen, sliced]
  intro _
  cases A <;> rfl
theorem eqTokIs (k n p k' n' p' : Int) (t t' : ByteArray) (w : World) : (Op.equalIn 10000 40 (.agg #[.int .i64 k, .string t, .int .i64 n, .int .i64 p]) (.agg #[.int .i64 k', .string t', .int .i64 n', .int .i64 p'])).run Tryd.prog w = .ok (k == k' && (t.toList == t'.toList && (n == n' && p == p'))) w := by
  have hu := Tryd.underlying40
  rw [run_equalIn_struct w 9999 40 _ _ (by rw [Program.fieldsOf, hu]) (by kernel_rfl)]
  simp only [Program.fieldsOf, hu]
  have i0 := run_equalIn_int (P := Tryd.prog) w 9998 38 .i64 .i64 k k' Tryd.underlying38
  have i1 := run_equalIn_string (P := Tryd.prog) w 9998 9 t t' Tryd.underlying9
  have i2 := run_equalIn_int (P := Tryd.prog) w 9998 3 .i64 .i64 n n' Tryd.underlying3
  have i3 := run_equalIn_int (P := Tryd.prog) w 9998 3 .i64 .i64 p p' Tryd.underlying3
  have q0 : ∀ (a b c d : Value), (part 38 #[a, b, c, d] 0).run Tryd.prog w = .ok a w := fun a b c d => by kernel_rfl
  have q1 : ∀ (a b c d : Value), (part 9 #[a, b, c, d] 1).run Tryd.prog w = .ok b w := fun a b c d => by kernel_rfl
  have q2 : ∀ (a b c d : Value), (part 3 #[a, b, c, d] 2).run Tryd.prog w = .ok c w := fun a b c d => by kernel_rfl
  have q3 : ∀ (a b c d : Value), (part 3 #[a, b, c, d] 3).run Tryd.prog w = .ok d w := fun a b c d => by kernel_rfl
  generalize (t.toList == t'.toList) = bt at *
  generalize (k == k') = b0 at *
  generalize (n == n') = b2 at *
  generalize (p == p') = b3 at *
  cases b0
  · simp [Op.eqFields, q0, i0]
  cases bt
  · simp [Op.eqFields, q0, i0, q1, i1]
  cases b2
  · simp [Op.eqFields, q0, i0, q1, i1, q2, i2]
  cases b3 <;> simp [Op.eqFields, q0, i0, q1, i1, q2, i2, q3, i3]
/-- A comparison of two structs, guarded or not, as a step of the walk. -/
theorem neqK (w : World) {ops : Array Oper} {rest : List Oper} {o : Oper} {a : Act} {Q : Exit → Act → World → Prop} (hgd : Region.wanted o (yielded ops a.tmps) = true) (s x : Operand) (T : TypeId)
    (ho : o.op = .binOp .neq T s x T) (us vs : Array Value) (hs : a.eval s = .agg us) (hx : a.eval x = .agg vs) (r : Bool) (hT : Tryd.prog.eqGuardType Tryd.prog.depth T = false)
    (hr : (Op.equalIn 10000 T (.agg us) (.agg vs)).run Tryd.prog w = .ok r w)
    (h : wpList Tryd.prog ops Q rest (a.put o.dst (.bool (!r))) w) :
    wpList Tryd.prog ops Q (o :: rest) a w := by
  refine wpList_step fun K hK => ?_
  rw [if_pos hgd]
  unfold Oper.wp execOp
  simp only [ho, hs, hx]
  simp [Sem.run_bind, run_eqGuard_agg, hT, run_neq_struct, hr, Result.andThen]
  exact hK _ _ h
theorem wrapSum (n m k : Nat) (h : k = n + 1 + m) (hk : k ≤ 9223372036854775807) : wrap64 ((n : Int) + 1 + m) = (k : Int) := by
  unfold wrap64; omega
theorem leMax {c : Nat} (h : c ≤ maxLen) : c ≤ 9223372036854775807 := h
theorem takePre {a b cc : List Tok} {x : Tok} {n : Nat} (hcc : a ++ [x] ++ b = cc) (hn : a.length = n) : decide (a = cc.take n) = true := by
  subst hcc hn
  rw [decide_eq_true_iff, List.append_assoc, List.take_left]
theorem minLen {n k : Nat} {l : List Tok} (hl : l.length = k) (h : n ≤ k) : (l.take n).length = n := by
  rw [List.length_take, hl]; exact Nat.min_eq_left h
theorem ccAt {a b cc : List Tok} {x : Tok} {f : Tok → Tok} {n i : Nat} (hcc : a ++ [x] ++ b.map f = cc) (hn : a.length = n) (hi : i < b.length) (h : n + 1 + i < cc.length) : cc[n + 1 + i] = f b[i] := by
  subst hcc hn
  have e : (a ++ [x] ++ b.map f)[a.length + 1 + i]? = some (f b[i]) := by
    rw [List.getElem?_append_right (by simp), List.getElem?_map, List.length_append]
    simp [hi]
  rw [List.getElem?_eq_getElem h] at e
  exact Option.some.inj e
theorem byteArrayEq' {a b : ByteArray} (h : a.data.toList = b.data.toList) : a = b := by
  obtain ⟨⟨x⟩⟩ := a; obtain ⟨⟨y⟩⟩ := b; simp at h; rw [h]
/-- The world behind a token's own box whose offset has changed. -/
structure LocZ (Z wr : World) (K N v : Int) (T2 : ByteArray) : Prop where
  z0 : Z.cell? ⟨wr.heap.size, 0, none⟩ = some (.int .i64 K)
  z1 : Z.cell? ⟨wr.heap.size, 1, none⟩ = some (.string T2)
  z2 : Z.cell? ⟨wr.heap.size, 2, none⟩ = some (.int .i64 N)
  z3 : Z.cell? ⟨wr.heap.size, 3, none⟩ = some (.int .i64 v)
  old : ∀ b j, b < wr.heap.size → Z.cell? ⟨b, j, none⟩ = wr.cell? ⟨b, j, none⟩
  below : Below wr.heap.size wr Z
theorem locZ (wr : World) (T : TypeId) (K N : Int) (q : Nat) (v : Int) (T2 : ByteArray) (nq : Nat) : LocZ (((wr.alloc (.cells #[.int .i64 K, .string T2, .int .i64 N, .int .i64 (q : Int)] T)).drewN nq).setCell ⟨wr.heap.size, 3, none⟩ (.int .i64 v)) wr K N v T2 := by
  have h0 : Blk ((wr.alloc (.cells #[.int .i64 K, .string T2, .int .i64 N, .int .i64 (q : Int)] T)).drewN nq) wr.heap.size T #[.int .i64 K, .string T2, .int .i64 N, .int .i64 (q : Int)] := Blk.new wr T _
  have h := h0.set 3 (.int .i64 v)
  have hb := (belowDrewN (belowAlloc wr (.cells #[.int .i64 K, .string T2, .int .i64 N, .int .i64 (q : Int)] T)) nq).setCell (p := ⟨wr.heap.size, 3, none⟩) (Nat.le_refl _) (.int .i64 v)
  exact ⟨h.cell 0, h.cell 1, h.cell 2, h.cell 3, fun b j hlt => hb.cell hlt, hb⟩
theorem threeT (s t : ByteArray) : (s ++ (⟨#[10]⟩ : ByteArray) ++ t).data.toList = s.data.toList ++ 10 :: t.data.toList := by
  simp
theorem local3 (s t : ByteArray) : lexT (s ++ (⟨#[10]⟩ : ByteArray) ++ t).data.toList 0 = (match lexT s.data.toList 0 with
    | .error e => .error e
    | .ok a => combR (a ++ [⟨4, [10], 0, (s.size : Int)⟩]) (shR (s.size + 1) (lexT t.data.toList 0))) := by
  unfold lexT
  rw [threeT, lxLine parE parV _ _ _ 0 (Nat.le_refl _)]
  have e1 : 0 + s.data.toList.length = s.size := by rw [Nat.zero_add]; rfl
  cases lx parE parV s.data.toList 0 with
  | error e => rfl
  | ok a =>
    simp only
    rw [e1]
    have e2 := lxShift parE parV (s.size + 1) _ t.data.toList 0 (Nat.le_refl _)
    rw [Nat.zero_add] at e2
    rw [e2]
theorem lexNz {l : List UInt8} {e : Int × Nat} (h : lexT l 0 = .error e) : (e.1 == 0) = false := by
  rw [beq_eq_false_iff_ne]; exact lxErr parE parV _ l 0 e (Nat.le_refl _) h
end Go.Proofs.YtnlhkeobfidjkaaDoor
