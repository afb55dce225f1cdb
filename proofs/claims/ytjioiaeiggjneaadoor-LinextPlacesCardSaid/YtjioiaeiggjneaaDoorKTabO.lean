/-
  continuations' table: a map from sets to numbers: which sets are in it, what is entered for each, how many there are.
-/
import Derived.Test.YtjioiaeiggjneaaDoorKLinY
import Derived.Test.YtjioiaeiggjneaaDoorKChg
import Derived.Maps.OwnSet
import Derived.Test.YtjioiaeiggjneaaDoorKLinH
namespace Go.Proofs.YtjioiaeiggjneaaDoor
open Go Go.RowKit Go.Maps

/-- Each value reads as itself. -/
def RW (v : Value) : Option (DataW Value × List MemPlace) := some (.held v, [])
theorem keyedSet : Keyed Tryd.prog 51 := int_keyed Tryd.underlying51
/-- Block b is the table of the sets D; V says what is entered for each. -/
def MapT (w : World) (b : Nat) (D : List Nat) (V : Nat → Int) : Prop := ∃ T : DataW Value, w.ownsMap Tryd.prog 51 RW b D.length T ∧ Maps.size T = D.length ∧
  (∀ x : Nat, x < B64 → Maps.has T (.int .u64 x) = decide (x ∈ D)) ∧ ∀ x : Nat, x < B64 → T.atKey (.int .u64 x) (.held (.int .i64 0)) = .held (.int .i64 (if x ∈ D then V x else 0))
section
variable {w w' : World} {b : Nat} {D : List Nat} {V : Nat → Int} {F : Nat → Prop}
theorem zeroI (w : World) : (zeroValue 3).run Tryd.prog w = .ok (.int .i64 0) w := by kernel_rfl
theorem setLit {x : Nat} (hx : x < B64) : (Lit.int .u64 (x : Int)).wf = true := by
  rw [b64Pow] at hx
  have h1 : IntKind.u64.min = 0 := rfl
  have h2 : IntKind.u64.max = 18446744073709551615 := by decide
  rw [Lit.wf, h1, h2, Bool.and_eq_true, decide_eq_true_iff, decide_eq_true_iff]
  omega
theorem litInj {x y : Nat} (h : Lit.int .u64 (x : Int) = Lit.int .u64 (y : Int)) : x = y := Int.ofNat_inj.1 (Lit.int.inj h).2
theorem MapT.made (w : World) : MapT (w.alloc (.map #[] 0)) w.heap.size [] V := ⟨.map [], World.ownsMap_made _ _ _ _, rfl, fun _ _ => rfl, fun _ _ => rfl⟩
theorem MapT.lt (h : MapT w b D V) : b < w.heap.size := by obtain ⟨T, h, _⟩ := h; exact h.lt
theorem MapT.chg (h : MapT w b D V) (hc : Chg w w' F) (hF : F b) : MapT w' b D V := by
  have hlt := h.lt
  obtain ⟨T, ⟨es, clock, hb, r⟩, hat⟩ := h
  exact ⟨T, ⟨es, clock, (hc.block b hlt hF).trans hb, r⟩, hat⟩
theorem MapT.look (h : MapT w b D V) {x : Nat} (hx : x < B64) : (Instr.lookup 47 (.map (some b)) (.int .u64 x) true).run Tryd.prog w = .ok (.tuple #[.int .i64 (if x ∈ D then V x else 0), .bool (decide (x ∈ D))]) w := by
  obtain ⟨T, h, _, hh, hat⟩ := h
  obtain ⟨v, ps, hr, hv⟩ := h.look_ok (t := 47) keyedSet Tryd.underlying47 (zeroI w) (zd := .held (.int .i64 0)) (zp := []) rfl (keyOf_int_mk Tryd.underlying51 (setLit hx))
  rw [hat x hx] at hv
  simp only [RW, Option.some.injEq, Prod.mk.injEq, DataW.held.injEq] at hv
  rw [hr, hv.1, hh x hx]
theorem MapT.look1 (h : MapT w b D V) {x : Nat} (hx : x < B64) : (Instr.lookup 47 (.map (some b)) (.int .u64 x) false).run Tryd.prog w = .ok (.int .i64 (if x ∈ D then V x else 0)) w := by
  obtain ⟨T, h, _, hh, hat⟩ := h
  obtain ⟨v, ps, hr, hv⟩ := h.lookup (t := 47) keyedSet Tryd.underlying47 (zeroI w) (zd := .held (.int .i64 0)) (zp := []) rfl (keyOf_int_mk Tryd.underlying51 (setLit hx))
  rw [hat x hx] at hv
  simp only [RW, Option.some.injEq, Prod.mk.injEq, DataW.held.injEq] at hv
  rw [hr, hv.1]
theorem MapT.len (h : MapT w b D V) (ty : TypeId) : (Builtin.len_ #[47] ty #[.map (some b)]).run Tryd.prog w = .ok (.int .i64 D.length) w := by
  obtain ⟨T, h, hs, _⟩ := h
  rw [← hs]
  exact h.len Tryd.underlying47 ty
theorem MapT.put (h : MapT w b D V) (hn : D.length < maxLen) {s : Nat} (hs : s ∉ D) (hx : s < B64) (v : Int) (hv : V s = v) :
    ∃ w', (Instr.mapUpdate 47 (.map (some b)) (.int .u64 s) (.int .i64 v)).run Tryd.prog w = .ok () w' ∧ MapT w' b (D ++ [s]) V ∧ w.mapTurned w' b := by
  obtain ⟨T, h, hsz, hh, hat⟩ := h
  have hk := keyOf_int_mk (P := Tryd.prog) Tryd.underlying51 (setLit hx)
  obtain ⟨w', hr, ho, hg⟩ := h.store (t := 47) keyedSet Tryd.underlying47 hn hk (val := .int .i64 v) (d := .held (.int .i64 v)) (ps := []) rfl
  have hlen : (D ++ [s]).length = D.length + 1 := by simp
  refine ⟨w', hr, ⟨_, by rw [hlen]; exact ho, ?_, fun y hy => ?_, fun y hy => ?_⟩, hg⟩
  · rw [size_put (h.tidy keyedSet), hh s hx, decide_eq_false hs, hsz, hlen]
    rfl
  · by_cases e : y = s
    · subst e
      rw [has_put_same h.isMap (keyedSet.key hk)]
      simp
    · rw [has_put_other (fun e' => e (litInj e')), hh y hy]
      simp [e]
  · by_cases e : y = s
    · subst e
      rw [atKey_put_same h.isMap (keyedSet.key hk)]
      simp [hv]
    · rw [atKey_put_other (fun e' => e (litInj e')), hat y hy]
      simp [e]
end
end Go.Proofs.YtjioiaeiggjneaaDoor

namespace Go.Proofs.YtjioiaeiggjneaaDoor
open Go Go.RowKit Go.Shelf
section
variable {F : Fence} {n : Nat} {P : Program} {ops : Array Oper} {rest : List Oper} {o : Oper} {a : Act}
theorem wpListIn_look (w : World) {Q : Exit → Act → World → Prop} (hgd : o.guard = none) (m x : Operand) (t : TypeId) (c : Bool) (ho : o.op = .lookup t m x c) {vm vx v : Value} (hm : a.eval m = vm) (hx : a.eval x = vx)
    (hrun : (Instr.lookup t vm vx c).run P w = .ok v w) (h : wpListIn F n P ops Q rest (a.put o.dst v) w) : wpListIn F n P ops Q (o :: rest) a w := by
  refine wpListIn_plain hgd fun K hK => ?_
  unfold Oper.wpIn
  refine ⟨?_, ?_⟩
  · simp [Oper.about, ho]
  · rw [Oper.semAt_plain F _ _ (by rw [ho]; intro c hc'; cases hc')]
    unfold execOp
    simp only [ho, hm, hx, Sem.run_bind, Sem.run_pure, hrun, Result.andThen_ok]
    exact hK _ _ h
theorem wpListIn_enter (w : World) {Q : Exit → Act → World → Prop} (hgd : o.guard = none) (m x u : Operand) (t : TypeId) (ho : o.op = .mapUpdate t m x u) {vm vx vu : Value} {w' : World} (hm : a.eval m = vm) (hx : a.eval x = vx) (hu : a.eval u = vu)
    (hrun : (Instr.mapUpdate t vm vx vu).run P w = .ok () w') (h : wpListIn F n P ops Q rest (a.put o.dst undef) w') : wpListIn F n P ops Q (o :: rest) a w := by
  refine wpListIn_plain hgd fun K hK => ?_
  unfold Oper.wpIn
  refine ⟨?_, ?_⟩
  · simp [Oper.about, ho]
  · rw [Oper.semAt_plain F _ _ (by rw [ho]; intro c hc'; cases hc')]
    unfold execOp
    simp only [ho, hm, hx, hu, Sem.run_bind, Sem.run_pure, hrun, Result.andThen_ok]
    exact hK _ _ h
theorem stepInLook (w : World) {K : Act → World → Prop} {Q : Exit → Act → World → Prop} {E : Prop} (hgd : o.guard = none) (m x : Operand) (t : TypeId) (c : Bool) (ho : o.op = .lookup t m x c) {vm vx v : Value} (hm : a.eval m = vm) (hx : a.eval x = vx)
    (hrun : (Instr.lookup t vm vx c).run P w = .ok v w) (h : K (a.put o.dst v) w) : if Region.wanted o (yielded ops a.tmps) = true then Oper.wpIn F n P o a w K Q else E := by
  have hw : Region.wanted o (yielded ops a.tmps) = true := by simp [Region.wanted, hgd]
  rw [if_pos hw]
  unfold Oper.wpIn
  refine ⟨?_, ?_⟩
  · simp [Oper.about, ho]
  · rw [Oper.semAt_plain F _ _ (by rw [ho]; intro c hc'; cases hc')]
    unfold execOp
    simp only [ho, hm, hx, Sem.run_bind, Sem.run_pure, hrun, Result.andThen_ok]
    exact h
end
end Go.Proofs.YtjioiaeiggjneaaDoor
