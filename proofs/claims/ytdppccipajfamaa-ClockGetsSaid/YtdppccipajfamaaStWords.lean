/-
  Words for slices of clocks and for a map from agents to clocks that the call itself made.
-/
import Derived.Test.YtdppccipajfamaaRefOps2
import Derived.Test.YtdppccipajfamaaRefOps3
import Derived.Test.YtdppccipajfamaaStMath
import Derived.Maps.OwnOps
import Derived.Maps.Views
namespace Go.Proofs.Ytdppccipajfamaa
open Go.RowKit Go.Maps

theorem infoCk : (Try.prog.info? 23).map (fun i => (i.zero, i.size, i.bytes)) = some (some (.slice none 0 0), 1, 24) := by kernel_rfl
/-- v is a row of slices of the call's own. -/
def OwnS (w : World) (base : Nat) (v : Value) (vs : List Value) : Prop := w.ownsRow base 23 1 v vs.length vs
section
variable {w w' : World} {base : Nat} {v : Value} {vs : List Value}
theorem OwnS.nil (w : World) (base : Nat) : OwnS w base (.slice none 0 0) [] := World.ownsRow_nil _ _ _ _
theorem OwnS.alloc (h : OwnS w base v vs) (o : Obj) : OwnS (w.alloc o) base v vs := World.ownsRow.alloc h o
theorem OwnS.chg {F : Nat → Prop} (h : OwnS w base v vs) (hc : Chg w w' F) (hF : ∀ g, v.ownBlock = some g → F g) : OwnS w' base v vs := ownChg2 h hc hF
theorem OwnS.below (h : OwnS w base v vs) (hb : Below w.heap.size w w') : OwnS w' base v vs := h.chg (Chg.ofBelow hb fun _ => True) fun _ _ => trivial
theorem OwnS.lt (h : OwnS w base v vs) {g : Nat} (hg : v.ownBlock = some g) : base ≤ g ∧ g < w.heap.size := World.ownsRow.lt h g hg
theorem OwnS.rds (h : OwnS w base v vs) : ∃ A c, v = .slice A vs.length c ∧ Rds w A c vs ∧ ∀ ad, A = some ad → base ≤ ad.block := by
  obtain ⟨A, c, hv, _, hr, hb⟩ := Rds.ofOwn h
  exact ⟨A, c, hv, hr, hb⟩
theorem OwnS.apart {base' : Nat} {u : Value} {l : Ck} (h : OwnC w base' u l) (hs : OwnS w base v vs) {g : Nat} (hg : u.ownBlock = some g) : v.ownBlock ≠ some g := ownApart2 h hs (by decide) hg
end
/-- The slices vs are clocks of the call's own. -/
def IsS (w : World) (base : Nat) (vs : List Value) (C : Nat → Ck) (k : Nat) : Prop := ∀ i, i < k → ∃ v, vs[i]? = some v ∧ OwnC w base v (C i)
theorem IsS.chg {w w' : World} {F : Nat → Prop} {base : Nat} {vs : List Value} {C : Nat → Ck} {k : Nat} (h : IsS w base vs C k) (hc : Chg w w' F) (hF : ∀ g, base ≤ g → (∀ u l, u.ownBlock = some g → OwnC w base u l → F g)) : IsS w' base vs C k := fun i hi => by
  obtain ⟨v, h1, h2⟩ := h i hi
  exact ⟨v, h1, h2.chg hc fun g hg => hF g (h2.lt hg).1 v _ hg h2⟩
/-- The slice reads as the clocks C 0, .., C (n - 1). -/
def RdS (w : World) (A : Option Addr) (c : Nat) (C : Nat → Ck) (n : Nat) : Prop :=
  ∃ vs, Rds w A c vs ∧ vs.length = n ∧ ∀ i, i < n → ∃ A' c', vs[i]? = some (.slice A' (C i).length c') ∧ Rc w A' c' (C i)
section
variable {w w' : World} {A : Option Addr} {c n : Nat} {C : Nat → Ck}
theorem RdS.below (h : RdS w A c C n) (hb : Below w.heap.size w w') : RdS w' A c C n := by
  obtain ⟨vs, h1, h2, h3⟩ := h
  refine ⟨vs, h1.below hb, h2, fun i hi => ?_⟩
  obtain ⟨A', c', e, hr⟩ := h3 i hi
  exact ⟨A', c', e, hr.below hb⟩
theorem RdS.one (h : RdS w A c C n) {k : Nat} (hk : k < n) : ∃ ad A' c', A = some ad ∧ ad.block < w.heap.size ∧ w.cell? (ad.add k) = some (.slice A' (C k).length c') ∧ Rc w A' c' (C k) := by
  obtain ⟨vs, h1, h2, h3⟩ := h
  obtain ⟨A', c', e, hr⟩ := h3 k hk
  obtain ⟨ad, ea, hb, hc⟩ := h1.at_ (by omega)
  exact ⟨ad, A', c', ea, hb, hc k _ e, hr⟩
theorem RdS.le (h : RdS w A c C n) : n ≤ c := by obtain ⟨vs, h1, h2, _⟩ := h; rw [← h2]; exact h1.le
theorem RdS.max (h : RdS w A c C n) : c ≤ maxLen := by obtain ⟨vs, h1, _, _⟩ := h; exact h1.max
theorem RdS.ofOwn {base base' : Nat} {v : Value} {vs : List Value} (h : OwnS w base v vs) (hl : vs.length = n) (hi : IsS w base' vs C n) : ∃ A c, v = .slice A n c ∧ RdS w A c C n := by
  obtain ⟨A, c, hv, hr, _⟩ := h.rds
  refine ⟨A, c, by rw [hv, hl], vs, hr, hl, fun i hk => ?_⟩
  obtain ⟨v', h1, h2⟩ := hi i hk
  obtain ⟨A', c', rfl, hr', _⟩ := h2.rd
  exact ⟨A', c', h1, hr'⟩
end

/-! A map from integers to values, by what a look-up gives. -/
/-- Each value reads as itself. -/
def RV (v : Value) : Option (DataW Value × List MemPlace) := some (.held v, [])
/-- Block b is a map of at most n entries; a look-up of x gives V x (nil where there is no entry). -/
def MapV (w : World) (b n : Nat) (V : Int → Value) : Prop := ∃ D : DataW Value, w.ownsMap Try.prog 3 RV b n D ∧ ∀ x, D.atKey (.int .i64 x) (.held (.slice none 0 0)) = .held (V x)
theorem keyedInt : Keyed Try.prog 3 := int_keyed Try.underlying3
theorem zeroCk (w : World) : (zeroValue 23).run Try.prog w = .ok (.slice none 0 0) w := by kernel_rfl
theorem MapV.made (w : World) : MapV (w.alloc (.map #[] 0)) w.heap.size 0 (fun _ => .slice none 0 0) := ⟨.map [], World.ownsMap_made _ _ _ _, fun _ => rfl⟩
theorem MapV.lt {w : World} {b n : Nat} {V : Int → Value} (h : MapV w b n V) : b < w.heap.size := by obtain ⟨D, h, _⟩ := h; exact h.lt
theorem MapV.chg {w w' : World} {F : Nat → Prop} {b n : Nat} {V : Int → Value} (h : MapV w b n V) (hc : Chg w w' F) (hF : F b) : MapV w' b n V := by
  have hlt := h.lt
  obtain ⟨D, ⟨es, clock, hb, r⟩, hat⟩ := h
  exact ⟨D, ⟨es, clock, (hc.block b hlt hF).trans hb, r⟩, hat⟩
theorem isMapOf {w : World} {b n : Nat} {D : DataW Value} (h : w.ownsMap Try.prog 3 RV b n D) : IsMap D := by obtain ⟨es, clock, _, _, _, h⟩ := h; exact ⟨_, h⟩
theorem MapV.look {w : World} {b n : Nat} {V : Int → Value} (h : MapV w b n V) {x : Int} (hx : (Lit.int .i64 x).wf = true) : (Instr.lookup 46 (.map (some b)) (.int .i64 x) false).run Try.prog w = .ok (V x) w := by
  obtain ⟨D, h, hat⟩ := h
  obtain ⟨v, ps, hr, hv⟩ := h.lookup (t := 46) keyedInt Try.underlying46 (zeroCk w) (zd := .held (.slice none 0 0)) (zp := []) rfl (keyOf_int_mk Try.underlying3 hx)
  rw [hat] at hv
  simp only [RV, Option.some.injEq, Prod.mk.injEq, DataW.held.injEq] at hv
  rw [hr, hv.1]
theorem MapV.put {w : World} {b n : Nat} {V : Int → Value} (h : MapV w b n V) (hn : n < maxLen) {x : Int} (hx : (Lit.int .i64 x).wf = true) (v : Value) :
    ∃ w', (Instr.mapUpdate 46 (.map (some b)) (.int .i64 x) v).run Try.prog w = .ok () w' ∧ MapV w' b (n + 1) (fun y => if x = y then v else V y) ∧ w.grownBy w' (some b) := by
  obtain ⟨D, h, hat⟩ := h
  have hk := keyOf_int_mk Try.underlying3 hx
  obtain ⟨w', hr, ho, hg⟩ := h.update (t := 46) keyedInt Try.underlying46 hn hk (val := v) (d := .held v) (ps := []) rfl
  refine ⟨w', hr, ⟨_, ho, fun y => ?_⟩, hg⟩
  show _ = DataW.held (if x = y then v else V y)
  split
  · rename_i e; subst e
    exact atKey_put_same (isMapOf h) (keyedInt.key hk) _ _
  · rename_i e
    rw [atKey_put_other (fun e' => e (by injection e' with _ e'; exact e'.symm)), hat]
theorem wpList_lookV (w : World) {ops : Array Oper} {rest : List Oper} {o : Oper} {a : Act} {Q : Exit → Act → World → Prop}
    (hg : o.guard = none) (m x : Operand) (hop : o.op = Op.lookup 46 m x false) (b n : Nat) (V : Int → Value) (hown : MapV w b n V) (hm : a.eval m = .map (some b)) (y : Int) (hx : a.eval x = .int .i64 y) (hy : (Lit.int .i64 y).wf = true)
    (v : Value) (hv : V y = v) (hK : wpList Try.prog ops Q rest (a.put o.dst v) w) : wpList Try.prog ops Q (o :: rest) a w := by
  refine wpList_plain hg fun K' hK' => ?_
  have hrun := hown.look hy
  rw [hv] at hrun
  unfold Oper.wp
  simp [execOp, hop, hm, hx, hrun, Result.andThen]
  exact hK' _ _ hK
theorem wpList_putV (w : World) {ops : Array Oper} {rest : List Oper} {o : Oper} {a : Act} {Q : Exit → Act → World → Prop}
    (hg : o.guard = none) (m x u : Operand) (hop : o.op = Op.mapUpdate 46 m x u) (b n : Nat) (V : Int → Value) (hown : MapV w b n V) (hn : n < maxLen) (hm : a.eval m = .map (some b)) (y : Int) (hx : a.eval x = .int .i64 y) (hy : (Lit.int .i64 y).wf = true)
    (v : Value) (hu : a.eval u = v) (hK : ∀ w', MapV w' b (n + 1) (fun z => if y = z then v else V z) → w.grownBy w' (some b) → wpList Try.prog ops Q rest (a.put o.dst undef) w') : wpList Try.prog ops Q (o :: rest) a w := by
  refine wpList_plain hg fun K' hK' => ?_
  obtain ⟨w', hrun, r1, r2⟩ := hown.put hn hy v
  unfold Oper.wp
  simp [execOp, hop, hm, hx, hu, hrun, Result.andThen]
  exact hK' _ _ (hK w' r1 r2)
end Go.Proofs.Ytdppccipajfamaa
