/-
  Words for sets of pairs: a map from pairs to true that the call itself made, by which pairs it holds.
-/
import Derived.Test.YtpfdhjmhoggioaaPr
import Derived.Maps.OwnOps
import Derived.Maps.Views
import Derived.Maps.OwnSet
import Derived.Maps.RangeWalk
import Derived.WideKeyPair
import Derived.ChangeKeysEq
namespace Go.Proofs.Ytpfdhjmhoggioaa
open Go.RowKit Go.Maps Go.WideMaps

theorem keyOfArrInv {P : Program} {k e : TypeId} (A : ArrKey P k e 2) (he : P.underlying e = some (.int .i64)) (hsz : ∃ m, P.types.size = m + 1) {v : Value} {kl : Lit} (h : keyOf P k v = some kl) :
    ∃ p : Int × Int, v = .agg #[.int .i64 p.1, .int .i64 p.2] ∧ (Lit.int .i64 p.1).wf = true ∧ (Lit.int .i64 p.2).wf = true ∧ kl = .string (keyBytes [.int .i64 p.1, .int .i64 p.2]) := by
  obtain ⟨m, hm⟩ := hsz
  unfold keyOf at h
  simp only [A.hu] at h
  split at h
  · rename_i hf
    rw [Bool.and_eq_true] at hf
    have hg := hf.2
    obtain ⟨c0, c1, rfl⟩ : ∃ c0 c1, v = .agg #[c0, c1] := by
      simp only [Value.formed, A.hu, A.size] at hg
      cases v <;> simp at hg
      rename_i cs
      obtain ⟨l⟩ := cs
      match l, hg with
      | [a, b], _ => exact ⟨a, b, rfl⟩
    rw [hm] at h
    unfold Program.keyLits at h
    simp only [A.hu, Value.cells] at h
    rw [if_pos (by rw [A.size]; rfl), show List.range 2 = [0, 1] from rfl, List.mapM_cons, List.mapM_cons, List.mapM_nil] at h
    simp only [bind, Option.bind_eq_some_iff, pure, Option.some.injEq, Option.map_eq_some_iff, A.one] at h
    obtain ⟨ls, ⟨_, ⟨l0, h0', _, ⟨l1, h1', _, rfl, rfl⟩, rfl⟩, rfl⟩, rfl⟩ := h
    have w0 := keyLits_wf h0'
    have w1 := keyLits_wf h1'
    obtain ⟨x, e0, rfl⟩ := keyLits_int' he h0'
    obtain ⟨y, e1, rfl⟩ := keyLits_int' he h1'
    have e0' : c0 = .int .i64 x := by simpa using e0
    have e1' : c1 = .int .i64 y := by simpa using e1
    subst e0'; subst e1'
    have w0 := w0 (.int .i64 x) (by simp)
    have w1 := w1 (.int .i64 y) (by simp)
    exact ⟨(x, y), rfl, w0, w1, rfl⟩
  · cases h
theorem arrPair : ArrKey Try.prog 38 3 2 := ⟨Try.underlying38, by kernel_rfl, by kernel_rfl, by kernel_rfl⟩
theorem sizeTypes : ∃ m, Try.prog.types.size = m + 1 := by
  have h : 0 < Try.prog.types.size := of_decide_eq_true (by kernel_rfl)
  exact ⟨Try.prog.types.size - 1, by omega⟩
theorem keyedPair : Keyed Try.prog 38 := Keyed.of_law arrPair.law
/-- The pair (x, y) as a value. -/
abbrev pairV (x y : Int) : Value := .agg #[.int .i64 x, .int .i64 y]
/-- What a pair reads as where it is a key. -/
def keyP (x y : Int) : Lit := .string (keyBytes [.int .i64 x, .int .i64 y])
theorem keyOfPair {x y : Int} (hx : (Lit.int .i64 x).wf = true) (hy : (Lit.int .i64 y).wf = true) : keyOf Try.prog 38 (pairV x y) = some (keyP x y) := keyOf_pair arrPair Try.underlying3 sizeTypes hx hy
theorem keyOfPairInv {v : Value} {kl : Lit} (h : keyOf Try.prog 38 v = some kl) : ∃ p : Int × Int, v = pairV p.1 p.2 ∧ (Lit.int .i64 p.1).wf = true ∧ (Lit.int .i64 p.2).wf = true ∧ kl = keyP p.1 p.2 := keyOfArrInv arrPair Try.underlying3 sizeTypes h
theorem keyInj {x y x' y' : Int} (hx : (Lit.int .i64 x).wf = true) (hy : (Lit.int .i64 y).wf = true) (hx' : (Lit.int .i64 x').wf = true) (hy' : (Lit.int .i64 y').wf = true) (h : keyP x y = keyP x' y') : x = x' ∧ y = y' := by
  have := keyedPair.inj (keyOfPair hx hy) (by rw [h]; exact keyOfPair hx' hy')
  simpa using this

/-- Every value of the map is true. -/
def RT : Value → Option (DataW Value × List MemPlace)
  | .bool true => some (.lit (.bool true), [])
  | _ => none
theorem rtTrue {v : Value} {z : DataW Value × List MemPlace} (h : RT v = some z) : v = .bool true := by
  unfold RT at h
  split at h
  · rfl
  · cases h
/-- Pairs of numbers of the kind. -/
abbrev wfP (x y : Int) : Prop := (Lit.int .i64 x).wf = true ∧ (Lit.int .i64 y).wf = true
/-- Block b is a map of at most n entries that holds just the pairs of S. -/
def MapP (w : World) (b n : Nat) (S : Int → Int → Bool) : Prop := ∃ D : DataW Value, w.ownsMap Try.prog 38 RT b n D ∧ ∀ x y, wfP x y → has D (keyP x y) = S x y
theorem zeroBool (w : World) : (zeroValue 4).run Try.prog w = .ok (.bool false) w := by kernel_rfl
section
variable {w w' : World} {b n : Nat} {S : Int → Int → Bool} {F : Nat → Prop}
theorem MapP.made (w : World) : MapP (w.alloc (.map #[] 0)) w.heap.size 0 (fun _ _ => false) := ⟨.map [], World.ownsMap_made _ _ _ _, fun _ _ _ => rfl⟩
theorem MapP.lt (h : MapP w b n S) : b < w.heap.size := by obtain ⟨D, h, _⟩ := h; exact h.lt
theorem MapP.chg (h : MapP w b n S) (hc : Chg w w' F) (hF : F b) : MapP w' b n S := by
  have hlt := h.lt
  obtain ⟨D, ⟨es, clock, hb, r⟩, hat⟩ := h
  exact ⟨D, ⟨es, clock, (hc.block b hlt hF).trans hb, r⟩, hat⟩
theorem MapP.below (h : MapP w b n S) (hb : Below w.heap.size w w') : MapP w' b n S := h.chg (Chg.ofBelow hb fun _ => True) trivial
theorem MapP.alloc (h : MapP w b n S) (o : Obj) : MapP (w.alloc o) b n S := h.below (belowAlloc w o)
theorem MapP.congr {T : Int → Int → Bool} (h : MapP w b n S) (hT : ∀ x y, wfP x y → S x y = T x y) : MapP w b n T := by
  obtain ⟨D, h1, h2⟩ := h
  exact ⟨D, h1, fun x y hw => (h2 x y hw).trans (hT x y hw)⟩
theorem MapP.mono (h : MapP w b n S) {m : Nat} (hn : n ≤ m) : MapP w b m S := by
  obtain ⟨D, h1, h2⟩ := h
  exact ⟨D, h1.mono hn, h2⟩
theorem MapP.look (h : MapP w b n S) {x y : Int} (hw : wfP x y) : (Instr.lookup 42 (.map (some b)) (pairV x y) false).run Try.prog w = .ok (.bool (S x y)) w := by
  obtain ⟨D, ⟨es, clock, hb, F, hs, rfl⟩, hat⟩ := h
  rw [← hat x y hw]
  rcases Maps.fit_look false keyedPair Try.underlying42 (zeroBool w) hb F (keyOfPair hw.1 hw.2) with ⟨h1, h2, h3⟩ | ⟨e0, z, h1, h2, h3, h4, h5, _⟩
  · rw [h1, has_false_of_atKey h3]; rfl
  · rw [h3, has_true_of_atKey h5]
    rw [rtTrue h4]; rfl
theorem MapP.put (h : MapP w b n S) (hn : n < maxLen) {x y : Int} (hw : wfP x y) :
    ∃ w', (Instr.mapUpdate 42 (.map (some b)) (pairV x y) (.bool true)).run Try.prog w = .ok () w' ∧ MapP w' b (n + 1) (fun u v => S u v || decide (u = x ∧ v = y)) ∧ w.grownBy w' (some b) := by
  obtain ⟨D, h, hat⟩ := h
  have hk := keyOfPair hw.1 hw.2
  obtain ⟨w', hr, ho, hg⟩ := h.update (t := 42) keyedPair Try.underlying42 hn hk (val := .bool true) (d := .lit (.bool true)) (ps := []) rfl
  refine ⟨w', hr, ⟨_, ho, fun u v huv => ?_⟩, hg⟩
  by_cases e : u = x ∧ v = y
  · obtain ⟨rfl, rfl⟩ := e
    rw [has_put_same h.isMap (keyedPair.key hk)]
    simp
  · rw [has_put_other (fun e' => e (keyInj huv.1 huv.2 hw.1 hw.2 e')), hat u v huv]
    show S u v = (S u v || decide (u = x ∧ v = y))
    rw [decide_eq_false e, Bool.or_false]
theorem MapP.del (h : MapP w b n S) {x y : Int} (hw : wfP x y) (ty : TypeId) :
    ∃ w', (Builtin.delete_ #[42, 38] ty #[.map (some b), pairV x y]).run Try.prog w = .ok (.tuple #[]) w' ∧ MapP w' b n (fun u v => S u v && !decide (u = x ∧ v = y)) ∧ w.grownBy w' (some b) := by
  obtain ⟨D, ⟨es, clock, hb, F, hs, rfl⟩, hat⟩ := h
  have hk := keyOfPair hw.1 hw.2
  obtain ⟨es', hr, F', hle, hdel, _⟩ := fit_drop_who (ty := ty) keyedPair Try.underlying42 hb F hk
  refine ⟨_, hr, ⟨_, ⟨es', clock, ChangeMaps.heap_setBlock_same hb _, F', Nat.le_trans hle hs, rfl⟩, fun u v huv => ?_⟩, ⟨rfl, rfl, rfl, by simp [ChangeMaps.setBlock], fun i _ hi => ChangeMaps.heap_setBlock_other hb _ (fun e => hi (by rw [e]))⟩⟩
  have hd : DataW.map ((es'.toList.map (WideElems.rg Try.prog 38 RT)).foldr DataW.insert []) = (DataW.map ((es.toList.map (WideElems.rg Try.prog 38 RT)).foldr DataW.insert [])).del (keyP x y) := by rw [DataW.del_eq, hdel]
  rw [hd]
  by_cases e : u = x ∧ v = y
  · obtain ⟨rfl, rfl⟩ := e
    rw [has_del_same]
    simp
  · rw [has_del_other (fun e' => e (keyInj huv.1 huv.2 hw.1 hw.2 e')), hat u v huv]
    show S u v = (S u v && !decide (u = x ∧ v = y))
    rw [decide_eq_false e]
    simp
end
theorem wpList_lookP (w : World) {ops : Array Oper} {rest : List Oper} {o : Oper} {a : Act} {Q : Exit → Act → World → Prop}
    (hg : o.guard = none) (m x : Operand) (hop : o.op = Op.lookup 42 m x false) (b n : Nat) (S : Int → Int → Bool) (hown : MapP w b n S) (hm : a.eval m = .map (some b)) (y z : Int) (hx : a.eval x = pairV y z) (hy : wfP y z)
    (v : Bool) (hv : S y z = v) (hK : wpList Try.prog ops Q rest (a.put o.dst (.bool v)) w) : wpList Try.prog ops Q (o :: rest) a w := by
  refine wpList_plain hg fun K' hK' => ?_
  have hrun := hown.look hy
  rw [hv] at hrun
  unfold Oper.wp
  simp [execOp, hop, hm, hx, hrun, Result.andThen]
  exact hK' _ _ hK
theorem wpList_putP (w : World) {ops : Array Oper} {rest : List Oper} {o : Oper} {a : Act} {Q : Exit → Act → World → Prop}
    (hg : o.guard = none) (m x u : Operand) (hop : o.op = Op.mapUpdate 42 m x u) (b n : Nat) (S : Int → Int → Bool) (hown : MapP w b n S) (hn : n < maxLen) (hm : a.eval m = .map (some b)) (y z : Int) (hx : a.eval x = pairV y z) (hy : wfP y z)
    (hu : a.eval u = .bool true) (hK : ∀ w', MapP w' b (n + 1) (fun s t => S s t || decide (s = y ∧ t = z)) → w.grownBy w' (some b) → wpList Try.prog ops Q rest (a.put o.dst undef) w') : wpList Try.prog ops Q (o :: rest) a w := by
  refine wpList_plain hg fun K' hK' => ?_
  obtain ⟨w', hrun, r1, r2⟩ := hown.put hn hy
  unfold Oper.wp
  simp [execOp, hop, hm, hx, hu, hrun, Result.andThen]
  exact hK' _ _ (hK w' r1 r2)
theorem wpList_delP (w : World) {ops : Array Oper} {rest : List Oper} {o : Oper} {a : Act} {Q : Exit → Act → World → Prop}
    (hg : o.guard = none) (m x : Operand) (hop : o.op = Op.call { callee := Callee.builtin Builtin.delete, args := #[m, x], argTypes := #[42, 38] }) (b n : Nat) (S : Int → Int → Bool) (hown : MapP w b n S) (hm : a.eval m = .map (some b)) (y z : Int) (hx : a.eval x = pairV y z) (hy : wfP y z)
    (hK : ∀ w', MapP w' b n (fun s t => S s t && !decide (s = y ∧ t = z)) → w.grownBy w' (some b) → wpList Try.prog ops Q rest (a.put o.dst (.tuple #[])) w') : wpList Try.prog ops Q (o :: rest) a w := by
  refine wpList_plain hg fun K' hK' => ?_
  obtain ⟨w', hrun, r1, r2⟩ := hown.del hy o.type
  unfold Oper.wp
  simp [execOp, hop, resolve, invoke, builtin, hm, hx, hrun, Result.andThen]
  exact hK' _ _ (hK w' r1 r2)
end Go.Proofs.Ytpfdhjmhoggioaa
