/-
  Liveness of registers: the least solution, and tables that grow to it. Without any program.
-/
import Derived.Test.YtkanamdfjegcbaaDoorCC6
import Derived.Test.YtkanamdfjegcbaaDoorCC5
import Derived.Test.YtkanamdfjegcbaaDoorCCfK
import Derived.Test.YtkanamdfjegcbaaDoorCInsQ
import Derived.Test.YtkanamdfjegcbaaDoorCG3
import Derived.Test.YtkanamdfjegcbaaDoorCOp
import Derived.Test.YtkanamdfjegcbaaDoorCR
import Derived.Test.YtkanamdfjegcbaaDoorCOwn
import Derived.ArgAppend
namespace Go.Proofs.YtkanamdfjegcbaaDoor

/-- Instruction k reads register r. -/
def rdB (C : List I8) (k : Nat) (r : Int) : Bool := match C[k]? with
  | some i => decide (r ∈ i.uses)
  | none => false
/-- Instruction k writes register r. -/
def wrB (C : List I8) (k : Nat) (r : Int) : Bool := match C[k]? with
  | some i => i.dfB && decide (i.dfR = r)
  | none => false
def rgB (r : Int) : Bool := decide (0 ≤ r ∧ r < 8)
/-- The steps of a search for a read of r. -/
def lgr (C : List I8) (r : Int) (k : Nat) : List Nat := match wrB C k r with
  | true => []
  | false => sc C k
/-- Where a search for r ends. -/
def enB (C : List I8) (ex : Bool) (r : Int) (k : Nat) : Bool := rdB C k r || (decide (k = C.length) && ex && rgB r)
def LvP (C : List I8) (ex : Bool) (k : Nat) (r : Int) : Prop := ∃ x, Rc (lgr C r) (fun _ => true) k x ∧ enB C ex r x = true
noncomputable def lvB (C : List I8) (ex : Bool) (k : Nat) (r : Int) : Bool := @decide (LvP C ex k r) (Classical.propDecidable _)
theorem lvIff {C : List I8} {ex : Bool} {k : Nat} {r : Int} : lvB C ex k r = true ↔ LvP C ex k r := by unfold lvB; exact @decide_eq_true_iff _ (Classical.propDecidable _)
/-- What is live before k, by what is live before the others. -/
def lfF (C : List I8) (T : Nat → Int → Bool) (k : Nat) (r : Int) : Bool := rdB C k r || (!wrB C k r && (sc C k).any fun y => T y r)
theorem rdOut {C : List I8} {k : Nat} {r : Int} (h : C.length ≤ k) : rdB C k r = false := by unfold rdB; rw [List.getElem?_eq_none h]
theorem rdAt {C : List I8} {k : Nat} (h : k < C.length) (r : Int) : rdB C k r = decide (r ∈ C[k].uses) := by unfold rdB; rw [List.getElem?_eq_getElem h]
theorem wrAt {C : List I8} {k : Nat} (h : k < C.length) (r : Int) : wrB C k r = (C[k].dfB && decide (C[k].dfR = r)) := by unfold wrB; rw [List.getElem?_eq_getElem h]
theorem rdLt {C : List I8} {k : Nat} {r : Int} (h : rdB C k r = true) : k < C.length := by
  refine Classical.byContradiction fun hn => ?_
  rw [rdOut (by omega)] at h; cases h
theorem rdRg {C : List I8} (hok : CfOk C) {k : Nat} {r : Int} (h : rdB C k r = true) : rgB r = true := by
  have hk := rdLt h
  rw [rdAt hk, decide_eq_true_iff] at h
  have hc := hok.chk C[k] (List.getElem_mem hk)
  unfold I8.uses at h
  rw [if_pos hc, memMk] at h
  have hg := I8.good hc
  unfold I8.rdL at h
  unfold rgB
  refine decide_eq_true ?_
  rcases List.mem_append.1 h with h | h
  · split at h
    · rw [List.mem_singleton] at h; rw [h]; exact hg.b
    · cases h
  · split at h
    · rw [List.mem_singleton] at h; rw [h]; exact hg.c
    · cases h
theorem lgrMem {C : List I8} {r : Int} {k y : Nat} : y ∈ lgr C r k ↔ wrB C k r = false ∧ y ∈ sc C k := by
  unfold lgr
  cases wrB C k r <;> simp
theorem lvEnd {C : List I8} {ex : Bool} {k : Nat} {r : Int} (h : enB C ex r k = true) : lvB C ex k r = true := lvIff.2 ⟨k, Rc.refl rfl, h⟩
theorem lvStep {C : List I8} {ex : Bool} {k y : Nat} {r : Int} (hw : wrB C k r = false) (hy : y ∈ sc C k) (h : lvB C ex y r = true) : lvB C ex k r = true := by
  obtain ⟨x, hr, he⟩ := lvIff.1 h
  exact lvIff.2 ⟨x, Rc.step rfl (lgrMem.2 ⟨hw, hy⟩) hr, he⟩
theorem lvInd {C : List I8} {ex : Bool} {r : Int} {P : Nat → Prop} (h0 : ∀ k, enB C ex r k = true → P k) (h1 : ∀ k y, wrB C k r = false → y ∈ sc C k → P y → P k) {k : Nat} (h : lvB C ex k r = true) : P k := by
  obtain ⟨x, hr, he⟩ := lvIff.1 h
  exact hr.ind (P := P) (fun _ => h0 x he) fun s y _ hy _ hp => h1 s y (lgrMem.1 hy).1 (lgrMem.1 hy).2 hp
theorem lvRg {C : List I8} (hok : CfOk C) {ex : Bool} {k : Nat} {r : Int} (h : lvB C ex k r = true) : rgB r = true :=
  lvInd (P := fun _ => rgB r = true) (fun k hk => by
    unfold enB at hk
    rw [Bool.or_eq_true, Bool.and_eq_true, Bool.and_eq_true] at hk
    rcases hk with hk | hk
    · exact rdRg hok hk
    · exact hk.2) (fun _ _ _ _ h => h) h
theorem scOut {C : List I8} {k : Nat} (h : C.length ≤ k) : sc C k = [] := by unfold sc; rw [List.getElem?_eq_none h]
/-- The least solution is one. -/
theorem lvFix {C : List I8} {ex : Bool} {k : Nat} {r : Int} (hk : k < C.length) : lvB C ex k r = lfF C (lvB C ex) k r := by
  rw [Bool.eq_iff_iff]
  unfold lfF
  rw [Bool.or_eq_true, Bool.and_eq_true, Bool.not_eq_true', List.any_eq_true]
  constructor
  · intro h
    obtain ⟨x, hr, he⟩ := lvIff.1 h
    refine hr.ind (P := fun k => k < C.length → rdB C k r = true ∨ wrB C k r = false ∧ ∃ y, y ∈ sc C k ∧ lvB C ex y r = true) (fun _ hx => ?_) (fun s y _ hy hyx _ hs => ?_) hk
    · unfold enB at he
      rw [Bool.or_eq_true, Bool.and_eq_true, Bool.and_eq_true, decide_eq_true_iff] at he
      rcases he with he | he
      · exact .inl he
      · omega
    · exact .inr ⟨(lgrMem.1 hy).1, y, (lgrMem.1 hy).2, lvIff.2 ⟨x, hyx, he⟩⟩
  · rintro (h | ⟨hw, y, hy, h⟩)
    · exact lvEnd (by unfold enB; rw [h]; rfl)
    · exact lvStep hw hy h
theorem lvOut {C : List I8} {ex : Bool} {r : Int} : lvB C ex C.length r = (ex && rgB r) := by
  rw [Bool.eq_iff_iff]
  constructor
  · intro h
    obtain ⟨x, hr, he⟩ := lvIff.1 h
    have hx : x = C.length := hr.fwd (P := fun x => x = C.length) rfl fun u v _ hu hv _ => by
      rw [lgrMem, hu, scOut (Nat.le_refl _)] at hv
      cases hv.2
    subst hx
    unfold enB at he
    rw [rdOut (Nat.le_refl _), decide_eq_true rfl] at he
    exact he
  · intro h
    refine lvEnd ?_
    unfold enB
    rw [decide_eq_true rfl, Bool.true_and, h, Bool.or_true]
/-- A table on its way to the least solution. -/
structure LfT (C : List I8) (ex : Bool) (T : Nat → Int → Bool) : Prop where
  sub : ∀ k r, k ≤ C.length → T k r = true → lvB C ex k r = true
  out : ∀ r, T C.length r = (ex && rgB r)
  inc : ∀ k r, k < C.length → T k r = true → lfF C T k r = true
section
variable {C : List I8} {ex : Bool} {T : Nat → Int → Bool}
theorem lfStart : LfT C ex (fun k r => decide (k = C.length) && (ex && rgB r)) := by
  refine ⟨fun k r _ h => ?_, fun r => by rw [decide_eq_true rfl, Bool.true_and], fun k r hk h => ?_⟩
  · rw [Bool.and_eq_true, decide_eq_true_iff] at h
    obtain ⟨rfl, h⟩ := h
    rw [lvOut]; exact h
  · rw [decide_eq_false (by omega), Bool.false_and] at h
    cases h
/-- Place k of the table gets what follows from the others. -/
def lfPut (C : List I8) (T : Nat → Int → Bool) (k : Nat) (j : Nat) (r : Int) : Bool := if j = k then lfF C T k r else T j r
theorem lfUp (hle : ∀ k y, y ∈ sc C k → y ≤ C.length) (h : LfT C ex T) {k : Nat} (hk : k < C.length) : LfT C ex (lfPut C T k) := by
  have hup : ∀ y r, y ≤ C.length → T y r = true → lfPut C T k y r = true := fun y r _ hT => by
    unfold lfPut
    split
    · rename_i e
      subst e
      exact h.inc y r hk hT
    · exact hT
  refine ⟨fun j r hj hT => ?_, fun r => ?_, fun j r hj hT => ?_⟩
  · unfold lfPut at hT
    split at hT
    · rename_i e
      subst e
      rw [lvFix hk]
      unfold lfF at hT ⊢
      rw [Bool.or_eq_true, Bool.and_eq_true, List.any_eq_true] at hT ⊢
      rcases hT with hT | ⟨h1, y, hy, h2⟩
      · exact .inl hT
      · exact .inr ⟨h1, y, hy, h.sub y r (hle j y hy) h2⟩
    · exact h.sub j r hj hT
  · unfold lfPut
    rw [if_neg (by omega)]
    exact h.out r
  · have h1 : lfF C T j r = true := by
      unfold lfPut at hT
      split at hT
      · rename_i e
        subst e
        exact hT
      · exact h.inc j r hj hT
    unfold lfF at h1 ⊢
    rw [Bool.or_eq_true, Bool.and_eq_true, List.any_eq_true] at h1 ⊢
    rcases h1 with h1 | ⟨h1, y, hy, h2⟩
    · exact .inl h1
    · exact .inr ⟨h1, y, hy, hup y r (hle j y hy) h2⟩
/-- A table that no place turns is the least solution. -/
theorem lfEnd (h : LfT C ex T) (hf : ∀ k r, k < C.length → lfF C T k r = true → T k r = true) {k : Nat} (hk : k ≤ C.length) (hle : ∀ k y, y ∈ sc C k → y ≤ C.length) (r : Int) : T k r = lvB C ex k r := by
  rw [Bool.eq_iff_iff]
  refine ⟨h.sub k r hk, fun hl => ?_⟩
  refine lvInd (P := fun k => k ≤ C.length → T k r = true) (fun k he hk => ?_) (fun k y hw hy hp hk => ?_) hl hk
  · unfold enB at he
    rw [Bool.or_eq_true, Bool.and_eq_true, Bool.and_eq_true, decide_eq_true_iff] at he
    rcases he with he | ⟨⟨rfl, h1⟩, h2⟩
    · refine hf k r (rdLt he) ?_
      unfold lfF
      rw [he]; rfl
    · rw [h.out, h1, h2]; rfl
  · by_cases hkn : k < C.length
    · refine hf k r hkn ?_
      unfold lfF
      rw [Bool.or_eq_true, Bool.and_eq_true, List.any_eq_true]
      exact .inr ⟨by rw [hw]; rfl, y, hy, hp (hle k y hy)⟩
    · rw [scOut (by omega)] at hy
      cases hy
end
/-- The registers of a place in order. -/
def rgL (T : Int → Bool) : List Int := ([0, 1, 2, 3, 4, 5, 6, 7] : List Int).filter T
theorem rgLMem {T : Int → Bool} (hT : ∀ r, T r = true → rgB r = true) {r : Int} : r ∈ rgL T ↔ T r = true := by
  unfold rgL
  rw [List.mem_filter]
  refine ⟨fun h => h.2, fun h => ⟨?_, h⟩⟩
  have := of_decide_eq_true (hT r h)
  simp only [List.mem_cons, List.not_mem_nil, or_false]
  omega
theorem rgLSrt {T : Int → Bool} : Srt (rgL T) := by
  unfold Srt rgL
  exact List.Pairwise.filter _ (by decide)
theorem rgLLen {T : Int → Bool} : (rgL T).length ≤ 8 := Nat.le_trans (List.length_filter_le _ _) (by decide)
end Go.Proofs.YtkanamdfjegcbaaDoor

namespace Go.Proofs.YtkanamdfjegcbaaDoor
open Go Go.RowKit Go.Maps Go.Shelf

/-- Block b is the set S of numbers; it has at most n entries. -/
def SetM (w : World) (b n : Nat) (S : Int → Bool) : Prop := ∃ T : DataW Value, w.ownsMap Tryd.prog 3 RW9 b n T ∧ (∀ x : Int, Maps.has T (.int .i64 x) = S x) ∧ ∀ x : Int, T.atKey (.int .i64 x) (.held (.bool false)) = .held (.bool (S x))
/-- v, a map or nil, is the set S. -/
def SetV (w : World) (v : Value) (S : Int → Bool) : Prop := (v = .map none ∧ ∀ x, S x = false) ∨ ∃ b n, v = .map (some b) ∧ n ≤ 1000 ∧ SetM w b n S
/-- All of them are registers. -/
def Regs (S : Int → Bool) : Prop := ∀ r, S r = true → rgB r = true
theorem rgLit {x : Int} (h : rgB x = true) : (Lit.int .i64 x).wf = true := by
  have h0 := of_decide_eq_true h
  have h1 : IntKind.i64.min = -9223372036854775808 := rfl
  have h2 : IntKind.i64.max = 9223372036854775807 := by decide
  rw [Lit.wf, h1, h2, Bool.and_eq_true, decide_eq_true_iff, decide_eq_true_iff]
  omega
theorem zeroBR (w : World) : (zeroValue 4).run Tryd.prog w = .ok (.bool false) w := by kernel_rfl
section
variable {w w' : World} {b n : Nat} {S : Int → Bool} {F : Nat → Prop}
theorem SetM.made (w : World) : SetM (w.alloc (.map #[] 0)) w.heap.size 0 (fun _ => false) := ⟨.map [], World.ownsMap_made _ _ _ _, fun _ => rfl, fun _ => rfl⟩
theorem SetM.lt (h : SetM w b n S) : b < w.heap.size := by obtain ⟨T, h, _⟩ := h; exact h.lt
theorem SetM.chg (h : SetM w b n S) (hc : Chg w w' F) (hF : F b) : SetM w' b n S := by
  have hlt := h.lt
  obtain ⟨T, ⟨es, clock, hb, r⟩, hat⟩ := h
  exact ⟨T, ⟨es, clock, (hc.block b hlt hF).trans hb, r⟩, hat⟩
theorem SetM.below (h : SetM w b n S) (hb : Below w.heap.size w w') : SetM w' b n S := h.chg (Chg.ofBelow hb fun _ => True) trivial
theorem SetM.mono {n' : Nat} (h : SetM w b n S) (hn : n ≤ n') : SetM w b n' S := by
  obtain ⟨T, h, r⟩ := h
  exact ⟨T, h.mono hn, r⟩
theorem SetM.congr {S' : Int → Bool} (h : SetM w b n S) (e : ∀ x, S x = S' x) : SetM w b n S' := by
  have : S = S' := funext e
  exact this ▸ h
theorem SetM.notCells (h : SetM w b n S) : ∃ o, w.heap[b]? = some o ∧ o.isCells = false := by
  obtain ⟨T, ⟨es, clock, hb, r⟩, hat⟩ := h
  exact ⟨_, hb, rfl⟩
theorem SetV.chg {v : Value} (h : SetV w v S) (hc : Chg w w' F) (hF : ∀ b, v = .map (some b) → F b) : SetV w' v S := by
  rcases h with h | ⟨b, n, e, hn, h⟩
  · exact .inl h
  · exact .inr ⟨b, n, e, hn, h.chg hc (hF b e)⟩
theorem SetV.below {v : Value} (h : SetV w v S) (hb : Below w.heap.size w w') : SetV w' v S := h.chg (Chg.ofBelow hb fun _ => True) fun _ _ => trivial
theorem SetV.congr {v : Value} {S' : Int → Bool} (h : SetV w v S) (e : ∀ x, S x = S' x) : SetV w v S' := by
  have : S = S' := funext e
  exact this ▸ h
theorem regSz {T : DataW Value} (hown : w.ownsMap Tryd.prog 3 RW9 b n T) (hh : ∀ x : Int, Maps.has T (.int .i64 x) = S x) (hS : Regs S) : (rgL S).Perm (intKeys T) ∧ Maps.size T = (rgL S).length := by
  have hnd : (rgL S).Nodup := (rgLSrt (T := S)).imp fun h => by omega
  have hp : (rgL S).Perm (intKeys T) := CollectedI.perm (left := fun _ => false) ⟨hnd, fun x => by
    rw [rgLMem hS, hh x]; simp⟩ hown keyedInt Tryd.underlying3 (fun _ => rfl)
  refine ⟨hp, ?_⟩
  rw [hp.length_eq]
  obtain ⟨es, rfl⟩ := hown.isMap
  simp [intKeys, Maps.size]
theorem SetM.store (h : SetM w b n S) (hn : n < 1000000) {r : Int} (hr : rgB r = true) :
    ∃ w', (Instr.mapUpdate 79 (.map (some b)) (.int .i64 r) (.bool true)).run Tryd.prog w = .ok () w' ∧ SetM w' b (n + 1) (fun x => S x || decide (x = r)) ∧ w.mapTurned w' b := by
  obtain ⟨T, h, hh, hat⟩ := h
  have hk := keyOf_int_mk (P := Tryd.prog) Tryd.underlying3 (rgLit hr)
  obtain ⟨w', hrun, ho, hg⟩ := h.store (t := 79) keyedInt Tryd.underlying79 (by unfold maxLen; omega) hk (val := .bool true) (d := .held (.bool true)) (ps := []) rfl
  refine ⟨w', hrun, ⟨_, ho, fun x => ?_, fun x => ?_⟩, hg⟩
  · show _ = (S x || decide (x = r))
    by_cases e : x = r
    · subst e
      rw [has_put_same h.isMap (keyedInt.key hk), decide_eq_true rfl, Bool.or_true]
    · rw [has_put_other (fun e' => e (Lit.int.inj e').2), hh x, decide_eq_false e, Bool.or_false]
  · show _ = DataW.held (Value.bool (S x || decide (x = r)))
    by_cases e : x = r
    · subst e
      rw [atKey_put_same h.isMap (keyedInt.key hk), decide_eq_true rfl, Bool.or_true]
    · rw [atKey_put_other (fun e' => e (Lit.int.inj e').2), hat x, decide_eq_false e, Bool.or_false]
theorem SetM.drop (h : SetM w b n S) {r : Int} (hr : rgB r = true) (ty : TypeId) :
    ∃ w', (Builtin.delete_ #[79, 3] ty #[.map (some b), .int .i64 r]).run Tryd.prog w = .ok (.tuple #[]) w' ∧ SetM w' b n (fun x => S x && !decide (x = r)) ∧ w.mapTurned w' b := by
  obtain ⟨T, h, hh, hat⟩ := h
  have hk := keyOf_int_mk (P := Tryd.prog) Tryd.underlying3 (rgLit hr)
  obtain ⟨w', hrun, ho, hg⟩ := h.drop (t := 79) keyedInt Tryd.underlying79 hk ty
  refine ⟨w', hrun, ⟨_, ho, fun x => ?_, fun x => ?_⟩, hg⟩
  · show _ = (S x && !decide (x = r))
    by_cases e : x = r
    · subst e
      rw [has_del_same, decide_eq_true rfl, Bool.not_true, Bool.and_false]
    · rw [has_del_other (fun e' => e (Lit.int.inj e').2), hh x, decide_eq_false e, Bool.not_false, Bool.and_true]
  · show _ = DataW.held (Value.bool (S x && !decide (x = r)))
    by_cases e : x = r
    · subst e
      rw [atKey_del_same, decide_eq_true rfl, Bool.not_true, Bool.and_false]
    · rw [atKey_del_other (fun e' => e (Lit.int.inj e').2), hat x, decide_eq_false e, Bool.not_false, Bool.and_true]
theorem SetM.look (h : SetM w b n S) {r : Int} (hr : rgB r = true) : (Instr.lookup 79 (.map (some b)) (.int .i64 r) false).run Tryd.prog w = .ok (.bool (S r)) w := by
  obtain ⟨T, h, hh, hat⟩ := h
  obtain ⟨v, ps, hrun, hv⟩ := h.lookup (t := 79) keyedInt Tryd.underlying79 (zeroBR w) (zd := .held (.bool false)) (zp := []) rfl (keyOf_int_mk Tryd.underlying3 (rgLit hr))
  rw [hat r] at hv
  simp only [RW9, Option.some.injEq, Prod.mk.injEq, DataW.held.injEq] at hv
  rw [hrun, hv.1]
theorem SetM.len (h : SetM w b n S) (hS : Regs S) (ty : TypeId) : (Builtin.len_ #[79] ty #[.map (some b)]).run Tryd.prog w = .ok (.int .i64 (rgL S).length) w := by
  obtain ⟨T, h, hh, hat⟩ := h
  rw [h.len Tryd.underlying79 ty, (regSz h hh hS).2]
theorem SetV.len {v : Value} (h : SetV w v S) (hS : Regs S) (ty : TypeId) : (Builtin.len_ #[79] ty #[v]).run Tryd.prog w = .ok (.int .i64 (rgL S).length) w := by
  rcases h with ⟨rfl, h0⟩ | ⟨b, n, rfl, _, h⟩
  · have : rgL S = [] := by
      rw [List.eq_nil_iff_forall_not_mem]
      intro x hx
      have := (rgLMem hS).1 hx
      rw [h0] at this; cases this
    rw [Maps.len_nil Tryd.underlying79 ty, this]
    rfl
  · exact h.len hS ty
end
theorem mergeHas {w : World} {bd bs nd ns : Nat} {Sd Ss : Int → Bool} {Dd Ds : DataW Value} (hd : w.ownsMap Tryd.prog 3 RW9 bd nd Dd) (hs : w.ownsMap Tryd.prog 3 RW9 bs ns Ds) (h1 : ∀ x : Int, Maps.has Dd (.int .i64 x) = Sd x) (h2 : ∀ x : Int, Dd.atKey (.int .i64 x) (.held (.bool false)) = .held (.bool (Sd x))) (h3 : ∀ x : Int, Maps.has Ds (.int .i64 x) = Ss x) (h4 : ∀ x : Int, Ds.atKey (.int .i64 x) (.held (.bool false)) = .held (.bool (Ss x))) :
    (∀ x : Int, Maps.has (Lib.mergeD Dd Ds) (.int .i64 x) = (Sd x || Ss x)) ∧ ∀ x : Int, (Lib.mergeD Dd Ds).atKey (.int .i64 x) (.held (.bool false)) = .held (.bool (Sd x || Ss x)) := by
  obtain ⟨es, rfl, hp, hk⟩ := hs.canonK keyedInt
  have hkl : ∀ p ∈ es, WideAt.IsKeyLit p.1 := fun p hp => by
    obtain ⟨v, hv⟩ := hk p hp
    exact keyedInt.key hv
  have hne : es.Pairwise (fun p q => p.1 ≠ q.1) := by
    obtain ⟨es', e, h⟩ := hs.tidy keyedInt
    injection e with e
    subst e
    exact h
  refine ⟨fun x => ?_, fun x => ?_⟩
  · show Maps.has (es.foldl (fun D p => D.put p.1 p.2) Dd) _ = _
    rw [has_foldPut _ es Dd hd.isMap hkl, h1 x, ← h3 x, has_eq]
  · show DataW.atKey (es.foldl (fun D p => D.put p.1 p.2) Dd) _ _ = _
    rw [atKey_foldPut _ _ es Dd hd.isMap hkl hne]
    have h4x := h4 x
    have h3x := h3 x
    rw [has_eq] at h3x
    cases hf : es.find? (fun p => p.1.sameKey (.int .i64 x)) with
    | some p =>
      have hany : es.any (fun p => p.1.sameKey (.int .i64 x)) = true := List.any_eq_true.2 ⟨p, List.mem_of_find?_eq_some hf, by have := List.find?_some hf; exact this⟩
      rw [hany] at h3x
      have : (DataW.map es).atKey (.int .i64 x) (.held (.bool false)) = p.2 := by unfold DataW.atKey; simp [hf]
      rw [this] at h4x
      show p.2 = _
      rw [h4x, ← h3x, Bool.or_true]
    | none =>
      have hany : es.any (fun p => p.1.sameKey (.int .i64 x)) = false := by
        rw [List.any_eq_false]
        intro p hp
        have := List.find?_eq_none.1 hf p hp
        simpa using this
      rw [hany] at h3x
      show Dd.atKey _ _ = _
      rw [h2 x, ← h3x, Bool.or_false]
theorem iCopySet (b n : Nat) (v : Value) (S S2 : Int → Bool) (hS : Regs S2) (hne : v ≠ .map (some b)) (hn : n ≤ 1000) (w : World) (hd : SetM w b n S) (hs : SetV w v S2) :
    Calls Tryd.prog 76 #[.map (some b), v] w fun e w' => e = .returned (.tuple #[]) ∧ SetM w' b (n + 8) (fun x => S x || S2 x) ∧ w.grownBy w' (some b) := by
  obtain ⟨Td, hd1, hd2, hd3⟩ := hd
  rcases hs with ⟨rfl, h0⟩ | ⟨b2, n2, rfl, hn2, Ts, hs1, hs2, hs3⟩
  · refine (AnyX.maps_Copy_opt Tryd.copyA keyedInt RW9 b n none Td .nil w hd1 (.inl ⟨rfl, rfl⟩) (by simp) (by unfold maxLen; simp [Maps.size]; omega)).mono ?_
    rintro e w' ⟨he, h1, hg⟩
    exact ⟨he, ⟨Td, h1.mono (by simp [Maps.size]), fun x => by show _ = (S x || S2 x); rw [h0 x, Bool.or_false]; exact hd2 x, fun x => by show _ = DataW.held (Value.bool (S x || S2 x)); rw [h0 x, Bool.or_false]; exact hd3 x⟩, hg⟩
  · have hsz := (regSz hs1 hs2 hS).2
    have hl8 := rgLLen (T := S2)
    obtain ⟨m1, m2⟩ := mergeHas hd1 hs1 hd2 hd3 hs2 hs3
    refine (AnyX.maps_Copy_opt Tryd.copyA keyedInt RW9 b n (some b2) Td Ts w hd1 (.inr ⟨b2, n2, rfl, hs1⟩) (fun e => hne (by rw [Option.some.inj e])) (by unfold maxLen; omega)).mono ?_
    rintro e w' ⟨he, h1, hg⟩
    exact ⟨he, ⟨_, h1.mono (by omega), m1, m2⟩, hg⟩
theorem mkRg {S : Int → Bool} {l : List Int} (hp : l.Perm (rgL S)) : mk l = rgL S := (mkEq (rgLSrt) fun _ => (hp.mem_iff).symm).symm
set_option maxHeartbeats 1000000 in
theorem iSortedR (v : Value) (S : Int → Bool) (hS : Regs S) (w : World) (h : SetV w v S) :
    Calls Tryd.prog 40 #[v] w (GivesL (rgL S) w) := by
  obtain ⟨mb, rfl⟩ : ∃ mb, v = .map mb := by
    rcases h with ⟨rfl, _⟩ | ⟨b, n, rfl, _⟩
    · exact ⟨_, rfl⟩
    · exact ⟨_, rfl⟩
  refine (callsIn_wide (n := 6)).1 ?_
  have hl8 := rgLLen (T := S)
  have hseq : SeqGives Fence.wide 3 Tryd.prog 110 #[.pointer (some ⟨w.heap.size, 0, none⟩)] encZ (fun ss => ss.Perm (rgL S)) 8 (w.alloc (.cells #[.map mb] 79)) := by
    rcases h with ⟨e, h0⟩ | ⟨b, n, e, hn, T, hown, hh, _⟩
    · injection e with e
      subst e
      have hg := AnyZI.keys_gives_nil (ρ := Tryd.keysA_ren) { Tryd.keysA with } Fence.wide 3 trivial rfl w.heap.size (w.alloc (.cells #[.map none] 79)) (by simp) (by simp)
      have hnil : rgL S = [] := by
        rw [List.eq_nil_iff_forall_not_mem]
        intro x hx
        have := (rgLMem hS).1 hx
        rw [h0] at this; cases this
      exact fun l J W hW hJ hY h1 => (hg l J W hW hJ (fun pre x W1 _ hl => absurd hl (Nat.not_lt_zero _)) h1).mono fun e w' ⟨hv, xs, hx, hj⟩ => ⟨hv, xs, by rw [hx, hnil], hj⟩
    · injection e with e
      subst e
      obtain ⟨hp, hsz⟩ := regSz hown hh hS
      have hg := AnyZI.keys_gives (ρ := Tryd.keysA_ren) { Tryd.keysA with } Fence.wide 3 trivial rfl (by omega) w.heap.size b n T (w.alloc (.cells #[.map (some b)] 79)) (by simp) (by simp) (by
        obtain ⟨es, clock, hb, Ft, hs, hD⟩ := hown
        have hbl : b < w.heap.size := (Array.getElem?_eq_some_iff.1 hb).1
        exact ⟨es, clock, (Below.heap_alloc _ _ b hbl).trans hb, Ft, hs, hD⟩)
      exact fun l J W hW hJ hY h1 => (hg l J W hW hJ (fun pre x W1 hj hl => hY pre x W1 hj (by omega)) h1).mono fun e w' ⟨hv, xs, hx, hj⟩ => ⟨hv, xs, hx.trans hp.symm, hj⟩
  have cK := AnyZI.keys_in Tryd.keysA Fence.wide 5 trivial rfl mb w
  have cC := AnyZI.collect_in Tryd.collectA Fence.wide 5 trivial trivial rfl (by omega) 110 #[.pointer (some ⟨w.heap.size, 0, none⟩)] trivial (enters_of Tryd.func110 (by kernel_rfl) rfl) _ 8 (by unfold maxLen; omega) (by omega) _ hseq
  change CallsIn _ _ Tryd.prog 70 _ _ _ at cC
  change CallsIn _ _ Tryd.prog 71 _ _ _ at cK
  clear h hseq
  refine callsIn_of_wp Tryd.func40 rfl trivial ?_ rfl
  simp only [Tryd.ntmps40, List.size_toArray, List.length_cons, List.length_nil, Nat.reduceAdd, Nat.reduceSub, Array.replicate_succ, Array.replicate_zero, List.push_toArray, List.append_toArray, List.nil_append, List.cons_append]
  gi_wp2_with fail
  refine ⟨trivial, cK.mono ?_⟩
  rintro e w1 ⟨rfl, rfl⟩
  gi_wp2_with fail
  refine ⟨trivial, cC.mono ?_⟩
  rintro e w2 ⟨v2, ss, rfl, hp, hrow, _, b2⟩
  have ho : OwnI w2 (w.heap.size + 1) v2 ss := by
    unfold OwnI
    rw [World.size_alloc] at hrow
    exact hrow
  obtain ⟨A2, c2, rfl, hr2, _⟩ := ho.rd
  have hlen : ss.length ≤ 8 := by rw [hp.length_eq]; exact hl8
  have HM := Lib.hid (iMake ss (rgL S) (mkRg hp) (by omega) A2 c2 w2 hr2)
  have HB2 := Lib.hid (((Below.refl _ w).alloc (Nat.le_refl _) _).trans (b2.mono (by simp)))
  clear hrow hp ho hr2 b2 cK cC
  gi_wp2_with fail
  refine ⟨trivial, (callsIn_wide.2 HM.out).mono ?_⟩
  rintro e w3 ⟨A3, c3, rfl, hr3, b3⟩
  gi_wp2
  go_ret
  exact ⟨A3, c3, rfl, hr3, belowThen HB2.out b3⟩
end Go.Proofs.YtkanamdfjegcbaaDoor

namespace Go.Proofs.YtkanamdfjegcbaaDoor
open Go Go.RowKit

/-- Where a step lies. -/
def EStep (w : World) (b o : Nat) (s : I8 × List Int) : Prop := EI w b o s.1 ∧ ∃ A c, w.cell? ⟨b, o + 8, none⟩ = some (.slice A s.2.length c) ∧ Rd w A c s.2
theorem stabStep : StabE EStep := fun w w' b o x hl hb h => by
  obtain ⟨h1, A, c, h2, h3⟩ := h
  exact ⟨stabI w w' b o x.1 hl hb h1, A, c, (hb.cell hl).trans h2, Rd.below h3 hb⟩
/-- The cells of a step. -/
def stC (i : I8) (v : Value) : List Value := [.int .i64 i.op, .int .i64 i.a, .int .i64 i.b, .int .i64 i.c, .int .i64 i.obj, .int .i64 i.n, .int .i64 i.fn, .int .i64 i.ord, v]
def stCs : List (I8 × Value) → List Value
  | [] => []
  | p :: l => .int .i64 p.1.op :: .int .i64 p.1.a :: .int .i64 p.1.b :: .int .i64 p.1.c :: .int .i64 p.1.obj :: .int .i64 p.1.n :: .int .i64 p.1.fn :: .int .i64 p.1.ord :: p.2 :: stCs l
theorem stCsLen : ∀ l, (stCs l).length = l.length * 9
  | [] => rfl
  | p :: l => by
    have := stCsLen l
    simp only [stCs, List.length_cons]
    omega
theorem stCsApp : ∀ a b, stCs (a ++ b) = stCs a ++ stCs b
  | [], b => rfl
  | p :: a, b => by simp only [List.cons_append, stCs, stCsApp a b]
theorem stCsAt : ∀ (l : List (I8 × Value)) (j : Nat) (h : j < l.length) (i : Nat), i < 9 → (stCs l)[j * 9 + i]? = (stC l[j].1 l[j].2)[i]?
  | p :: l, 0, _, i, hi => by
    have : i = 0 ∨ i = 1 ∨ i = 2 ∨ i = 3 ∨ i = 4 ∨ i = 5 ∨ i = 6 ∨ i = 7 ∨ i = 8 := by omega
    rcases this with rfl | rfl | rfl | rfl | rfl | rfl | rfl | rfl | rfl <;> rfl
  | p :: l, j + 1, h, i, hi => by
    have := stCsAt l j (by simpa using h) i hi
    rw [stCs, show (j + 1) * 9 + i = j * 9 + i + 1 + 1 + 1 + 1 + 1 + 1 + 1 + 1 + 1 by omega]
    simp only [List.getElem?_cons_succ, List.getElem_cons_succ]
    exact this
theorem stCsOne : ∀ l : List (I8 × Value), (∀ p ∈ l, p.2.oneCell' = true) → ∀ u ∈ stCs l, u.oneCell' = true
  | [], _, u, h => by cases h
  | p :: l, hp, u, h => by
    rw [stCs] at h
    simp only [List.mem_cons] at h
    rcases h with rfl | rfl | rfl | rfl | rfl | rfl | rfl | rfl | rfl | h
    all_goals first
      | rfl
      | exact hp p (by simp)
      | exact stCsOne l (fun q hq => hp q (by simp [hq])) u h
theorem infoStep : (Tryd.prog.info? 86).map (fun i => (i.zero, i.size, i.bytes)) = some (some (.agg #[.int .i64 0, .int .i64 0, .int .i64 0, .int .i64 0, .int .i64 0, .int .i64 0, .int .i64 0, .int .i64 0, .slice none 0 0]), 9, 88) := by kernel_rfl
/-- The steps of a code, the first k. -/
def stL (C : List I8) (k : Nat) : List (I8 × List Int) := (List.range k).map fun j => (C.getD j I8.zero, scS C j)
theorem stLLen {C : List I8} {k : Nat} : (stL C k).length = k := by simp [stL]
theorem stLAt {C : List I8} {k j : Nat} (h : j < (stL C k).length) : (stL C k)[j] = (C.getD j I8.zero, scS C j) := by simp [stL]
theorem getDAt {C : List I8} {k : Nat} (h : k < C.length) : C.getD k I8.zero = C[k] := by simp [List.getD, h]
/-- What lies in memory while the steps are laid down. -/
structure StSt (C : List I8) (w0 : World) (k : Nat) (v : Value) (X : World) : Prop where
  ex : ∃ L : List (I8 × Value), L.length = k ∧ X.ownsRow w0.heap.size 86 9 v k (stCs L) ∧ ∀ j, j < k → ∃ A c, L[j]? = some (C.getD j I8.zero, .slice A (scS C j).length c) ∧ Rd X A c (scS C j) ∧ ∀ ad, A = some ad → 0 < (scS C j).length → v.ownBlock ≠ some ad.block
  bel : Below w0.heap.size w0 X
section
variable {C : List I8} {w0 X Y : World} {k : Nat} {v : Value}
theorem StSt.start (C : List I8) (w0 : World) : StSt C w0 0 (.slice none 0 0) w0 := ⟨⟨[], rfl, World.ownsRow_nil _ _ _ _, fun _ h => absurd h (Nat.not_lt_zero _)⟩, Below.refl _ _⟩
theorem own9Chg {base : Nat} {e : TypeId} {n : Nat} {xs : List Value} {F : Nat → Prop} (h : X.ownsRow base e 9 v n xs) (hc : Chg X Y F) (hF : ∀ g, v.ownBlock = some g → F g) : Y.ownsRow base e 9 v n xs := by
  refine ⟨h.1, ?_⟩
  rcases h.2 with h2 | ⟨g, cap, cur, rfl, hb, hg, r⟩
  · exact .inl h2
  · exact .inr ⟨g, cap, cur, rfl, hb, (hc.block g (World.ownsRow.lt h g rfl).2 (hF g rfl)).trans hg, r⟩
theorem StSt.below (h : StSt C w0 k v X) (hb : Below X.heap.size X Y) : StSt C w0 k v Y := by
  obtain ⟨⟨L, h1, h2, h3⟩, h4⟩ := h
  refine ⟨⟨L, h1, own9Chg h2 (Chg.ofBelow hb fun _ => True) fun _ _ => trivial, fun j hj => ?_⟩, belowThen h4 hb⟩
  obtain ⟨A, c, e, hr, hd⟩ := h3 j hj
  exact ⟨A, c, e, Rd.below hr hb, hd⟩
theorem StSt.lt (h : StSt C w0 k v X) {g : Nat} (hg : v.ownBlock = some g) : g < X.heap.size := by
  obtain ⟨⟨L, h1, h2, h3⟩, h4⟩ := h
  exact (World.ownsRow.lt h2 g hg).2
/-- append of a step. -/
theorem stPush (h : StSt C w0 k v X) (hk : k ≤ 1000) {g : Nat} {A : Option Addr} {c : Nat} (hg : Blk X g 86 (stC (C.getD k I8.zero) (.slice A (scS C k).length c)).toArray) (hr : Rd X A c (scS C k)) (hf : ∀ ad, A = some ad → 0 < (scS C k).length → v.ownBlock ≠ some ad.block) (ty : TypeId) :
    ∃ v' w', (Builtin.append_ #[73, 73] ty #[v, .slice (some ⟨g, 0, none⟩) 1 1]).run Tryd.prog X = .ok v' w' ∧ StSt C w0 (k + 1) v' w' := by
  obtain ⟨⟨L, h1, h2, h3⟩, h4⟩ := h
  obtain ⟨i0, hi, hz0, hz1, hz2⟩ := info_parts infoStep
  have hnews : ∀ j u, (stCs [(C.getD k I8.zero, .slice A (scS C k).length c)])[j]? = some u → X.cell? ((⟨g, 0, none⟩ : Addr).add j) = some u := by
    intro j u hu
    have hj : j < 9 := by have := (List.getElem?_eq_some_iff.1 hu).1; rw [stCsLen] at this; simpa using this
    have := stCsAt [(C.getD k I8.zero, .slice A (scS C k).length c)] 0 (by simp) j hj
    rw [Nat.zero_mul, Nat.zero_add] at this
    rw [this] at hu
    rw [Addr.add_lit, Nat.zero_add, hg.cell j]
    rw [List.getElem?_toArray]
    exact hu
  obtain ⟨v', w', hrun, k1, hgr, _, hblk⟩ := run_append_own_at (P := Tryd.prog) X w0.heap.size 73 ty 86 i0 _ 9 88 Tryd.underlying73 hi hz0 hz1 hz2 rfl (by decide) v k (stCs L) h2 ⟨g, 0, none⟩ 1 1 (stCs [(C.getD k I8.zero, .slice A (scS C k).length c)]) (by rw [stCsLen]; rfl) hnews (stCsOne _ (by simp [Value.oneCell'])) (by unfold maxLen; omega) (by omega) h4.size
  have hc : Chg X w' (fun q => v.ownBlock ≠ some q) := Chg.ofGrown hgr fun _ h => h
  have hnew : ∀ ad : Addr, ad.block < X.heap.size → v.ownBlock ≠ some ad.block → v'.ownBlock ≠ some ad.block := fun ad hl hne e => by
    rcases hblk with h | h
    · exact hne (h ▸ e)
    · rw [h] at e
      injection e with e
      omega
  have hrow : ∀ {A' : Option Addr} {c' : Nat} {l : List Int}, Rd X A' c' l → (∀ ad, A' = some ad → 0 < l.length → v.ownBlock ≠ some ad.block) → Rd w' A' c' l ∧ ∀ ad, A' = some ad → 0 < l.length → v'.ownBlock ≠ some ad.block := fun {A' c' l} hr hf =>
    ⟨Rd.chg hr hc hf, fun ad e hl => by
      obtain ⟨ad', e', hb, _⟩ := Rds.at_ hr (by rw [iv, List.length_map]; exact hl)
      rw [e] at e'
      injection e' with e'
      subst e'
      exact hnew ad hb (hf ad e hl)⟩
  refine ⟨v', w', hrun, ⟨L ++ [(C.getD k I8.zero, .slice A (scS C k).length c)], by simp [h1], by rw [stCsApp]; exact k1, fun j hj => ?_⟩, h4.grown hgr h4.size fun q hq => (World.ownsRow.lt h2 q hq).1⟩
  by_cases e : j = k
  · subst e
    obtain ⟨r1, r2⟩ := hrow hr hf
    exact ⟨A, c, by rw [List.getElem?_append_right (by omega), h1, Nat.sub_self]; rfl, r1, r2⟩
  · obtain ⟨A', c', e', hr', hf'⟩ := h3 j (by omega)
    obtain ⟨r1, r2⟩ := hrow hr' hf'
    exact ⟨A', c', by rw [List.getElem?_append_left (by omega)]; exact e', r1, r2⟩
theorem StSt.rd (h : StSt C w0 k v X) : ∃ A c, v = .slice A k c ∧ RdE 9 EStep X A c (stL C k) := by
  obtain ⟨⟨L, h1, h2, h3⟩, h4⟩ := h
  have hown := h2
  rcases h2.2 with ⟨rfl, h0⟩ | ⟨g, cap, cur, rfl, hb, hg, hcp, hm, hs, ht⟩
  · subst h0
    exact ⟨none, 0, rfl, RdE.nil⟩
  · refine ⟨some ⟨g, 0, none⟩, cap, rfl, by rw [stLLen]; exact hcp, hm, fun hn => ⟨g, 0, rfl, (World.ownsRow.lt hown g rfl).2, fun j hj => ?_⟩⟩
    rw [stLLen] at hj
    obtain ⟨A, c, e, hr, _⟩ := h3 j hj
    have hjl : j < L.length := by omega
    have hLj : L[j] = (C.getD j I8.zero, .slice A (scS C j).length c) := by
      rw [List.getElem?_eq_getElem hjl] at e
      exact Option.some.inj e
    have hcell : ∀ i, i < 9 → X.cell? ⟨g, 0 + j * 9 + i, none⟩ = (stC (C.getD j I8.zero) (.slice A (scS C j).length c))[i]? := fun i hi => by
      have h5 := stCsAt L j hjl i hi
      rw [hLj] at h5
      have hsome : ∃ u, (stC (C.getD j I8.zero) (.slice A (scS C j).length c))[i]? = some u := by
        have : i < (stC (C.getD j I8.zero) (.slice A (scS C j).length c)).length := hi
        exact ⟨_, List.getElem?_eq_getElem this⟩
      obtain ⟨u, hu⟩ := hsome
      rw [hu] at h5 ⊢
      have h6 := World.ownsRow.cells hown (g := g) rfl (j * 9 + i) u h5
      rw [Addr.add_lit] at h6
      rw [show 0 + j * 9 + i = 0 + (j * 9 + i) by omega]
      exact h6
    rw [stLAt]
    exact ⟨⟨hcell 0 (by omega), hcell 1 (by omega), hcell 2 (by omega), hcell 3 (by omega), hcell 4 (by omega), hcell 5 (by omega), hcell 6 (by omega), hcell 7 (by omega)⟩, A, c, hcell 8 (by omega), hr⟩
end
end Go.Proofs.YtkanamdfjegcbaaDoor
