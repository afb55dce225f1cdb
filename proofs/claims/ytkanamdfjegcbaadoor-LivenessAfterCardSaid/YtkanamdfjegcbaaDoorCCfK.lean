/-
  The library's iterators: the sorted keys of a set, and what an iterator gives, collected.
-/
import Derived.Test.YtkanamdfjegcbaaDoorCCfN
import Derived.Test.YtkanamdfjegcbaaDoorIterShelf
import Derived.Deep.RegionWith
namespace Go.Proofs.YtkanamdfjegcbaaDoor
open Go Go.RowKit Go.Shelf Go.Maps
attribute [local go_sem] Oper.semAt_some

theorem ownCells9 {W : World} {b n : Nat} {v : Value} {xs : List Value} {g : Nat} {e : TypeId} (h : W.ownsRow b e 1 v n xs) (hg : v.ownBlock = some g) : ∃ o : Obj, W.heap[g]? = some o ∧ o.isCells = true := by
  rcases h.2 with ⟨rfl, _⟩ | ⟨k, cap, cur, rfl, _, hk, _⟩
  · simp [Value.ownBlock] at hg
  · obtain rfl : k = g := by simpa [Value.ownBlock] using hg
    exact ⟨_, hk, rfl⟩
theorem wpListIn_app9 {F : Fence} {n : Nat} {P : Program} (w : World) {ops : Array Oper} {rest : List Oper} {o : Oper} {a : Act} {Q : Exit → Act → World → Prop} (hgd : o.guard = none) (s x : Operand) (t : TypeId)
    (ho : o.op = .call { callee := .builtin .append, args := #[s, x], argTypes := #[t, t] }) {v' vx v2 : Value} {w2 : World} (hs : a.eval s = v') (hx : a.eval x = vx)
    (hrun : (Builtin.append_ #[t, t] o.type #[v', vx]).run P w = .ok v2 w2) (h : wpListIn F n P ops Q rest (a.put o.dst v2) w2) : wpListIn F n P ops Q (o :: rest) a w := by
  refine wpListIn_plain hgd fun K hK => ?_
  unfold Oper.wpIn
  refine ⟨?_, ?_⟩
  · simp [Oper.about, ho, resolve, Target.leads]
  · rw [Oper.semAt_plain F _ _ (by rw [ho]; intro c hc'; cases hc')]
    unfold execOp
    simp only [ho, resolve, invoke, builtin, Sem.run_bind, Sem.run_pure, Result.andThen_ok, List.map_toArray, List.map_cons, List.map_nil, hs, hx, hrun]
    exact hK _ _ h
theorem litI9 (w : World) (y : Int) (T : TypeId) : Rd (w.alloc (.cells #[.int .i64 y] T)) (some ⟨w.heap.size, 0, none⟩) 1 [y] :=
  ⟨Nat.le_refl _, by unfold maxLen; omega, fun _ => ⟨_, rfl, by simp, fun j u hu => by
    have hj : j = 0 := by
      have := (List.getElem?_eq_some_iff.1 hu).1
      simpa using this
    subst hj
    have : u = .int .i64 y := by simpa [iv] using hu.symm
    subst this
    exact (Blk.new w T #[.int .i64 y]).cell 0⟩⟩
/-- The call returns a slice that reads as the numbers xs; nothing that was in memory has changed. -/
def GivesN (xs : List Nat) (w : World) (e : Ending) (w' : World) : Prop := ∃ A c, e = .returned (.slice A xs.length c) ∧ Rd w' A c (xs.map Int.ofNat) ∧ Below w.heap.size w w'
/-- append of one number onto a row of the call's own that lies in a box: what is behind it. -/
theorem push9 {U : World} {z base : Nat} {v : Value} {l : List Int} (hb : Boxed U z 34 v) (ho : OwnI U base v l) (hzb : z < base) (hbs : base ≤ U.heap.size) (hl : l.length + 1 ≤ 1000000) (y : Int) (ty : TypeId) :
    ∃ A c w', (Builtin.append_ #[34, 34] ty #[v, .slice (some ⟨U.heap.size, 0, none⟩) 1 1]).run Tryd.prog (U.alloc (.cells #[.int .i64 y] 3)) = .ok (.slice A (l.length + 1) c) w' ∧
      w'.frozen? ⟨z, 0, none⟩ = false ∧ (∃ u, w'.cell? ⟨z, 0, none⟩ = some u ∧ u.oneCell' = true) ∧ Boxed (w'.setCell ⟨z, 0, none⟩ (.slice A (l.length + 1) c)) z 34 (.slice A (l.length + 1) c) ∧ OwnI (w'.setCell ⟨z, 0, none⟩ (.slice A (l.length + 1) c)) base (.slice A (l.length + 1) c) (l ++ [y]) ∧
      Below z U (w'.setCell ⟨z, 0, none⟩ (.slice A (l.length + 1) c)) ∧ KeepsOthers U (w'.setCell ⟨z, 0, none⟩ (.slice A (l.length + 1) c)) := by
  obtain ⟨i0, hi, hz0, hz1, hz2⟩ := info_parts infoInt
  have hA := ho.alloc (.cells #[.int .i64 y] 3)
  have hbA := hb.alloc (.cells #[.int .i64 y] 3)
  have hzl := hb.lt
  have hnew := litI9 U y 3
  obtain ⟨v', w', hrun, h1, _, hg, _⟩ := runApp (P := Tryd.prog) (w := U.alloc (.cells #[.int .i64 y] 3)) base 34 ty 3 i0 _ 8 Tryd.underlying34 hi hz0 hz1 hz2 rfl v l.length (iv l) hA (some ⟨U.heap.size, 0, none⟩) 1 1 (iv [y]) rfl hnew (ivOne _) (by omega) (by unfold maxLen; omega) (by simp; omega)
  have ho' : OwnI w' base v' (l ++ [y]) := by
    unfold OwnI iv
    rw [List.length_append, List.map_append]
    exact h1
  obtain ⟨A, c, e, hr, _⟩ := ho'.rd
  rw [List.length_append] at e
  have e : v' = .slice A (l.length + 1) c := e
  subst e
  have hc1 : Chg (U.alloc (.cells #[.int .i64 y] 3)) w' (fun q => v.ownBlock ≠ some q) := Chg.ofGrown hg fun _ h => h
  have hvz : v.ownBlock ≠ some z := fun e => by have := (World.ownsRow.lt ho z e).1; omega
  have hbw : Boxed w' z 34 v := (hc1.block _ hbA.lt hvz).trans hbA
  have hne : ∀ g, (Value.slice A (l.length + 1) c).ownBlock = some g → g ≠ z := fun g hg2 e => by have := (World.ownsRow.lt ho' g hg2).1; omega
  have hc2 : Chg w' (w'.setCell ⟨z, 0, none⟩ (.slice A (l.length + 1) c)) (fun q => q ≠ z) := Chg.setCell w' ⟨z, 0, none⟩ _
  refine ⟨A, c, w', hrun, hbw.frozen, ⟨_, hbw.cell, ?_⟩, hbw.set _, ownChg ho' hc2 hne, ?_, ?_⟩
  · obtain ⟨A2, c2, rfl, _⟩ := ho.rd
    rfl
  · have hcU : Chg U (U.alloc (.cells #[.int .i64 y] 3)) (fun q => q < z) := Chg.ofBelow (belowAlloc U _) _
    have h3 := (hcU.trans hc1 fun q _ hq e => by have := (World.ownsRow.lt ho q e).1; omega).trans hc2 fun q _ hq => by show q ≠ z; omega
    exact ⟨h3.os, h3.tape, h3.output, h3.size, fun q hq => h3.block q (by omega) hq⟩
  · refine ⟨by have := hc1.size; have := hc2.size; simp at *; omega, fun q o ho2 hoc => ?_⟩
    have hql := (Array.getElem?_eq_some_iff.1 ho2).1
    have h2 := ((belowAlloc U (.cells #[.int .i64 y] 3)).block q hql).trans ho2
    have hq1 : v.ownBlock ≠ some q := fun e => by
      obtain ⟨o2, e2, hc⟩ := ownCells9 ho e
      rw [ho2] at e2
      injection e2 with e2
      subst e2
      rw [hoc] at hc; cases hc
    have hq2 : q ≠ z := fun e => by
      subst e
      have h3 : U.heap[q]? = some (Obj.cells #[v] 34 (0, 0)) := hb
      rw [ho2] at h3
      injection h3 with h3
      subst h3
      cases hoc
    have h4 := hc1.block q (by simp; omega) hq1
    exact (hc2.block q (by have := hc1.size; simp at this; omega) hq2).trans (h4.trans h2)
set_option maxRecDepth 100000 in
set_option maxHeartbeats 2000000 in
theorem iAppendSeq (gf : FuncId) (L : Array Value) (xs : List Nat) (hl : xs.length ≤ 1000) (w : World) (h : ItOk gf L xs w) :
    Calls Tryd.prog 109 #[.slice none 0 0, .func (.func gf) #[] L] w (GivesN xs w) := by
  obtain ⟨W, hW⟩ : ∃ W, w.alloc (.cells #[.slice none 0 0] 34) = W := ⟨_, rfl⟩
  have hbW : Below w.heap.size w W := by rw [← hW]; exact belowAlloc w _
  have hzW : W.heap.size = w.heap.size + 1 := by rw [← hW]; simp
  have hbx : Boxed W w.heap.size 34 (.slice none 0 0) := by rw [← hW]; exact Boxed.new w _ _
  have HWE := Lib.hid hW
  have hge := h.1
  have HIT := Lib.hid (h.2 7 (by omega))
  have HBW := Lib.hid hbW
  have HBX := Lib.hid hbx
  clear h hW hbW hbx
  refine (callsIn_wide (n := 8)).1 ?_
  refine callsIn_of_wp_marks Tryd.func109 rfl trivial ?_ rfl
  simp only [Tryd.ntmps109, List.size_toArray, List.length_cons, List.length_nil, Nat.reduceAdd, Nat.reduceSub, Array.replicate_succ, Array.replicate_zero, List.push_toArray, List.append_toArray, List.nil_append, List.cons_append]
  gi_wp2
  rw [HWE.out]
  refine rangeClos (F := Fence.wide) (n := 8) rfl (by omega) (gf := gf) (lb := L) rfl trivial hge (encs := encN) (Kp := KeepC w.heap.size) (L := xs) (w0 := w) HIT.out (fun h k => h.trans k) (fun W l o o' _ h hc _ => KeepC.put _ W l o o' h hc) HBW.out (fun _ => rfl)
    (fun ps X => ∃ v, Boxed X w.heap.size 34 v ∧ OwnI X (w.heap.size + 1) v (ps.map Int.ofNat) ∧ Below w.heap.size w X ∧ ps.length ≤ xs.length) (fun _ _ _ => False) ?hI (fun _ _ _ _ _ h => h.elim) ⟨_, HBX.out, OwnI.nil _ _, HBW.out, Nat.zero_le _⟩
    (fun _ y => { tmps := #[.slice none 0 0, .func (.func gf) #[] L, .pointer (some ⟨w.heap.size, 0, none⟩), undef, .slice none 0 0, .int .i64 (y : Int), .func (.func gf) #[] L, .int .i64 (y : Int), undef, undef, undef, undef, undef], defers := [] }) (fun _ W => W) (fun _ W => World.grownBy.refl W none) (fun _ W => KeepC.refl _ W) ?assign ?body ?done (fun _ _ _ _ _ h _ => h.elim)
  case assign =>
    intro l y X K hK
    unfold encN
    gi_wp2
    exact hK
  case hI =>
    rintro ps X X' row ⟨v, h1, h2, h3, h4⟩ hgr hr
    have hc : Chg X X' (fun q => row ≠ some q) := Chg.ofGrown hgr fun _ h => h
    have hlo : ∀ q, q < W.heap.size → row ≠ some q := fun q hq e => by have := (hr q e).1; omega
    refine ⟨v, (hc.block _ h1.lt (hlo _ (by omega))).trans h1, ownChg h2 hc fun g hg e => ?_, ⟨hc.os.trans h3.os, hc.tape.trans h3.tape, hc.output.trans h3.output, Nat.le_trans h3.size hc.size, fun q hq => (hc.block q (Nat.lt_of_lt_of_le hq h3.size) (hlo q (by omega))).trans (h3.block q hq)⟩, h4⟩
    obtain ⟨_, o2, ho2, hn⟩ := hr g e
    obtain ⟨o, ho, hoc⟩ := ownCells9 h2 hg
    rw [ho] at ho2
    injection ho2 with ho2
    subst ho2
    rw [hoc] at hn; cases hn
  case body =>
    rintro l ps y rest X U hLL ⟨v, h1, h2, h3, h4⟩ hwl hlX _
    have hlen : ps.length + 1 ≤ xs.length := by rw [hLL, List.length_append, List.length_cons]; omega
    have hpl : (ps.map Int.ofNat).length + 1 ≤ 1000000 := by rw [List.length_map]; omega
    have hUz : w.heap.size + 1 ≤ U.heap.size := by have := h1.lt; omega
    obtain ⟨A2, c2, w2, hrun, hf, ⟨u, hu, hu1⟩, hb2, ho2, hbe, hk⟩ := push9 h1 h2 (by omega) hUz hpl (y : Int) 34
    have HFIN := Lib.hid (show KeepsFrom W.heap.size U (w2.setCell ⟨w.heap.size, 0, none⟩ (.slice A2 ((ps.map Int.ofNat).length + 1) c2)) ∧ KeepC w.heap.size U (w2.setCell ⟨w.heap.size, 0, none⟩ (.slice A2 ((ps.map Int.ofNat).length + 1) c2)) ∧ ∃ v, Boxed (w2.setCell ⟨w.heap.size, 0, none⟩ (.slice A2 ((ps.map Int.ofNat).length + 1) c2)) w.heap.size 34 v ∧ OwnI (w2.setCell ⟨w.heap.size, 0, none⟩ (.slice A2 ((ps.map Int.ofNat).length + 1) c2)) (w.heap.size + 1) v ((ps ++ [y]).map Int.ofNat) ∧ Below w.heap.size w (w2.setCell ⟨w.heap.size, 0, none⟩ (.slice A2 ((ps.map Int.ofNat).length + 1) c2)) ∧ (ps ++ [y]).length ≤ xs.length from
      ⟨hk.from _, ⟨hbe.size, fun q o hq ho _ => (hbe.block q hq).trans ho⟩, _, hb2, by rw [List.map_append]; exact ho2, h3.trans hbe, by rw [List.length_append]; exact hlen⟩)
    have kv := h1.cell
    obtain ⟨A1, c1, rfl, _, _⟩ := h2.rd
    obtain ⟨q1, hq1⟩ : ∃ q, (ps.map Int.ofNat).length = q := ⟨_, rfl⟩
    rw [hq1] at HFIN hrun kv
    clear h1 h2 h3 hbe hk hb2 ho2 hpl hlen hLL hq1
    gi_wp2_with (gi_at_builtin; refine wpListIn_app9 _ rfl (.tmp 8) (.tmp 10) 34 rfl rfl rfl hrun ?_)
    gi_wp2
    exact HFIN.out
  case done =>
    rintro R X hR ⟨v, h1, h2, h3, h4⟩ hK2
    have kv := h1.cell
    obtain ⟨A1, c1, rfl, hr, _⟩ := h2.rd
    have HFIN := Lib.hid (show Rd (X.putObj R (.deferred none)) A1 c1 (xs.map Int.ofNat) ∧ Below w.heap.size w (X.putObj R (.deferred none)) from by
      have hc : Chg X (X.putObj R (.deferred none)) (fun q => q ≠ R) := ⟨rfl, rfl, rfl, by simp, fun q _ hq => World.putObj_heap_other hq⟩
      have ho := ownChg h2 hc fun g hg e => by
        obtain ⟨o, ho, hoc⟩ := ownCells9 h2 hg
        subst e
        rw [hK2] at ho
        injection ho with ho
        subst ho
        cases hoc
      obtain ⟨A3, c3, e3, hr3, _⟩ := OwnI.rd ho
      injection e3 with e1 _ e2
      subst e1; subst e2
      exact ⟨hr3, ⟨h3.os, h3.tape, h3.output, by simpa using h3.size, fun q hq => (World.putObj_heap_other (by omega)).trans (h3.block q hq)⟩⟩)
    clear h1 h2 h3 hr
    gi_wp2
    refine ⟨by simp, .inl ⟨_, _, rfl, run_takeDeferred hK2, ?_⟩⟩
    exact ⟨_, results_tmp rfl _ _ _, A1, c1, rfl, HFIN.out.1, HFIN.out.2⟩
theorem iCollect (gf : FuncId) (L : Array Value) (xs : List Nat) (hl : xs.length ≤ 1000) (w : World) (h : ItOk gf L xs w) :
    Calls Tryd.prog 70 #[.func (.func gf) #[] L] w (GivesN xs w) := by
  have HC := Lib.hid (iAppendSeq gf L xs hl w h)
  clear h
  go_enter Tryd.func70, Tryd.ntmps70
  go_wp2_with fail
  refine HC.out.mono ?_
  rintro e w1 ⟨A, c, rfl, hr, hb⟩
  go_wp2
  go_ret
  exact ⟨A, c, rfl, hr, hb⟩
end Go.Proofs.YtkanamdfjegcbaaDoor
