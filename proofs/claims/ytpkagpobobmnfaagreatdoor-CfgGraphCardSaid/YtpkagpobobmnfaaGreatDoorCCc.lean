/-
  The library's iterators: the sorted keys of a set, and what an iterator gives, collected.
-/
import Derived.Test.YtpkagpobobmnfaaGreatDoorCCb
import Derived.Test.YtpkagpobobmnfaaGreatDoorIterShelf
import Derived.Deep.RegionWith
import Derived.Maps.RangeWalk
namespace Go.Proofs.YtpkagpobobmnfaaGreatDoor
open Go Go.RowKit Go.Shelf Go.Maps
attribute [local go_sem] Oper.semAt_some

theorem sortMk {D : List Nat} (hn : D.Nodup) {ss : List Int} (hp : ss.Perm (D.map Int.ofNat)) : ss.mergeSort (fun x y => decide (x ≤ y)) = mk (D.map Int.ofNat) := by
  have hnd : (D.map Int.ofNat).Nodup := List.Pairwise.map _ (fun a b hab e => hab (Int.ofNat.inj e)) hn
  have hq := (List.mergeSort_perm ss (fun x y => decide (x ≤ y))).trans hp
  refine mkEq ?_ fun x => hq.mem_iff
  have tr : ∀ a b c : Int, decide (a ≤ b) = true → decide (b ≤ c) = true → decide (a ≤ c) = true := fun a b c h1 h2 => by simp only [decide_eq_true_eq] at *; omega
  have tot : ∀ a b : Int, (decide (a ≤ b) || decide (b ≤ a)) = true := fun a b => by simp only [Bool.or_eq_true, decide_eq_true_eq]; omega
  have h1 := List.pairwise_mergeSort tr tot ss
  have h2 : (ss.mergeSort (fun x y => decide (x ≤ y))).Nodup := hq.nodup_iff.2 hnd
  unfold Srt
  refine (h1.and h2).imp fun h => ?_
  have := of_decide_eq_true h.1
  have := h.2
  omega
theorem sortsA (m : Nat) : AnyZI.SortsIn Tryz.prog Tryz.sortedA_ren Fence.wide m :=
  ⟨fun blk off cap ss W hH hblk hsz => callsIn_wide.2 (AnyM.slices_Sort_int Tryz.sortA blk off cap ss W hH hblk hsz),
   fun p cap W => callsIn_wide.2 (AnyM.slices_Sort_int_none Tryz.sortA p cap W)⟩
theorem MapSc.perm {w : World} {b : Nat} {D : List Nat} {T : DataW Value} (hown : w.ownsMap Tryz.prog 3 RW9 b D.length T) (hn : D.Nodup) (hh : ∀ x : Int, Maps.has T (.int .i64 x) = decide (x ∈ D.map Int.ofNat)) : (D.map Int.ofNat).Perm (intKeys T) :=
  CollectedI.perm (left := fun _ => false) ⟨List.Pairwise.map _ (fun a b hab e => hab (Int.ofNat.inj e)) hn, fun x => by rw [hh x]; simp⟩ hown keyedInt Tryz.underlying3 (fun _ => rfl)
set_option maxHeartbeats 1000000 in
theorem iSorted (gm : Nat) (D : List Nat) (hn : D.Nodup) (hl : D.length ≤ 1000) (w : World) (h : MapSc w gm D) :
    Calls Tryz.prog 34 #[.map (some gm)] w (GivesL (mk (D.map Int.ofNat)) w) := by
  obtain ⟨T, hown, hsz, hh, _⟩ := h
  have hperm := MapSc.perm hown hn hh
  have hbl := hown.lt
  refine (callsIn_wide (n := 6)).1 ?_
  have hseq : SeqGives Fence.wide 2 Tryz.prog 119 #[.pointer (some ⟨w.heap.size, 0, none⟩)] encZ (fun ss => ss.Perm (intKeys T)) (Maps.size T) (w.alloc (.cells #[.map (some gm)] 71)) :=
    AnyZI.keys_gives (ρ := Tryz.keysA_ren) { Tryz.keysA with } Fence.wide _ trivial rfl (by omega) w.heap.size gm D.length T _ (by simp) (by simp) (by
      obtain ⟨es, clock, hb, Ft, hs, hD⟩ := hown
      exact ⟨es, clock, (Below.heap_alloc _ _ gm hbl).trans hb, Ft, hs, hD⟩)
  have cK : ∀ mb W, CallsIn Fence.wide 5 Tryz.prog 71 #[.map mb] W fun e w' => e = .returned (.func (.func 119) #[] #[.pointer (some ⟨W.heap.size, 0, none⟩)]) ∧ w' = W.alloc (.cells #[.map mb] 71) := fun mb W => AnyZI.keys_in Tryz.keysA Fence.wide 5 trivial rfl mb W
  have cS := AnyZI.sorted_in Tryz.sortedA Fence.wide 5 trivial trivial trivial trivial rfl (by omega) (sortsA _) (enters_of Tryz.func118 (by kernel_rfl) rfl) 119 #[.pointer (some ⟨w.heap.size, 0, none⟩)] trivial (enters_of Tryz.func119 (by kernel_rfl) rfl) _ _ (by rw [hsz]; unfold maxLen; omega) (by rw [hsz]; omega) _ hseq
  change CallsIn _ _ Tryz.prog 70 _ _ _ at cS
  have hfK : Fence.wide.fn 71 := trivial
  have hfS : Fence.wide.fn 70 := trivial
  have HP := Lib.hid hperm
  have HN := Lib.hid hn
  clear hperm hn hh hsz hown hl hseq
  refine callsIn_of_wp Tryz.func34 rfl trivial ?_ rfl
  simp only [Tryz.ntmps34, List.size_toArray, List.length_cons, List.length_nil, Nat.reduceAdd, Nat.reduceSub, Array.replicate_succ, Array.replicate_zero, List.push_toArray, List.append_toArray, List.nil_append, List.cons_append]
  gi_wp2_with (first
    | (gi_at_call 71; refine (cK _ _).mono ?_; rintro e w' ⟨rfl, rfl⟩)
    | (gi_at_call 70; refine cS.mono ?_; rintro e w' ⟨v, ss, rfl, hS, hrow, hnil, hb⟩))
  go_ret
  have hsp := hS.trans HP.out.symm
  have e := sortMk HN.out hsp
  rw [e] at hrow
  have hlen : (mk (D.map Int.ofNat)).length = ss.length := by rw [← e, List.length_mergeSort]
  have ho : OwnI w' (w.heap.size + 1) v (mk (D.map Int.ofNat)) := by
    unfold OwnI
    rw [hlen]
    rw [World.size_alloc] at hrow
    exact hrow
  obtain ⟨A, c, rfl, hr, _⟩ := ho.rd
  exact ⟨A, c, rfl, hr, ((Below.refl _ w).alloc (Nat.le_refl _) _).trans (hb.mono (by simp))⟩
theorem ownCells9 {W : World} {b n : Nat} {v : Value} {xs : List Value} {g : Nat} {e : TypeId} (h : W.ownsRow b e 1 v n xs) (hg : v.ownBlock = some g) : ∃ o : Obj, W.heap[g]? = some o ∧ o.isCells = true := by
  rcases h.2 with ⟨rfl, _⟩ | ⟨k, cap, cur, rfl, _, hk, _⟩
  · simp [Value.ownBlock] at hg
  · obtain rfl : k = g := by simpa [Value.ownBlock] using hg
    exact ⟨_, hk, rfl⟩
theorem wpListIn_app9 {F : Fence} {n : Nat} {P : Program} (w : World) {ops : Array Oper} {rest : List Oper} {o : Oper} {a : Act} {Q : Exit → Act → World → Prop} (hgd : o.guard = none) (s x : Operand) (t : TypeId)
    (ho : o.op = .call { callee := .builtin .append, args := #[s, x], argTypes := #[t, t] }) {v' vx v2 : Value} {w2 : World} (hs : a.eval s = v') (hx : a.eval x = vx)
    (hrun : (Builtin.append_ #[t, t] o.type #[v', vx]).run P w = .ok v2 w2) (h : wpListIn F n P ops Q rest (a.put o.dst v2) w2) : wpListIn F n P ops Q (o :: rest) a w := by
  refine wpListIn_plain hgd fun K hK => ?_
  unfold Oper.wpIn
  refine ⟨?_, ?_⟩
  · simp [Oper.about, ho, resolve, Target.leads]
  · rw [Oper.semAt_plain F _ _ (by rw [ho]; intro c hc'; cases hc')]
    unfold execOp
    simp only [ho, resolve, invoke, builtin, Sem.run_bind, Sem.run_pure, Result.andThen_ok, List.map_toArray, List.map_cons, List.map_nil, hs, hx, hrun]
    exact hK _ _ h
theorem litI9 (w : World) (y : Int) (T : TypeId) : Rd (w.alloc (.cells #[.int .i64 y] T)) (some ⟨w.heap.size, 0, none⟩) 1 [y] :=
  ⟨Nat.le_refl _, by unfold maxLen; omega, fun _ => ⟨_, rfl, by simp, fun j u hu => by
    have hj : j = 0 := by
      have := (List.getElem?_eq_some_iff.1 hu).1
      simpa using this
    subst hj
    have : u = .int .i64 y := by simpa [iv] using hu.symm
    subst this
    exact (Blk.new w T #[.int .i64 y]).cell 0⟩⟩
/-- The call returns a slice that reads as the numbers xs; nothing that was in memory has changed. -/
def GivesN (xs : List Nat) (w : World) (e : Ending) (w' : World) : Prop := ∃ A c, e = .returned (.slice A xs.length c) ∧ Rd w' A c (xs.map Int.ofNat) ∧ Below w.heap.size w w'
/-- append of one number onto a row of the call's own that lies in a box: what is behind it. -/
theorem push9 {U : World} {z base : Nat} {v : Value} {l : List Int} (hb : Boxed U z 33 v) (ho : OwnI U base v l) (hzb : z < base) (hbs : base ≤ U.heap.size) (hl : l.length + 1 ≤ 1000000) (y : Int) (ty : TypeId) :
    ∃ A c w', (Builtin.append_ #[33, 33] ty #[v, .slice (some ⟨U.heap.size, 0, none⟩) 1 1]).run Tryz.prog (U.alloc (.cells #[.int .i64 y] 3)) = .ok (.slice A (l.length + 1) c) w' ∧
      w'.frozen? ⟨z, 0, none⟩ = false ∧ (∃ u, w'.cell? ⟨z, 0, none⟩ = some u ∧ u.oneCell' = true) ∧ Boxed (w'.setCell ⟨z, 0, none⟩ (.slice A (l.length + 1) c)) z 33 (.slice A (l.length + 1) c) ∧ OwnI (w'.setCell ⟨z, 0, none⟩ (.slice A (l.length + 1) c)) base (.slice A (l.length + 1) c) (l ++ [y]) ∧
      Below z U (w'.setCell ⟨z, 0, none⟩ (.slice A (l.length + 1) c)) ∧ KeepsOthers U (w'.setCell ⟨z, 0, none⟩ (.slice A (l.length + 1) c)) := by
  obtain ⟨i0, hi, hz0, hz1, hz2⟩ := info_parts infoInt
  have hA := ho.alloc (.cells #[.int .i64 y] 3)
  have hbA := hb.alloc (.cells #[.int .i64 y] 3)
  have hzl := hb.lt
  have hnew := litI9 U y 3
  obtain ⟨v', w', hrun, h1, _, hg, _⟩ := runApp (P := Tryz.prog) (w := U.alloc (.cells #[.int .i64 y] 3)) base 33 ty 3 i0 _ 8 Tryz.underlying33 hi hz0 hz1 hz2 rfl v l.length (iv l) hA (some ⟨U.heap.size, 0, none⟩) 1 1 (iv [y]) rfl hnew (ivOne _) (by omega) (by unfold maxLen; omega) (by simp; omega)
  have ho' : OwnI w' base v' (l ++ [y]) := by
    unfold OwnI iv
    rw [List.length_append, List.map_append]
    exact h1
  obtain ⟨A, c, e, hr, _⟩ := ho'.rd
  rw [List.length_append] at e
  have e : v' = .slice A (l.length + 1) c := e
  subst e
  have hc1 : Chg (U.alloc (.cells #[.int .i64 y] 3)) w' (fun q => v.ownBlock ≠ some q) := Chg.ofGrown hg fun _ h => h
  have hvz : v.ownBlock ≠ some z := fun e => by have := (World.ownsRow.lt ho z e).1; omega
  have hbw : Boxed w' z 33 v := (hc1.block _ hbA.lt hvz).trans hbA
  have hne : ∀ g, (Value.slice A (l.length + 1) c).ownBlock = some g → g ≠ z := fun g hg2 e => by have := (World.ownsRow.lt ho' g hg2).1; omega
  have hc2 : Chg w' (w'.setCell ⟨z, 0, none⟩ (.slice A (l.length + 1) c)) (fun q => q ≠ z) := Chg.setCell w' ⟨z, 0, none⟩ _
  refine ⟨A, c, w', hrun, hbw.frozen, ⟨_, hbw.cell, ?_⟩, hbw.set _, ownChg ho' hc2 hne, ?_, ?_⟩
  · obtain ⟨A2, c2, rfl, _⟩ := ho.rd
    rfl
  · have hcU : Chg U (U.alloc (.cells #[.int .i64 y] 3)) (fun q => q < z) := Chg.ofBelow (belowAlloc U _) _
    have h3 := (hcU.trans hc1 fun q _ hq e => by have := (World.ownsRow.lt ho q e).1; omega).trans hc2 fun q _ hq => by show q ≠ z; omega
    exact ⟨h3.os, h3.tape, h3.output, h3.size, fun q hq => h3.block q (by omega) hq⟩
  · refine ⟨by have := hc1.size; have := hc2.size; simp at *; omega, fun q o ho2 hoc => ?_⟩
    have hql := (Array.getElem?_eq_some_iff.1 ho2).1
    have h2 := ((belowAlloc U (.cells #[.int .i64 y] 3)).block q hql).trans ho2
    have hq1 : v.ownBlock ≠ some q := fun e => by
      obtain ⟨o2, e2, hc⟩ := ownCells9 ho e
      rw [ho2] at e2
      injection e2 with e2
      subst e2
      rw [hoc] at hc; cases hc
    have hq2 : q ≠ z := fun e => by
      subst e
      have h3 : U.heap[q]? = some (Obj.cells #[v] 33 (0, 0)) := hb
      rw [ho2] at h3
      injection h3 with h3
      subst h3
      cases hoc
    have h4 := hc1.block q (by simp; omega) hq1
    exact (hc2.block q (by have := hc1.size; simp at this; omega) hq2).trans (h4.trans h2)
set_option maxRecDepth 100000 in
set_option maxHeartbeats 2000000 in
theorem iAppendSeq (gf : FuncId) (L : Array Value) (xs : List Nat) (hl : xs.length ≤ 1000) (w : World) (h : ItOk gf L xs w) :
    Calls Tryz.prog 98 #[.slice none 0 0, .func (.func gf) #[] L] w (GivesN xs w) := by
  obtain ⟨W, hW⟩ : ∃ W, w.alloc (.cells #[.slice none 0 0] 33) = W := ⟨_, rfl⟩
  have hbW : Below w.heap.size w W := by rw [← hW]; exact belowAlloc w _
  have hzW : W.heap.size = w.heap.size + 1 := by rw [← hW]; simp
  have hbx : Boxed W w.heap.size 33 (.slice none 0 0) := by rw [← hW]; exact Boxed.new w _ _
  have HWE := Lib.hid hW
  have hge := h.1
  have HIT := Lib.hid (h.2 7 (by omega))
  have HBW := Lib.hid hbW
  have HBX := Lib.hid hbx
  clear h hW hbW hbx
  refine (callsIn_wide (n := 8)).1 ?_
  refine callsIn_of_wp_marks Tryz.func98 rfl trivial ?_ rfl
  simp only [Tryz.ntmps98, List.size_toArray, List.length_cons, List.length_nil, Nat.reduceAdd, Nat.reduceSub, Array.replicate_succ, Array.replicate_zero, List.push_toArray, List.append_toArray, List.nil_append, List.cons_append]
  gi_wp2
  rw [HWE.out]
  refine rangeClos (F := Fence.wide) (n := 8) rfl (by omega) (gf := gf) (lb := L) rfl trivial hge (encs := encN) (Kp := KeepC w.heap.size) (L := xs) (w0 := w) HIT.out (fun h k => h.trans k) (fun W l o o' _ h hc _ => KeepC.put _ W l o o' h hc) HBW.out (fun _ => rfl)
    (fun ps X => ∃ v, Boxed X w.heap.size 33 v ∧ OwnI X (w.heap.size + 1) v (ps.map Int.ofNat) ∧ Below w.heap.size w X ∧ ps.length ≤ xs.length) (fun _ _ _ => False) ?hI (fun _ _ _ _ _ h => h.elim) ⟨_, HBX.out, OwnI.nil _ _, HBW.out, Nat.zero_le _⟩
    (fun _ y => { tmps := #[.slice none 0 0, .func (.func gf) #[] L, .pointer (some ⟨w.heap.size, 0, none⟩), undef, .slice none 0 0, .int .i64 (y : Int), .func (.func gf) #[] L, .int .i64 (y : Int), undef, undef, undef, undef, undef], defers := [] }) (fun _ W => W) (fun _ W => World.grownBy.refl W none) (fun _ W => KeepC.refl _ W) ?assign ?body ?done (fun _ _ _ _ _ h _ => h.elim)
  case assign =>
    intro l y X K hK
    unfold encN
    gi_wp2
    exact hK
  case hI =>
    rintro ps X X' row ⟨v, h1, h2, h3, h4⟩ hgr hr
    have hc : Chg X X' (fun q => row ≠ some q) := Chg.ofGrown hgr fun _ h => h
    have hlo : ∀ q, q < W.heap.size → row ≠ some q := fun q hq e => by have := (hr q e).1; omega
    refine ⟨v, (hc.block _ h1.lt (hlo _ (by omega))).trans h1, ownChg h2 hc fun g hg e => ?_, ⟨hc.os.trans h3.os, hc.tape.trans h3.tape, hc.output.trans h3.output, Nat.le_trans h3.size hc.size, fun q hq => (hc.block q (Nat.lt_of_lt_of_le hq h3.size) (hlo q (by omega))).trans (h3.block q hq)⟩, h4⟩
    obtain ⟨_, o2, ho2, hn⟩ := hr g e
    obtain ⟨o, ho, hoc⟩ := ownCells9 h2 hg
    rw [ho] at ho2
    injection ho2 with ho2
    subst ho2
    rw [hoc] at hn; cases hn
  case body =>
    rintro l ps y rest X U hLL ⟨v, h1, h2, h3, h4⟩ hwl hlX _
    have hlen : ps.length + 1 ≤ xs.length := by rw [hLL, List.length_append, List.length_cons]; omega
    have hpl : (ps.map Int.ofNat).length + 1 ≤ 1000000 := by rw [List.length_map]; omega
    have hUz : w.heap.size + 1 ≤ U.heap.size := by have := h1.lt; omega
    obtain ⟨A2, c2, w2, hrun, hf, ⟨u, hu, hu1⟩, hb2, ho2, hbe, hk⟩ := push9 h1 h2 (by omega) hUz hpl (y : Int) 33
    have HFIN := Lib.hid (show KeepsFrom W.heap.size U (w2.setCell ⟨w.heap.size, 0, none⟩ (.slice A2 ((ps.map Int.ofNat).length + 1) c2)) ∧ KeepC w.heap.size U (w2.setCell ⟨w.heap.size, 0, none⟩ (.slice A2 ((ps.map Int.ofNat).length + 1) c2)) ∧ ∃ v, Boxed (w2.setCell ⟨w.heap.size, 0, none⟩ (.slice A2 ((ps.map Int.ofNat).length + 1) c2)) w.heap.size 33 v ∧ OwnI (w2.setCell ⟨w.heap.size, 0, none⟩ (.slice A2 ((ps.map Int.ofNat).length + 1) c2)) (w.heap.size + 1) v ((ps ++ [y]).map Int.ofNat) ∧ Below w.heap.size w (w2.setCell ⟨w.heap.size, 0, none⟩ (.slice A2 ((ps.map Int.ofNat).length + 1) c2)) ∧ (ps ++ [y]).length ≤ xs.length from
      ⟨hk.from _, ⟨hbe.size, fun q o hq ho _ => (hbe.block q hq).trans ho⟩, _, hb2, by rw [List.map_append]; exact ho2, h3.trans hbe, by rw [List.length_append]; exact hlen⟩)
    have kv := h1.cell
    obtain ⟨A1, c1, rfl, _, _⟩ := h2.rd
    obtain ⟨q1, hq1⟩ : ∃ q, (ps.map Int.ofNat).length = q := ⟨_, rfl⟩
    rw [hq1] at HFIN hrun kv
    clear h1 h2 h3 hbe hk hb2 ho2 hpl hlen hLL hq1
    gi_wp2_with (gi_at_builtin; refine wpListIn_app9 _ rfl (.tmp 8) (.tmp 10) 33 rfl rfl rfl hrun ?_)
    gi_wp2
    exact HFIN.out
  case done =>
    rintro R X hR ⟨v, h1, h2, h3, h4⟩ hK2
    have kv := h1.cell
    obtain ⟨A1, c1, rfl, hr, _⟩ := h2.rd
    have HFIN := Lib.hid (show Rd (X.putObj R (.deferred none)) A1 c1 (xs.map Int.ofNat) ∧ Below w.heap.size w (X.putObj R (.deferred none)) from by
      have hc : Chg X (X.putObj R (.deferred none)) (fun q => q ≠ R) := ⟨rfl, rfl, rfl, by simp, fun q _ hq => World.putObj_heap_other hq⟩
      have ho := ownChg h2 hc fun g hg e => by
        obtain ⟨o, ho, hoc⟩ := ownCells9 h2 hg
        subst e
        rw [hK2] at ho
        injection ho with ho
        subst ho
        cases hoc
      obtain ⟨A3, c3, e3, hr3, _⟩ := OwnI.rd ho
      injection e3 with e1 _ e2
      subst e1; subst e2
      exact ⟨hr3, ⟨h3.os, h3.tape, h3.output, by simpa using h3.size, fun q hq => (World.putObj_heap_other (by omega)).trans (h3.block q hq)⟩⟩)
    clear h1 h2 h3 hr
    gi_wp2
    refine ⟨by simp, .inl ⟨_, _, rfl, run_takeDeferred hK2, ?_⟩⟩
    exact ⟨_, results_tmp rfl _ _ _, A1, c1, rfl, HFIN.out.1, HFIN.out.2⟩
theorem iCollect (gf : FuncId) (L : Array Value) (xs : List Nat) (hl : xs.length ≤ 1000) (w : World) (h : ItOk gf L xs w) :
    Calls Tryz.prog 51 #[.func (.func gf) #[] L] w (GivesN xs w) := by
  have HC := Lib.hid (iAppendSeq gf L xs hl w h)
  clear h
  go_enter Tryz.func51, Tryz.ntmps51
  go_wp2_with fail
  refine HC.out.mono ?_
  rintro e w1 ⟨A, c, rfl, hr, hb⟩
  go_wp2
  go_ret
  exact ⟨A, c, rfl, hr, hb⟩
end Go.Proofs.YtpkagpobobmnfaaGreatDoor

namespace Go.Proofs.YtpkagpobobmnfaaGreatDoor
open Go Go.RowKit Go.Shelf Go.Maps

theorem entRw1 : ∀ args w, (callFunc 69 args).run Tryz.prog w = .ok (.enter 69 args) w := enters_of Tryz.func69 (by kernel_rfl) rfl
theorem retB9 {a b : Bool} (h : a = b) : Ending.returned (.bool a) = .returned (.bool b) := by rw [h]
theorem iRw1 (n k b1 b2 c : Nat) (d : Int) (A : Option Addr) (X : World) (hk : k ≤ n) (h1 : X.cell? ⟨b1, 0, none⟩ = some (.int .i64 d)) (h2 : X.cell? ⟨b2, 0, none⟩ = some (.slice A n c)) :
    Calls Tryz.prog 69 #[.int .i64 (k : Int), .pointer (some ⟨b1, 0, none⟩), .pointer (some ⟨b2, 0, none⟩)] X fun e Y => e = .returned (.bool (avd n d k)) ∧ Below X.heap.size X Y := by
  obtain ⟨r, hr⟩ : ∃ r, avd n d k = r := ⟨_, rfl⟩
  rw [hr]
  by_cases hd : (k : Int) = d
  · have HX := Lib.hid (show false = r by rw [← hr]; unfold avd; rw [decide_eq_false (show ¬ ((k : Int) ≠ d) from fun h => h hd), Bool.and_false])
    clear hr
    subst hd
    go_enter Tryz.func69, Tryz.ntmps69
    go_wp2
    all_goals first
      | (exfalso; omega)
      | (go_ret; exact ⟨retB9 HX.out, by first | exact Below.refl _ _ | exact belowDrewN (Below.refl _ _) _⟩)
  · have hne : ((k : Int) != d) = true := by simpa using hd
    by_cases hkn : k = n
    · have HX := Lib.hid (show false = r by rw [← hr]; unfold avd; rw [decide_eq_false (show ¬ k < n by omega), Bool.false_and])
      have hq : ((k : Int) != (n : Int)) = false := by simp; omega
      clear hr hd
      go_enter Tryz.func69, Tryz.ntmps69
      go_wp2
      all_goals first
        | (exfalso; omega)
        | (go_ret; exact ⟨retB9 HX.out, by first | exact Below.refl _ _ | exact belowDrewN (Below.refl _ _) _⟩)
    · have HX := Lib.hid (show true = r by rw [← hr]; unfold avd; rw [decide_eq_true (show k < n by omega), decide_eq_true hd]; rfl)
      have hq : ((k : Int) != (n : Int)) = true := by simp; omega
      clear hr hd
      go_enter Tryz.func69, Tryz.ntmps69
      go_wp2
      all_goals first
        | (exfalso; omega)
        | (go_ret; exact ⟨retB9 HX.out, by first | exact Below.refl _ _ | exact belowDrewN (Below.refl _ _) _⟩)
/-- The call gives a set, in block gm, of the numbers D. -/
def GivesM9 (P : Nat → Prop) (w : World) (e : Ending) (w' : World) : Prop := ∃ gm D, e = .returned (.map (some gm)) ∧ MapSc w' gm D ∧ D.Nodup ∧ (∀ x, x ∈ D ↔ P x) ∧ w.heap.size ≤ gm ∧ Below w.heap.size w w'
set_option maxRecDepth 100000 in
set_option maxHeartbeats 1000000 in
theorem iReachW (C : List I8) (hok : CfOk C) (n : Nat) (hn : C.length = n) (A : Option Addr) (c : Nat) (d : Int) (w : World) (hr : RdE 8 EI w A c C) :
    Calls Tryz.prog 33 #[.slice A n c, .int .i64 d] w (GivesM9 (fun x => rcB n (sc C) d x = true) w) := by
  obtain ⟨V, hV⟩ : ∃ V, ((w.alloc (.cells #[.slice A n c] 60)).alloc (.cells #[.int .i64 d] 3)).alloc (.cells #[.int .i64 0] 3) = V := ⟨_, rfl⟩
  have hbV : Below w.heap.size w V := by rw [← hV]; exact ((belowAlloc w _).alloc (by simp) _).alloc (by simp; omega) _
  have hzV : V.heap.size = w.heap.size + 3 := by rw [← hV]; simp
  have c1 : V.cell? ⟨w.heap.size, 0, none⟩ = some (.slice A n c) := by rw [← hV]; exact (((Blk.new w _ _).alloc _).alloc _).cell 0
  have c2 : V.cell? ⟨w.heap.size + 1, 0, none⟩ = some (.int .i64 d) := by rw [← hV]; exact ((Blk.new1 w _ _ _).alloc _).cell 0
  have hl1 : w.heap.size < V.heap.size := by omega
  have hl2 : w.heap.size + 1 < V.heap.size := by omega
  have h64 := hok.len
  have hle := hr.le
  have hmx := hr.max
  rw [hn] at hle h64
  unfold maxLen at hmx
  have hp : SeOk ⟨28, #[.slice A n c], #[], 69, #[.pointer (some ⟨w.heap.size + 1, 0, none⟩), .pointer (some ⟨w.heap.size, 0, none⟩)], n, sc C, avd n d, n⟩ V :=
    ⟨nextSt C hok n hn A c V (hr.below stabI hbV), ⟨entRw1, fun X k hX hk => by
      have := iRw1 n k (w.heap.size + 1) w.heap.size c d A X hk (hX.cell (a := ⟨w.heap.size + 1, 0, none⟩) hl2 c2) (hX.cell (a := ⟨w.heap.size, 0, none⟩) hl1 c1)
      simpa using this⟩, fun x hx => (avdIff.1 hx).1, fun x y hy => hn ▸ (scLe hok hy).2, by show n ≤ 1000; omega, by show n ≤ 1000; omega⟩
  have hl : Rd V (some ⟨w.heap.size + 1 + 1, 0, none⟩) 1 ([0].map Int.ofNat) := by
    rw [← hV]
    have h := litI9 ((w.alloc (.cells #[.slice A n c] 60)).alloc (.cells #[.int .i64 d] 3)) 0 3
    rw [World.size_alloc, World.size_alloc] at h
    exact h
  have HC := Lib.hid (iSearch [0] 1 rfl (fun s hs => by rw [List.mem_singleton] at hs; subst hs; exact Nat.zero_le _) (some ⟨w.heap.size + 1 + 1, 0, none⟩) 1 V hp hl)
  have HBV := Lib.hid hbV
  have HZ := Lib.hid hzV
  clear hp hl hbV hzV hl1 hl2 c2 hr
  go_enter Tryz.func33, Tryz.ntmps33
  go_wp2_with fail
  refine HC.out.mono ?_
  rintro e w1 ⟨gm, D, rfl, h1, h2, h3, h5, h4⟩
  go_wp2
  go_ret
  refine ⟨gm, D, rfl, h1, h2, fun x => by rw [h3]; show _ ↔ rcB n (sc C) d x = true; rw [rcIff]; simp, by have := HZ.out; omega, belowThen HBV.out h4⟩

/-! ### A range over a set -/
/-- Block r is a range over the set of block b; the numbers of L are still to come, cnt of them. -/
def RngS (w : World) (b r n : Nat) (S L : Nat → Bool) (cnt : Nat) : Prop :=
  ∃ (D : DataW Value) (left : Lit → Bool), w.ranges Tryz.prog 3 RW9 b r n D left cnt ∧ (∀ x : Int, has D (.int .i64 x) = (decide (0 ≤ x) && S x.toNat)) ∧ ∀ x : Int, left (.int .i64 x) = (decide (0 ≤ x) && L x.toNat)
section
variable {w w' : World} {b r n cnt : Nat} {S L : Nat → Bool}
theorem RngS.left_eq (h : RngS w b r n S L cnt) : w.rangeLeft b r = cnt := by obtain ⟨D, left, h, _⟩ := h; exact h.left_eq
theorem RngS.lt (h : RngS w b r n S L cnt) : b < w.heap.size ∧ r < w.heap.size := by obtain ⟨D, left, h, _⟩ := h; exact ⟨h.owns.lt, h.lt⟩
theorem RngS.notCells (h : RngS w b r n S L cnt) : ∀ o, w.heap[r]? = some o → o.isCells = false := fun o ho => by
  obtain ⟨D, left, h, _⟩ := h
  obtain ⟨o2, ho2, hw⟩ := h.iter_walk
  rw [ho] at ho2
  injection ho2 with ho2
  subst ho2
  exact Obj.not_cells_of_walk hw
theorem RngS.chg {F : Nat → Prop} (h : RngS w b r n S L cnt) (hc : Chg w w' F) (hb : F b) (hr : F r) : RngS w' b r n S L cnt := by
  obtain ⟨D, left, h, h1, h2⟩ := h
  have hlb := h.owns.lt
  have hlr := h.lt
  obtain ⟨es, clock, since, seen, c0, e1, F1, hs, hD, e2, rest⟩ := h
  exact ⟨D, left, ⟨es, clock, since, seen, c0, (hc.block b hlb hb).trans e1, F1, hs, hD, (hc.block r hlr hr).trans e2, rest⟩, h1, h2⟩
end
theorem memI9 {D : List Nat} {x : Int} : decide (x ∈ D.map Int.ofNat) = (decide (0 ≤ x) && decide (x.toNat ∈ D)) := by
  rw [Bool.eq_iff_iff, decide_eq_true_iff, Bool.and_eq_true, decide_eq_true_iff, decide_eq_true_iff, List.mem_map]
  constructor
  · rintro ⟨y, hy, rfl⟩
    exact ⟨by simp, by simpa using hy⟩
  · rintro ⟨h1, h2⟩
    exact ⟨_, h2, by simp; omega⟩
theorem wpList_rangeS (w : World) {ops : Array Oper} {rest : List Oper} {o : Oper} {a : Act} {Q : Exit → Act → World → Prop}
    (hg : o.guard = none) (m : Operand) (hop : o.op = Op.range 71 m) (b : Nat) (D : List Nat) (hm : a.eval m = .map (some b)) (hown : MapSc w b D)
    (hK : ∀ w' cnt, RngS w' b w.heap.size D.length (fun x => decide (x ∈ D)) (fun x => decide (x ∈ D)) cnt → Below w.heap.size w w' → w'.heap.size = w.heap.size + 1 → wpList Tryz.prog ops Q rest (a.put o.dst (.pointer (some ⟨w.heap.size, 0, none⟩))) w') :
    wpList Tryz.prog ops Q (o :: rest) a w := by
  obtain ⟨T, hD, _, hS, _⟩ := hown
  refine wpList_range_own w hg m 71 hop 3 4 keyedInt Tryz.underlying71 RW9 b D.length T hm hD fun w' h1 h2 h3 => hK w' _ ⟨T, _, h1, fun x => (hS x).trans memI9, fun x => (hS x).trans memI9⟩ ?_ h3
  exact (Below.refl _ w).grown h2 (Nat.le_refl _) (fun k hk => by cases hk)
theorem wpList_nextS (w : World) {ops : Array Oper} {rest : List Oper} {o : Oper} {a : Act} {Q : Exit → Act → World → Prop}
    (hg : o.guard = none) (it : Operand) (hop : o.op = Op.next it false) (b r n : Nat) (S L : Nat → Bool) (cnt : Nat) (hit : a.eval it = .pointer (some ⟨r, 0, none⟩)) (h : RngS w b r n S L cnt)
    (hDone : (∀ x, L x = false) → wpList Tryz.prog ops Q rest (a.put o.dst (.tuple #[.bool false])) w)
    (hMore : ∀ (x : Nat) (c : Value) (w' : World) (cnt' : Nat), L x = true → RngS w' b r n S (fun u => L u && !decide (u = x)) cnt' → cnt' < cnt → w.grownBy w' (some r) → w'.heap.size = w.heap.size →
      (Instr.entry (.pointer (some ⟨r, 0, none⟩))).run Tryz.prog w' = .ok (.tuple #[.int .i64 (x : Int), c]) w' → wpList Tryz.prog ops Q rest (a.put o.dst (.tuple #[.bool true, .int .i64 (x : Int), c])) w') :
    wpList Tryz.prog ops Q (o :: rest) a w := by
  obtain ⟨D, left, h, hS, hL⟩ := h
  refine wpList_next_ranges w hg it hop 3 keyedInt RW9 encZ (fun v : Value => v) (fun key kl hk => by obtain ⟨x, hx, _⟩ := Maps.keyOf_i64 Tryz.underlying3 hk; exact ⟨x, hx⟩) (fun v y hv => ⟨v, rfl⟩) b r n D left cnt hit h
    (fun _ hl => hDone fun x => by have := hl (.int .i64 (x : Int)); rw [hL] at this; simpa using this) ?_
  intro x c kl yd w' cnt' hkey hlk hv hat hrg hlt hg hs hen
  obtain ⟨x', ex, rfl, _⟩ := Maps.keyOf_i64 Tryz.underlying3 hkey
  obtain rfl : x = x' := encZ_inj ex
  have hx := hlk
  rw [hL, Bool.and_eq_true, decide_eq_true_iff] at hx
  obtain ⟨y, rfl⟩ : ∃ y : Nat, x = y := ⟨x.toNat, by omega⟩
  refine hMore y c w' cnt' hx.2 ⟨D, _, hrg, hS, fun u => ?_⟩ hlt hg hs hen
  have hsk : (Lit.int .i64 u).sameKey (.int .i64 (y : Int)) = decide (u = (y : Int)) := by
    show decide (IntKind.i64 = IntKind.i64 ∧ u = (y : Int)) = _
    rw [decide_eq_decide]
    exact ⟨fun h => h.2, fun h => ⟨rfl, h⟩⟩
  show (left (.int .i64 u) && !(Lit.int .i64 u).sameKey (.int .i64 (y : Int))) = (decide (0 ≤ u) && (L u.toNat && !decide (u.toNat = y)))
  rw [hL u, hsk]
  by_cases h0 : 0 ≤ u
  · rw [decide_eq_true h0, Bool.true_and, Bool.true_and]
    have e : decide (u = (y : Int)) = decide (u.toNat = y) := by rw [decide_eq_decide]; omega
    rw [e]
  · rw [decide_eq_false h0]; rfl
end Go.Proofs.YtpkagpobobmnfaaGreatDoor
