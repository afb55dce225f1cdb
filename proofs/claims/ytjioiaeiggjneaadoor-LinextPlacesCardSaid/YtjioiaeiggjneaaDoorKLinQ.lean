/-
  The contract of All: the list.
-/
import Derived.Test.YtjioiaeiggjneaaDoorKLinH
namespace Go.Proofs.YtjioiaeiggjneaaDoor
open Go Go.RowKit Go.Shelf
attribute [local go_sem] Oper.semAt_some
theorem ownTy {w : World} {b n : Nat} {e : TypeId} {v : Value} {xs : List Value} {g : Nat} (h : w.ownsRow b e 1 v n xs) (hg : v.ownBlock = some g) : ∃ cs fr, w.heap[g]? = some (.cells cs e fr) := by
  rcases h.2 with ⟨rfl, _⟩ | ⟨k, cap, cur, rfl, _, hk, _⟩
  · simp [Value.ownBlock] at hg
  · obtain rfl : k = g := by simpa [Value.ownBlock] using hg
    exact ⟨_, _, hk⟩
theorem IsL.ty {w : World} {base : Nat} {F : Nat → Prop} : ∀ {vs : List Value} {ls : List (List Int)}, IsL w base F vs ls → IsL w base (fun g => ∃ cs fr, w.heap[g]? = some (.cells cs 3 fr)) vs ls
  | [], [], _ => trivial
  | _ :: _, _ :: _, h => ⟨h.1, fun _ hg => ownTy h.1 hg, IsL.ty h.2.2⟩
theorem colKeep {w w' : World} {base : Nat} {F G : Nat → Prop} {v : Value} {vs : List Value} {ls : List (List Int)} (h1 : OwnL w base v vs) (h2 : IsL w base F vs ls) (hc : Chg w w' G) (hG : ∀ g e cs fr, w.heap[g]? = some (.cells cs e fr) → e = 3 ∨ e = 25 → G g) : OwnL w' base v vs ∧ IsL w' base (fun _ => True) vs ls :=
  ⟨h1.chg hc fun g hg => by obtain ⟨cs, fr, h⟩ := ownTy h1 hg; exact hG g _ cs fr h (.inr rfl), (h2.ty.chg hc fun g h _ => by obtain ⟨cs, fr, h⟩ := h; exact hG g _ cs fr h (.inl rfl)).mono fun _ _ => trivial⟩
theorem boxTy {w : World} {b : Nat} {T : TypeId} {u : Value} (h : Boxed w b T u) (h1 : T ≠ 3) (h2 : T ≠ 25) : ∀ g e cs fr, w.heap[g]? = some (.cells cs e fr) → e = 3 ∨ e = 25 → g ≠ b := fun g e cs fr hg he hb => by
  subst hb
  have h3 : some (Obj.cells #[u] T (0, 0)) = some (Obj.cells cs e fr) := h.symm.trans hg
  injection h3 with h3
  injection h3 with _ h4
  subst h4
  exact he.elim h1 h2
theorem defTy {w : World} {b : Nat} {x : Option (List Deferred)} (h : w.heap[b]? = some (.deferred x)) : ∀ g e cs fr, w.heap[g]? = some (.cells cs e fr) → e = 3 ∨ e = 25 → g ≠ b := fun g e cs fr hg _ hb => by
  subst hb
  rw [h] at hg
  cases hg
/-- Rows of integers stay where the change keeps off them. -/
theorem elsKeep {w w' : World} {base : Nat} {F G : Nat → Prop} {vs : List Value} {ls : List (List Int)} (h2 : IsL w base F vs ls) (hc : Chg w w' G) (hG : ∀ g cs fr, w.heap[g]? = some (.cells cs 3 fr) → G g) : IsL w' base F vs ls := by
  have key : ∀ {vs : List Value} {ls : List (List Int)}, IsL w base F vs ls → IsL w base (fun g => F g ∧ ∃ cs fr, w.heap[g]? = some (.cells cs 3 fr)) vs ls := by
    intro vs
    induction vs with
    | nil => intro ls h; cases ls <;> exact h
    | cons v vs ih => intro ls h; cases ls with
      | nil => exact h
      | cons l ls => exact ⟨h.1, fun g hg => ⟨h.2.1 g hg, ownTy h.1 hg⟩, ih h.2.2⟩
  exact ((key h2).chg hc fun g h _ => by obtain ⟨_, cs, fr, h⟩ := h; exact hG g cs fr h).mono fun g h => h.1
theorem rowTy {w : World} {b : Nat} {v : Value} {vs : List Value} (h : OwnL w b v vs) : ∀ g cs fr, w.heap[g]? = some (.cells cs 3 fr) → v.ownBlock ≠ some g := fun g cs fr hg hv => by
  obtain ⟨cs', fr', h'⟩ := ownTy h hv
  rw [hg] at h'
  injection h' with h'
  injection h' with _ h4
  exact absurd h4 (by decide)
/-- append's run as a step inside a fence. -/
theorem stepInApp {F : Fence} {n : Nat} {P : Program} (w : World) {ops : Array Oper} {o : Oper} {a : Act} {K : Act → World → Prop} {Q : Exit → Act → World → Prop} {E : Prop} (hgd : o.guard = none) (s x : Operand) (t : TypeId)
    (ho : o.op = .call { callee := .builtin .append, args := #[s, x], argTypes := #[t, t] }) {v' vx v2 : Value} {w2 : World} (hs : a.eval s = v') (hx : a.eval x = vx)
    (hrun : (Builtin.append_ #[t, t] o.type #[v', vx]).run P w = .ok v2 w2) (h : K (a.put o.dst v2) w2) : if Region.wanted o (yielded ops a.tmps) = true then Oper.wpIn F n P o a w K Q else E := by
  have hw : Region.wanted o (yielded ops a.tmps) = true := by simp [Region.wanted, hgd]
  rw [if_pos hw]
  unfold Oper.wpIn
  refine ⟨?_, ?_⟩
  · simp [Oper.about, ho, resolve, Target.leads]
  · rw [Oper.semAt_plain F _ _ (by rw [ho]; intro c hc'; cases hc')]
    unfold execOp
    simp only [ho, resolve, invoke, builtin, Sem.run_bind, Sem.run_pure, Result.andThen_ok, List.map_toArray, List.map_cons, List.map_nil, hs, hx, hrun]
    exact h
/-- A store of a slice as a step inside a fence. -/
theorem stepInSto {F : Fence} {n : Nat} (w : World) {ops : Array Oper} {o : Oper} {a : Act} {K : Act → World → Prop} {Q : Exit → Act → World → Prop} {E : Prop} (hgd : o.guard = none) (hd : o.dst = none) (s x : Operand)
    (ho : o.op = .store 37 s x) {b : Nat} {A : Option Addr} {m c : Nat} {v0 : Value} (hs : a.eval s = .pointer (some ⟨b, 0, none⟩)) (hx : a.eval x = .slice A m c)
    (hc : w.cell? ⟨b, 0, none⟩ = some v0) (hf : w.frozen? ⟨b, 0, none⟩ = false) (h : K a (w.setCell ⟨b, 0, none⟩ (.slice A m c))) : if Region.wanted o (yielded ops a.tmps) = true then Oper.wpIn F n Tryd.prog o a w K Q else E := by
  have hw : Region.wanted o (yielded ops a.tmps) = true := by simp [Region.wanted, hgd]
  rw [if_pos hw]
  unfold Oper.wpIn
  refine ⟨?_, ?_⟩
  · simp [Oper.about, ho]
  · rw [Oper.semAt_plain F _ _ (by rw [ho]; intro c hc'; cases hc')]
    unfold execOp
    simp only [ho, hs, hx]
    go_simp
    exact h
theorem makeL (N : Nat) (hN : N ≤ 1048576) (w : World) : (Instr.makeSlice 37 (.int .i64 0) (.int .i64 N)).run Tryd.prog w = .ok (.slice (some ⟨w.heap.size, 0, none⟩) 0 N) (w.alloc (.cells (madeCells #[.slice none 0 0] N) 25)) := by
  obtain ⟨i, hi, hzz⟩ := Option.map_eq_some_iff.1 infoSl
  simp only [Prod.mk.injEq] at hzz
  obtain ⟨hz, hs, hb⟩ := hzz
  have h := run_make (P := Tryd.prog) w 37 25 i (.slice none 0 0) Tryd.underlying37 hi hz .i64 .i64 0 N (by omega) (by omega) (by rw [hb]; omega) (by omega)
  rw [hs] at h
  simpa [Value.cells] using h
/-- What a round of All's second loop leaves: the clone is laid, appended, stored. -/
theorem colStep {base q B : Nat} {S : Nat → Prop} {v : Value} {vs : List Value} {ls : List (List Int)} {Z : World} (t : ColSt base q S v vs ls Z) {u : List Int} (hqB : q < B) (hqS : ¬ S q) (hS : ∀ g, S g → g < Z.heap.size) (hbase : base ≤ Z.heap.size)
    {Z2 w' : World} {v1 v' : Value} (hb1 : Below Z.heap.size Z Z2) (ho1 : OwnI Z2 Z.heap.size v1 u) (hrow : w'.ownsRow base 25 1 v' (vs.length + 1) (vs ++ [v1])) (hgr : (Z2.alloc (.cells #[v1] 25)).grownBy w' v.ownBlock) (hmv : Moved (Z2.alloc (.cells #[v1] 25)) v v' vs.length 1) :
    w'.cell? ⟨q, 0, none⟩ = some v ∧ w'.frozen? ⟨q, 0, none⟩ = false ∧ KeepsFrom B Z (w'.setCell ⟨q, 0, none⟩ v') ∧ Chg Z (w'.setCell ⟨q, 0, none⟩ v') (fun g => v.ownBlock ≠ some g ∧ g ≠ q) ∧ ColSt base q S v' (vs ++ [v1]) (ls ++ [u]) (w'.setCell ⟨q, 0, none⟩ v') := by
  obtain ⟨Y, hY⟩ : ∃ Y, Z2.alloc (.cells #[v1] 25) = Y := ⟨_, rfl⟩
  have hY2 : Below Z2.heap.size Z2 Y := by rw [← hY]; exact belowAlloc _ _
  have hbY : Below Z.heap.size Z Y := belowThen hb1 hY2
  rw [hY] at hgr hmv
  have rowY : OwnL Y base v vs := t.row.chg (Chg.ofBelow hbY fun _ => True) fun _ _ => trivial
  have boxY : Boxed Y q 37 v := (hbY.block _ t.box.lt).trans t.box
  have hrb : v.ownBlock ≠ some q := fun h => by
    obtain ⟨cs, fr, h2⟩ := ownTy rowY h
    exact boxTy boxY (by decide) (by decide) _ _ _ _ h2 (.inr rfl) rfl
  have box' : Boxed w' q 37 v := (hgr.block _ boxY.lt (fun h => hrb h.symm)).trans boxY
  have hqZ := t.box.lt
  refine ⟨box'.cell, box'.frozen, ?_⟩
  have bx2 : Boxed (w'.setCell ⟨q, 0, none⟩ v') q 37 v' := box'.set v'
  obtain ⟨Zf, hZf⟩ : ∃ Zf, w'.setCell ⟨q, 0, none⟩ v' = Zf := ⟨_, rfl⟩
  have cf : Chg w' Zf (fun g => g ≠ q) := by rw [← hZf]; exact Chg.setCell w' ⟨q, 0, none⟩ v'
  rw [hZf] at bx2 ⊢
  have cg : Chg Y w' (fun g => v.ownBlock ≠ some g) := Chg.ofGrown hgr fun k hk => hk
  have cYf : Chg Y Zf (fun g => v.ownBlock ≠ some g ∧ g ≠ q) := (cg.mono fun _ h => h.1).trans cf fun i _ h => h.2
  have call : Chg Z Zf (fun g => v.ownBlock ≠ some g ∧ g ≠ q) := (Chg.ofBelow hbY _).trans cYf fun i _ h => h
  have c2f : Chg Z2 Zf (fun g => v.ownBlock ≠ some g ∧ g ≠ q) := (Chg.ofBelow hY2 _).trans cYf fun i _ h => h
  refine ⟨⟨call.size, fun k o hB hk hoc => (call.block k (Array.getElem?_eq_some_iff.1 hk).1 ⟨fun h => ?_, by omega⟩).trans hk⟩, call, bx2, ?_, fun g hg hs => ?_, ?_⟩
  · obtain ⟨o', ho', hoc'⟩ := ownCells t.row h
    rw [hk] at ho'
    cases ho'
    rw [hoc] at hoc'
    cases hoc'
  · have h1 : OwnL w' base v' (vs ++ [v1]) := by unfold OwnL; rw [List.length_append]; exact hrow
    exact h1.chg cf fun g hg e => by
      subst e
      rcases movedBlock hmv with h | h
      · exact hrb (h.symm.trans hg)
      · have h2 := boxY.lt
        rw [hg] at h
        injection h with h
        omega
  · rcases movedBlock hmv with h | h
    · exact t.off g (h.symm.trans hg) hs
    · have h2 := hS g hs
      have h3 := hbY.size
      rw [hg] at h
      injection h with h
      omega
  · refine IsL.append (elsKeep t.els call fun g cs fr h => ⟨rowTy t.row g cs fr h, boxTy t.box (by decide) (by decide) g _ cs fr h (.inl rfl)⟩) ⟨ownMono (ho1.chg c2f fun g hg => ⟨fun h => ?_, ?_⟩) hbase, fun g hg hs => ?_, trivial⟩
    · have h2 := (World.ownsRow.lt t.row g h).2
      have h3 := (ho1.lt hg).1
      omega
    · have h3 := (ho1.lt hg).1
      omega
    · have h2 := hS g hs
      have h3 := (ho1.lt hg).1
      omega
set_option maxRecDepth 100000 in
set_option maxHeartbeats 2000000 in
theorem iAllOk (N : Nat) (hN : N ≤ 64) (l : Prs) (n : Nat) (hn : l.length = n) (hs : n ≤ 65536) (hc : acyR N l = true) (A : Option Addr) (c : Nat) (lim : Int) (hl1 : 1 ≤ lim) (hl2 : lim ≤ 1048576) (hm : ((exts N (hasP l) N 0).length : Int) ≤ lim) (w : World) (ha : Rp w A c l) (hT : Tbl w) :
    Calls Tryd.prog 12 #[relV N A n c, .int .i64 lim] w fun e w' => ∃ v vs, e = .returned (.tuple #[v, .int .i64 0]) ∧ OwnL w' w.heap.size v vs ∧ IsL w' w.heap.size (fun _ => True) vs ((exts N (hasP l) N 0).map nI) ∧ Below w.heap.size w w' := by
  obtain ⟨W, hW⟩ : ∃ W, (((w.alloc (.cells #[.int .i64 N, .slice A n c] 24)).alloc (.cells #[.int .i64 lim] 3)).alloc (.cells #[.slice none 0 0] 37)).alloc (.cells #[.int .i64 0] 28) = W := ⟨_, rfl⟩
  have hbW : Below w.heap.size w W := by rw [← hW]; exact (((belowAlloc w _).alloc (by simp) _).alloc (by simp; omega) _).alloc (by simp; omega) _
  have HB0 : Hid (BoxR W w.heap.size N (.slice A n c)) := by rw [← hW]; exact Lib.hid ((((BoxR.new w N _).alloc _).alloc _).alloc _)
  have p1 : Boxed W (w.heap.size + 1) 3 (.int .i64 lim) := by
    rw [← hW]
    have h := Boxed.new (w.alloc (.cells #[.int .i64 N, .slice A n c] 24)) 3 (.int .i64 lim)
    simp only [World.size_alloc] at h
    exact (h.alloc _).alloc _
  have p2 : Boxed W (w.heap.size + 1 + 1) 37 (.slice none 0 0) := by
    rw [← hW]
    have h := Boxed.new ((w.alloc (.cells #[.int .i64 N, .slice A n c] 24)).alloc (.cells #[.int .i64 lim] 3)) 37 (.slice none 0 0)
    simp only [World.size_alloc] at h
    exact h.alloc _
  have p3 : Boxed W (w.heap.size + 1 + 1 + 1) 28 (.int .i64 0) := by
    rw [← hW]
    have h := Boxed.new (((w.alloc (.cells #[.int .i64 N, .slice A n c] 24)).alloc (.cells #[.int .i64 lim] 3)).alloc (.cells #[.slice none 0 0] 37)) 28 (.int .i64 0)
    simp only [World.size_alloc] at h
    exact h
  obtain ⟨z0, z1, _, _⟩ := HB0.out.facts
  have HC := Lib.hid (iAcyc N l n hn hs A c W (ha.below hbW))
  have HN := Lib.hid hc
  have P2 := Lib.hid p2
  have P3 := Lib.hid p3
  have P1 := Lib.hid p1
  have HTB := Lib.hid hT.block
  have HT := Lib.hid (hT.below hbW)
  clear ha hn hs hc p1 p2 p3 hT
  refine (callsIn_wide (n := 8)).1 ?_
  refine callsIn_of_wp_marks Tryd.func12 rfl trivial ?_ rfl
  simp only [Tryd.ntmps12, List.size_toArray, List.length_cons, List.length_nil, Nat.reduceAdd, Nat.reduceSub, Array.replicate_succ, Array.replicate_zero, List.push_toArray, List.append_toArray, List.nil_append, List.cons_append]
  gi_wp2_with fail
  refine ⟨trivial, (callsIn_wide.2 HC.out).mono ?_⟩
  rintro e w1 ⟨⟨h2, _⟩, hb1⟩
  obtain ⟨g, rfl, hB⟩ := h2 HN.out
  have hf0 : FixG N (hasP l) (some ⟨g, 0, none⟩) N w1 := ⟨HT.out.below hb1, hB⟩
  clear hB
  have q1 : Boxed w1 (w.heap.size + 1) 3 (.int .i64 lim) := (hb1.block _ P1.out.lt).trans P1.out
  have kc1 := q1.cell
  have q2 : Boxed w1 (w.heap.size + 1 + 1) 37 (.slice none 0 0) := (hb1.block _ P2.out.lt).trans P2.out
  have q3 : Boxed w1 (w.heap.size + 1 + 1 + 1) 28 (.int .i64 0) := (hb1.block _ P3.out.lt).trans P3.out
  have hsz := hbW.size
  have e1 : decide (lim < 1) = false := by simpa using hl1
  have e2 : decide (lim > 1048576) = false := by simpa using hl2
  obtain ⟨V, hV⟩ : ∃ V, w1.alloc (.cells #[.int .i64 0] 3) = V := ⟨_, rfl⟩
  have hz1 : w.heap.size + 1 + 1 + 1 + 1 ≤ w1.heap.size := by have := q3.lt; omega
  have hzV : w1.heap.size < V.heap.size := by rw [← hV]; simp
  have hbV : Below w1.heap.size w1 V := by rw [← hV]; exact belowAlloc w1 _
  have r4 : Boxed V w1.heap.size 3 (.int .i64 0) := by rw [← hV]; exact Boxed.new w1 _ _
  have r1 : Boxed V (w.heap.size + 1) 3 (.int .i64 lim) := (hbV.block _ q1.lt).trans q1
  have r2 : Boxed V (w.heap.size + 1 + 1) 37 (.slice none 0 0) := (hbV.block _ q2.lt).trans q2
  have r3 : Boxed V (w.heap.size + 1 + 1 + 1) 28 (.int .i64 0) := (hbV.block _ q3.lt).trans q3
  have hfV : FixG N (hasP l) (some ⟨g, 0, none⟩) N V := hf0.keep hf0 (Chg.ofBelow hbV _)
  have hf1 : FixG N (hasP l) (some ⟨g, 0, none⟩) N w1 := hf0
  have HBV := Lib.hid (belowThen (belowThen hbW hb1) hbV)
  have HSQ := Lib.hid (extsS 7 N hN (hasP l) (some ⟨g, 0, none⟩) N V)
  have HV := Lib.hid hV
  clear hV
  gi_wp2
  rw [HV.out]
  refine rangeBoundS (F := Fence.wide) (n := 8) rfl (by omega) (gf := 27) (bd := #[.slice (some ⟨g, 0, none⟩) N N]) rfl trivial entersExt HSQ.out (Below.refl _ _) (fun x args X h => by obtain ⟨_, v, rfl, _⟩ := h; simp)
    (fun X Y h hc => hfV.keep h (hc.mono fun q hq hn => by have := hn.1; omega)) (fun x args X Y h hc => by obtain ⟨b, v, rfl, hr⟩ := h; exact ⟨b, v, rfl, ownNC hr hc⟩)
    (fun pre S X => (∀ q, S q → V.heap.size ≤ q) ∧ V.heap.size ≤ X.heap.size ∧ CntSt w.heap.size w1.heap.size lim pre.length (.slice none 0 0) 0 X ∧ Below w.heap.size w X ∧ (pre.length : Int) ≤ lim)
    (fun _ _ _ _ => False)
    ?hI ?hIx ?h0 hfV (fun args => { tmps := #[relV (N : Int) A n c, .int .i64 lim, .pointer (some ⟨w.heap.size, 0, none⟩), .pointer (some ⟨w.heap.size + 1, 0, none⟩), .pointer (some ⟨w.heap.size + 1 + 1, 0, none⟩), .pointer (some ⟨w.heap.size + 1 + 1 + 1, 0, none⟩), .slice (some ⟨g, 0, none⟩) N N, .int .i64 0, .pointer (some ⟨w1.heap.size, 0, none⟩), undef, undef, .tuple #[.slice (some ⟨g, 0, none⟩) N N, .int .i64 0], .agg #[.int .i64 N, .slice A n c], .tuple #[.slice (some ⟨g, 0, none⟩) N N, .int .i64 0], .slice (some ⟨g, 0, none⟩) N N, .int .i64 0, .int .i64 0, .bool false, undef, .int .i64 lim, .bool false, .bool false, .int .i64 lim, .bool false, .bool false, .slice (some ⟨g, 0, none⟩) N N, .func (.func 27) #[.slice (some ⟨g, 0, none⟩) N N] #[], args.getD 0 undef, undef, undef, undef, undef, undef, undef, undef, undef, undef, undef, undef, undef, undef, undef, undef, undef], defers := [] }) ?assign ?body ?done ?stop
  case h0 => exact ⟨fun _ h => h.elim, Nat.le_refl _, ⟨r1, r2, r3, r4⟩, HBV.out, by simp; omega⟩
  case hI =>
    rintro pre S X Y ⟨s1, s2, s3, s4, s5⟩ hc
    have hq : ∀ q, q < V.heap.size → Y.heap[q]? = X.heap[q]? := fun q hq => hc.block q (by omega) ⟨fun h => by have := s1 q h; omega, fun h => by have := h.1; omega⟩
    exact ⟨fun q h => h.elim (s1 q) fun h => by omega, Nat.le_trans s2 hc.size, s3.keep hq (by omega) (by omega), ⟨hc.os.trans s4.os, hc.tape.trans s4.tape, hc.output.trans s4.output, Nat.le_trans s4.size hc.size, fun q hq2 => (hq q (by omega)).trans (s4.block q hq2)⟩, s5⟩
  case hIx => exact fun _ _ _ _ _ h _ => h.elim
  case assign =>
    intro lr args X K ha hK
    obtain ⟨v, rfl⟩ := Array.size_eq_one_iff.1 ha
    gi_wp2
    exact hK
  case done =>
    rintro R S X hR ⟨s1, s2, s3, s4, s5⟩ hg hK
    obtain ⟨M, hM⟩ : ∃ M, (exts N (hasP l) N 0).length = M := ⟨_, rfl⟩
    rw [hM] at s3 s5
    have kf := s3.found.cell
    have hmk := makeL M (by omega)
    obtain ⟨V2, hV2⟩ : ∃ V2, (X.alloc (.cells (madeCells #[.slice none 0 0] M) 25)).alloc (.cells #[.slice (some ⟨X.heap.size, 0, none⟩) 0 M] 37) = V2 := ⟨_, rfl⟩
    have hRX := (Array.getElem?_eq_some_iff.1 hK).1
    have hzV2 : X.heap.size + 1 < V2.heap.size := by rw [← hV2]; simp
    have hbV2 : Below X.heap.size X V2 := by rw [← hV2]; exact (belowAlloc X _).alloc (by simp) _
    have hwX := s4.size
    have col0 : ColSt X.heap.size (X.heap.size + 1) (fun _ => False) (.slice (some ⟨X.heap.size, 0, none⟩) 0 M) [] [] V2 := by
      refine ⟨?_, ?_, fun _ _ h => h, trivial⟩
      · rw [← hV2]
        have h := Boxed.new (X.alloc (.cells (madeCells #[.slice none 0 0] M) 25)) 37 (.slice (some ⟨X.heap.size, 0, none⟩) 0 M)
        simp only [World.size_alloc] at h
        exact h
      · rw [← hV2]
        exact World.ownsRow.alloc (World.ownsRow_made (e := 25) X (base := X.heap.size) (size := 1) (madeCells #[.slice none 0 0] M) M (Nat.le_refl _) (by unfold maxLen; omega) (by rw [← Array.length_toList, toList_madeCells_one]; simp)) _
    have cs2 : CntSt w.heap.size w1.heap.size lim M (.slice none 0 0) 0 V2 := s3.keep (B := X.heap.size) (fun q hq => hbV2.block q hq) (by omega) (by omega)
    have fx2 : FixG N (hasP l) (some ⟨g, 0, none⟩) N V2 := hg.keep hg (Chg.ofBelow hbV2 _)
    have bw2 : Below w.heap.size w V2 := belowThen s4 hbV2
    have hR2 : V2.heap[R]? = some (.deferred (some [])) := (hbV2.block _ hRX).trans hK
    have HSQ2 := Lib.hid (extsS 7 N hN (hasP l) (some ⟨g, 0, none⟩) N V2)
    have HV2 := Lib.hid hV2
    have HG := Lib.hid hg
    have hRV2 : R < V2.heap.size := by omega
    clear hV2 hg
    gi_wp2
    rw [HV2.out]
    refine rangeBoundS (F := Fence.wide) (n := 8) rfl (by omega) (gf := 27) (bd := #[.slice (some ⟨g, 0, none⟩) N N]) rfl trivial entersExt HSQ2.out (Below.refl _ _) (fun x args X h => by obtain ⟨_, v, rfl, _⟩ := h; simp)
      (fun X Y h hc => fx2.keep h (hc.mono fun q hq hn => by have := hn.1; omega)) (fun x args X Y h hc => by obtain ⟨b, v, rfl, hr⟩ := h; exact ⟨b, v, rfl, ownNC hr hc⟩)
      (fun pre S Z => (∀ q, S q → V2.heap.size ≤ q ∧ q < Z.heap.size) ∧ V2.heap.size ≤ Z.heap.size ∧ CntSt w.heap.size w1.heap.size lim M (.slice none 0 0) 0 Z ∧ Below w.heap.size w Z ∧ Z.heap[R]? = some (.deferred (some [])) ∧ ∃ v vs, ColSt X.heap.size (X.heap.size + 1) S v vs (pre.map nI) Z)
      (fun _ _ _ _ => False)
      ?hI2 (fun _ _ _ _ _ h _ => h.elim) ⟨fun _ h => h.elim, Nat.le_refl _, cs2, bw2, hR2, _, _, col0⟩ fx2 (fun args => { tmps := #[relV (N : Int) A n c, .int .i64 lim, .pointer (some ⟨w.heap.size, 0, none⟩), .pointer (some ⟨w.heap.size + 1, 0, none⟩), .pointer (some ⟨w.heap.size + 1 + 1, 0, none⟩), .pointer (some ⟨w.heap.size + 1 + 1 + 1, 0, none⟩), .slice (some ⟨g, 0, none⟩) N N, .int .i64 0, .pointer (some ⟨w1.heap.size, 0, none⟩), .pointer (some ⟨X.heap.size + 1, 0, none⟩), args.getD 0 undef, .tuple #[.slice (some ⟨g, 0, none⟩) N N, .int .i64 0], .agg #[.int .i64 N, .slice A n c], .tuple #[.slice (some ⟨g, 0, none⟩) N N, .int .i64 0], .slice (some ⟨g, 0, none⟩) N N, .int .i64 0, .int .i64 0, .bool false, undef, .int .i64 lim, .bool false, .bool false, .int .i64 lim, .bool false, .bool false, .slice (some ⟨g, 0, none⟩) N N, .func (.func 27) #[.slice (some ⟨g, 0, none⟩) N N] #[], undef, undef, undef, undef, undef, undef, .int .i64 M, .slice (some ⟨X.heap.size, 0, none⟩) 0 M, .slice (some ⟨g, 0, none⟩) N N, .func (.func 27) #[.slice (some ⟨g, 0, none⟩) N N] #[], args.getD 0 undef, undef, undef, undef, undef, undef, undef], defers := [] }) ?assign2 ?body2 ?done2 (fun _ _ _ _ _ _ h _ _ => h.elim)
    case hI2 =>
      rintro pre S A A' ⟨t1, t2, t3, t4, t5, v, vs, t6⟩ hc
      have hq : ∀ q, q < V2.heap.size → A'.heap[q]? = A.heap[q]? := fun q hq => hc.block q (by omega) ⟨fun h => by have := (t1 q h).1; omega, fun h => by have := h.1; omega⟩
      exact ⟨fun q h => h.elim (fun h => ⟨(t1 q h).1, by have := (t1 q h).2; have := hc.size; omega⟩) fun h => ⟨by omega, h.2⟩, Nat.le_trans t2 hc.size, t3.keep hq (by omega) (by omega), ⟨hc.os.trans t4.os, hc.tape.trans t4.tape, hc.output.trans t4.output, Nat.le_trans t4.size hc.size, fun q hq2 => (hq q (by omega)).trans (t4.block q hq2)⟩, (hq R hRV2).trans t5, v, vs, t6.keep (fun h => by have := (t1 _ h).1; omega) hc⟩
    case assign2 =>
      intro lr args Z K ha hK
      obtain ⟨v, rfl⟩ := Array.size_eq_one_iff.1 ha
      gi_wp2
      exact hK
    case done2 =>
      rintro R2 S2 Z hR2 ⟨t1, t2, t3, t4, t5, v, vs, t6⟩ _ hK2
      obtain ⟨AA, cc, hv, _⟩ := t6.row.rds
      subst hv
      have kb := t6.box.cell
      have kr := t3.res.cell
      have fr := t3.res.frozen
      obtain ⟨Z1, hZ1⟩ : ∃ Z1, Z.setCell ⟨w.heap.size + 1 + 1, 0, none⟩ (.slice AA vs.length cc) = Z1 := ⟨_, rfl⟩
      have c1 : Chg Z Z1 (fun q => q ≠ w.heap.size + 1 + 1) := by rw [← hZ1]; exact Chg.setCell Z ⟨w.heap.size + 1 + 1, 0, none⟩ _
      have u1 : CntSt w.heap.size w1.heap.size lim M (.slice AA vs.length cc) 0 Z1 := by rw [← hZ1]; exact ⟨t3.hlim.other (by omega) _, t3.res.set _, t3.err.other (by omega) _, t3.found.other (by omega) _⟩
      have ke := u1.err.cell
      have fe := u1.err.frozen
      obtain ⟨Z2, hZ2⟩ : ∃ Z2, Z1.setCell ⟨w.heap.size + 1 + 1 + 1, 0, none⟩ (.int .i64 0) = Z2 := ⟨_, rfl⟩
      have c2 : Chg Z1 Z2 (fun q => q ≠ w.heap.size + 1 + 1 + 1) := by rw [← hZ2]; exact Chg.setCell Z1 ⟨w.heap.size + 1 + 1 + 1, 0, none⟩ _
      have u2 : CntSt w.heap.size w1.heap.size lim M (.slice AA vs.length cc) 0 Z2 := by rw [← hZ2]; exact ⟨u1.hlim.other (by omega) _, u1.res.other (by omega) _, u1.err.set _, u1.found.other (by omega) _⟩
      have zc1 := c1.size
      have zc2 := c2.size
      have lR2 := (Array.getElem?_eq_some_iff.1 hK2).1
      have lR := (Array.getElem?_eq_some_iff.1 t5).1
      have d2 : Z2.heap[R2]? = some (.deferred (some [])) := (c2.block _ (by omega) (by omega)).trans ((c1.block _ lR2 (by omega)).trans hK2)
      have d1 : Z2.heap[R]? = some (.deferred (some [])) := (c2.block _ (by omega) (by omega)).trans ((c1.block _ lR (by omega)).trans t5)
      have d3 : (Z2.putObj R2 (.deferred none)).heap[R]? = some (.deferred (some [])) := (World.putObj_heap_other (by omega)).trans d1
      have p2 : ∀ (Y : World) (r : Nat) (o : Obj), Chg Y (Y.putObj r o) (fun q => q ≠ r) := fun Y r o => ⟨rfl, rfl, rfl, by simp, fun q _ hq => World.putObj_heap_other hq⟩
      have HFIN := Lib.hid (show (CntSt w.heap.size w1.heap.size lim M (.slice AA vs.length cc) 0 ((Z2.putObj R2 (.deferred none)).putObj R (.deferred none))) ∧ OwnL ((Z2.putObj R2 (.deferred none)).putObj R (.deferred none)) w.heap.size (.slice AA vs.length cc) vs ∧ IsL ((Z2.putObj R2 (.deferred none)).putObj R (.deferred none)) w.heap.size (fun _ => True) vs ((exts N (hasP l) N 0).map nI) ∧ Below w.heap.size w ((Z2.putObj R2 (.deferred none)).putObj R (.deferred none)) from by
        obtain ⟨o1, l1⟩ := colKeep t6.row t6.els c1 (boxTy t3.res (by decide) (by decide))
        obtain ⟨o2, l2⟩ := colKeep o1 l1 c2 (boxTy u1.err (by decide) (by decide))
        obtain ⟨o3, l3⟩ := colKeep o2 l2 (p2 Z2 R2 (.deferred none)) (defTy d2)
        obtain ⟨o4, l4⟩ := colKeep o3 l3 (p2 (Z2.putObj R2 (.deferred none)) R (.deferred none)) (defTy d3)
        refine ⟨(u2.keep (B := V.heap.size) (fun q hq => (World.putObj_heap_other (by omega)).trans (World.putObj_heap_other (by omega))) (by omega) (by omega)), ownMono o4 hwX, IsL.base' hwX l4, ⟨c2.os.trans (c1.os.trans t4.os), c2.tape.trans (c1.tape.trans t4.tape), c2.output.trans (c1.output.trans t4.output), by have := t4.size; simp; omega, fun q hq => ?_⟩⟩
        exact ((World.putObj_heap_other (by omega)).trans (World.putObj_heap_other (by omega))).trans ((c2.block q (by have := t4.size; omega) (by omega)).trans ((c1.block q (by have := t4.size; omega) (by omega)).trans (t4.block q hq))))
      clear c1 c2 u1 u2 t3 t4 t6 p2
      gi_wp2
      refine ⟨by simp, .inl ⟨_, _, rfl, run_takeDeferred d2, ?_⟩⟩
      refine ⟨by simp, .inl ⟨_, _, rfl, run_takeDeferred d3, ?_⟩⟩
      exact ⟨_, resAll rfl rfl HFIN.out.1.res HFIN.out.1.err, _, _, rfl, HFIN.out.2.1, HFIN.out.2.2.1, HFIN.out.2.2.2⟩
    case body2 =>
      rintro lr pre x post S2 args Z hL ⟨t1, t2, t3, t4, t5, v, vs, t6⟩ hgZ hA hlow
      obtain ⟨b, u, rfl, hu⟩ := hA
      obtain ⟨AA, cc, hv, _⟩ := t6.row.rds
      subst hv
      have hlx : (nI x).length ≤ 65536 := by
        have h9 : x ∈ exts N (hasP l) N 0 := by rw [hL]; simp
        have h8 := (extsMem.1 h9).1
        unfold nI
        rw [List.length_map]
        omega
      have HCL := Lib.hid (iClone (nI x) hlx b u Z.drew (show OwnI Z.drew b u (nI x) from hu))
      have kb := t6.box.cell
      obtain ⟨i0, hi, hq0, hq1, hq2⟩ := info_parts infoSl
      have hvl : vs.length ≤ 1048576 := by
        have h9 := congrArg List.length hL
        have h8 := t6.els.len
        rw [List.length_map] at h8
        rw [List.length_append, List.length_cons] at h9
        omega
      have rowD : OwnL Z.drew X.heap.size (.slice AA vs.length cc) vs := t6.row
      have boxD : Boxed Z.drew (X.heap.size + 1) 37 (.slice AA vs.length cc) := t6.box
      have HAPP := Lib.hid (fun (Z1 : World) (hb1 : Below Z.drew.heap.size Z.drew Z1) (v1 : Value) (h1 : v1.oneCell' = true) => runApp (P := Tryd.prog) (Z1.alloc (.cells #[v1] 25)) X.heap.size 37 37 25 i0 _ 24 Tryd.underlying37 hi hq0 hq1 hq2 rfl (.slice AA vs.length cc) vs.length vs (World.ownsRow.alloc (ownChg rowD (Chg.ofBelow hb1 fun _ => True) fun _ _ => trivial) _) (some ⟨Z1.heap.size, 0, none⟩) 1 1 [v1] rfl (Rds.lit Z1 [v1] 25 (by simp [maxLen])) (by simpa using h1) (by omega) (by unfold maxLen; omega) (by have h2 : Z.heap.size ≤ Z1.heap.size := hb1.size; simp; omega))
      -- OPEN: the drawn region (NOTES 12 (e)): HCL gives Clone's result, HAPP the append's run behind it
      have keepF := fun (Z2 w' : World) (v1 v' : Value) h1 h2 h3 h4 h5 => colStep t6 (B := V2.heap.size) (u := nI x) (by omega) (fun h => by have := (t1 _ h).1; omega) (fun g hg => (t1 g hg).2) (by omega) (Z2 := Z2) (w' := w') (v1 := v1) (v' := v') h1 h2 h3 h4 h5
      have FIN := Lib.hid (show ∀ (Zf : World) (v' : Value) (vs' : List Value), KeepsFrom V2.heap.size Z Zf ∧ Chg Z Zf (fun g => (Value.slice AA vs.length cc).ownBlock ≠ some g ∧ g ≠ X.heap.size + 1) ∧ ColSt X.heap.size (X.heap.size + 1) S2 v' vs' (pre.map nI ++ [nI x]) Zf →
          KeepsFrom V2.heap.size Z Zf ∧ (FixG N (hasP l) (some ⟨g, 0, none⟩) N Zf ∧ Chg Z Zf S2) ∧ ((∀ q, S2 q → V2.heap.size ≤ q ∧ q < Zf.heap.size) ∧ V2.heap.size ≤ Zf.heap.size ∧ CntSt w.heap.size w1.heap.size lim M (.slice none 0 0) 0 Zf ∧ Below w.heap.size w Zf ∧ Zf.heap[R]? = some (.deferred (some [])) ∧ ∃ v vs, ColSt X.heap.size (X.heap.size + 1) S2 v vs ((pre ++ [x]).map nI) Zf) from by
        rintro Zf v' vs' ⟨f1, f2, f3⟩
        have hF : ∀ q, q < X.heap.size → (Value.slice AA vs.length cc).ownBlock ≠ some q ∧ q ≠ X.heap.size + 1 := fun q hq => ⟨fun h => by have := (World.ownsRow.lt t6.row q h).1; omega, by omega⟩
        have hq : ∀ q, q < X.heap.size → Zf.heap[q]? = Z.heap[q]? := fun q hq => f2.block q (by omega) (hF q hq)
        have hzf := f2.size
        refine ⟨f1, ⟨hf1.keep hgZ (f2.mono fun q hq => hF q (by omega)), f2.mono fun q hs => ⟨fun h => t6.off q h hs, by have := (t1 q hs).1; omega⟩⟩, fun q hs => ⟨(t1 q hs).1, by have := (t1 q hs).2; omega⟩, by omega, t3.keep (B := X.heap.size) hq (by omega) (by omega), ⟨f2.os.trans t4.os, f2.tape.trans t4.tape, f2.output.trans t4.output, Nat.le_trans t4.size hzf, fun q hq2 => (hq q (by omega)).trans (t4.block q hq2)⟩, (hq R hRX).trans t5, v', vs', ?_⟩
        rw [List.map_append]
        exact f3)
      -- the four orders of the region
      gi_wp2_with fail
      refine wpIn_region_any (by kernel_rfl) ?_
      change wpAnyIn _ _ _ _ _ _ _ _ _ (World.drew _)
      refine wpAnyIn_ready (rs := [0, 1]) (by kernel_rfl) (by simp) ?_
      refine AllReadyIn.cons rfl (fun K hK => ?_) (AllReadyIn.cons rfl (fun K hK => ?_) AllReadyIn.nil)
      · go_simp
        refine hK _ _ ?_
        clear hK K
        refine wpAnyIn_ready (rs := [1]) (by kernel_rfl) (by simp) ?_
        refine AllReadyIn.cons rfl (fun K hK => ?_) AllReadyIn.nil
        go_simp
        refine hK _ _ ?_
        clear hK K
        refine wpAnyIn_ready (rs := [2]) (by kernel_rfl) (by simp) ?_
        refine AllReadyIn.cons rfl (fun K hK => ?_) AllReadyIn.nil
        go_simp
        gi_wp2_with fail
        refine ⟨trivial, (CallsIn.inRound lr (callsIn_wide.2 HCL.out)).mono ?_⟩
        rintro e Z1 ⟨v1, rfl, ho1, hb1⟩
        obtain ⟨A1, c1, rfl, _⟩ := ho1.rd
        have hb1' : Below Z.heap.size Z Z1 := ⟨hb1.os, hb1.tape, hb1.output, hb1.size, hb1.block⟩
        have bx1 : Boxed Z1 (X.heap.size + 1) 37 (.slice AA vs.length cc) := (hb1'.block _ t6.box.lt).trans t6.box
        have kb1 := bx1.cell
        have kb2 := (bx1.alloc (.cells #[.slice A1 (nI x).length c1] 25)).cell
        refine hK _ _ ?_
        clear hK K
        refine wpAnyIn_ready (rs := [3]) (by kernel_rfl) (by simp) ?_
        refine AllReadyIn.cons rfl (fun K hK => ?_) AllReadyIn.nil
        go_simp
        refine hK _ _ ?_
        clear hK K
        refine wpAnyIn_ready (rs := [4]) (by kernel_rfl) (by simp) ?_
        refine AllReadyIn.cons rfl (fun K hK => ?_) AllReadyIn.nil
        obtain ⟨v2, w2, hrun, hrow, _, hgr, hmv⟩ := HAPP.out Z1 hb1 (.slice A1 (nI x).length c1) rfl
        obtain ⟨A2, c2, rfl, _⟩ := Rds.ofOwn hrow
        refine stepInApp _ rfl (.tmp 38) (.tmp 41) 37 rfl rfl rfl hrun ?_
        refine hK _ _ ?_
        clear hK K
        obtain ⟨k1, k2, k3⟩ := keepF Z1 w2 _ _ hb1' ho1 hrow hgr hmv
        refine wpAnyIn_ready (rs := [5]) (by kernel_rfl) (by simp) ?_
        refine AllReadyIn.cons rfl (fun K hK => ?_) AllReadyIn.nil
        refine stepInSto _ rfl rfl (.tmp 9) (.tmp 42) rfl rfl rfl k1 k2 ?_
        refine hK _ _ ?_
        clear hK K
        refine wpAnyIn_done (by kernel_rfl) ?_ _
        exact FIN.out _ _ _ k3
      · go_simp
        refine hK _ _ ?_
        clear hK K
        refine wpAnyIn_ready (rs := [0, 2]) (by kernel_rfl) (by simp) ?_
        refine AllReadyIn.cons rfl (fun K hK => ?_) (AllReadyIn.cons rfl (fun K hK => ?_) AllReadyIn.nil)
        · go_simp
          refine hK _ _ ?_
          clear hK K
          refine wpAnyIn_ready (rs := [2]) (by kernel_rfl) (by simp) ?_
          refine AllReadyIn.cons rfl (fun K hK => ?_) AllReadyIn.nil
          go_simp
          gi_wp2_with fail
          refine ⟨trivial, (CallsIn.inRound lr (callsIn_wide.2 HCL.out)).mono ?_⟩
          rintro e Z1 ⟨v1, rfl, ho1, hb1⟩
          obtain ⟨A1, c1, rfl, _⟩ := ho1.rd
          have hb1' : Below Z.heap.size Z Z1 := ⟨hb1.os, hb1.tape, hb1.output, hb1.size, hb1.block⟩
          have bx1 : Boxed Z1 (X.heap.size + 1) 37 (.slice AA vs.length cc) := (hb1'.block _ t6.box.lt).trans t6.box
          have kb1 := bx1.cell
          have kb2 := (bx1.alloc (.cells #[.slice A1 (nI x).length c1] 25)).cell
          refine hK _ _ ?_
          clear hK K
          refine wpAnyIn_ready (rs := [3]) (by kernel_rfl) (by simp) ?_
          refine AllReadyIn.cons rfl (fun K hK => ?_) AllReadyIn.nil
          go_simp
          refine hK _ _ ?_
          clear hK K
          refine wpAnyIn_ready (rs := [4]) (by kernel_rfl) (by simp) ?_
          refine AllReadyIn.cons rfl (fun K hK => ?_) AllReadyIn.nil
          obtain ⟨v2, w2, hrun, hrow, _, hgr, hmv⟩ := HAPP.out Z1 hb1 (.slice A1 (nI x).length c1) rfl
          obtain ⟨A2, c2, rfl, _⟩ := Rds.ofOwn hrow
          refine stepInApp _ rfl (.tmp 38) (.tmp 41) 37 rfl rfl rfl hrun ?_
          refine hK _ _ ?_
          clear hK K
          obtain ⟨k1, k2, k3⟩ := keepF Z1 w2 _ _ hb1' ho1 hrow hgr hmv
          refine wpAnyIn_ready (rs := [5]) (by kernel_rfl) (by simp) ?_
          refine AllReadyIn.cons rfl (fun K hK => ?_) AllReadyIn.nil
          refine stepInSto _ rfl rfl (.tmp 9) (.tmp 42) rfl rfl rfl k1 k2 ?_
          refine hK _ _ ?_
          clear hK K
          refine wpAnyIn_done (by kernel_rfl) ?_ _
          exact FIN.out _ _ _ k3
        · go_simp
          gi_wp2_with fail
          refine ⟨trivial, (CallsIn.inRound lr (callsIn_wide.2 HCL.out)).mono ?_⟩
          rintro e Z1 ⟨v1, rfl, ho1, hb1⟩
          obtain ⟨A1, c1, rfl, _⟩ := ho1.rd
          have hb1' : Below Z.heap.size Z Z1 := ⟨hb1.os, hb1.tape, hb1.output, hb1.size, hb1.block⟩
          have bx1 : Boxed Z1 (X.heap.size + 1) 37 (.slice AA vs.length cc) := (hb1'.block _ t6.box.lt).trans t6.box
          have kb1 := bx1.cell
          have kb2 := (bx1.alloc (.cells #[.slice A1 (nI x).length c1] 25)).cell
          refine hK _ _ ?_
          clear hK K
          refine wpAnyIn_ready (rs := [0, 3]) (by kernel_rfl) (by simp) ?_
          refine AllReadyIn.cons rfl (fun K hK => ?_) (AllReadyIn.cons rfl (fun K hK => ?_) AllReadyIn.nil)
          · go_simp
            refine hK _ _ ?_
            clear hK K
            refine wpAnyIn_ready (rs := [3]) (by kernel_rfl) (by simp) ?_
            refine AllReadyIn.cons rfl (fun K hK => ?_) AllReadyIn.nil
            go_simp
            refine hK _ _ ?_
            clear hK K
            refine wpAnyIn_ready (rs := [4]) (by kernel_rfl) (by simp) ?_
            refine AllReadyIn.cons rfl (fun K hK => ?_) AllReadyIn.nil
            obtain ⟨v2, w2, hrun, hrow, _, hgr, hmv⟩ := HAPP.out Z1 hb1 (.slice A1 (nI x).length c1) rfl
            obtain ⟨A2, c2, rfl, _⟩ := Rds.ofOwn hrow
            refine stepInApp _ rfl (.tmp 38) (.tmp 41) 37 rfl rfl rfl hrun ?_
            refine hK _ _ ?_
            clear hK K
            obtain ⟨k1, k2, k3⟩ := keepF Z1 w2 _ _ hb1' ho1 hrow hgr hmv
            refine wpAnyIn_ready (rs := [5]) (by kernel_rfl) (by simp) ?_
            refine AllReadyIn.cons rfl (fun K hK => ?_) AllReadyIn.nil
            refine stepInSto _ rfl rfl (.tmp 9) (.tmp 42) rfl rfl rfl k1 k2 ?_
            refine hK _ _ ?_
            clear hK K
            refine wpAnyIn_done (by kernel_rfl) ?_ _
            exact FIN.out _ _ _ k3
          · go_simp
            refine hK _ _ ?_
            clear hK K
            refine wpAnyIn_ready (rs := [0]) (by kernel_rfl) (by simp) ?_
            refine AllReadyIn.cons rfl (fun K hK => ?_) AllReadyIn.nil
            go_simp
            refine hK _ _ ?_
            clear hK K
            refine wpAnyIn_ready (rs := [4]) (by kernel_rfl) (by simp) ?_
            refine AllReadyIn.cons rfl (fun K hK => ?_) AllReadyIn.nil
            obtain ⟨v2, w2, hrun, hrow, _, hgr, hmv⟩ := HAPP.out Z1 hb1 (.slice A1 (nI x).length c1) rfl
            obtain ⟨A2, c2, rfl, _⟩ := Rds.ofOwn hrow
            refine stepInApp _ rfl (.tmp 38) (.tmp 41) 37 rfl rfl rfl hrun ?_
            refine hK _ _ ?_
            clear hK K
            obtain ⟨k1, k2, k3⟩ := keepF Z1 w2 _ _ hb1' ho1 hrow hgr hmv
            refine wpAnyIn_ready (rs := [5]) (by kernel_rfl) (by simp) ?_
            refine AllReadyIn.cons rfl (fun K hK => ?_) AllReadyIn.nil
            refine stepInSto _ rfl rfl (.tmp 9) (.tmp 42) rfl rfl rfl k1 k2 ?_
            refine hK _ _ ?_
            clear hK K
            refine wpAnyIn_done (by kernel_rfl) ?_ _
            exact FIN.out _ _ _ k3
  case stop => exact fun _ _ _ _ _ _ h _ _ => h.elim
  case body =>
    rintro lr pre x post S args X hL ⟨s1, s2, s3, s4, s5⟩ hg hA hlow
    obtain ⟨k, hk⟩ : ∃ k, pre.length = k := ⟨_, rfl⟩
    rw [hk] at s3 s5
    obtain ⟨k1, hk1⟩ : ∃ k1, k + 1 = k1 := ⟨_, rfl⟩
    have hk2 : (pre ++ [x]).length = k1 := by rw [List.length_append, hk, ← hk1]; rfl
    have hz3 : w1.heap.size < V.heap.size := by omega
    have hw : IntKind.i64.wrap ((k : Int) + 1) = (k1 : Int) := by rw [IntKind.wrap_i64]; omega
    obtain ⟨Y, hY⟩ : ∃ Y, X.setCell ⟨w1.heap.size, 0, none⟩ (.int .i64 (k1 : Int)) = Y := ⟨_, rfl⟩
    have cY : Chg X Y (fun q => q ≠ w1.heap.size) := by rw [← hY]; exact Chg.setCell X ⟨w1.heap.size, 0, none⟩ _
    have sY : CntSt w.heap.size w1.heap.size lim k1 (.slice none 0 0) 0 Y := by rw [← hY]; exact ⟨s3.hlim.other (by omega) _, s3.res.other (by omega) _, s3.err.other (by omega) _, s3.found.set _⟩
    have kY : KeepsFrom V.heap.size X Y := by rw [← hY]; exact (KeepsOthers.setCell X _ _).from _
    have gY : FixG N (hasP l) (some ⟨g, 0, none⟩) N Y := hf1.keep hg (cY.mono fun q hq => by omega)
    have bY : Below w.heap.size w Y := ⟨cY.os.trans s4.os, cY.tape.trans s4.tape, cY.output.trans s4.output, Nat.le_trans s4.size cY.size, fun q hq => (cY.block q (by have := s4.size; omega) (by omega)).trans (s4.block q hq)⟩
    have kf := s3.found.cell
    have ff := s3.found.frozen
    have kf2 := sY.found.cell
    have kl2 := sY.hlim.cell
    have kr := sY.res.cell
    have fr := sY.res.frozen
    have h10 : (k1 : Int) ≤ lim := by
      have h9 := congrArg List.length hL
      rw [List.length_append, List.length_cons, hk] at h9
      omega
    have hd : decide ((k1 : Int) > lim) = false := by simpa using h10
    have HFIN := Lib.hid (And.intro kY (And.intro sY (And.intro gY (And.intro bY cY))))
    have hzY := cY.size
    clear kY sY gY bY cY s3 s4
    gi_wp2
    refine ⟨HFIN.out.1, ⟨HFIN.out.2.2.1, HFIN.out.2.2.2.2.mono fun q hq => by have := s1 q hq; omega⟩, s1, by omega, ?_, HFIN.out.2.2.2.1, ?_⟩
    · rw [hk2]; exact HFIN.out.2.1
    · rw [hk2]; omega
end Go.Proofs.YtjioiaeiggjneaaDoor
