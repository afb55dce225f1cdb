/-
  previous: for each instruction those that come before. Words, and the walk.
-/
import Derived.Test.YtpkagpobobmnfaaGreatDoorCCb
import Derived.Test.YtpkagpobobmnfaaGreatDoorCAr
import Derived.Test.YtpkagpobobmnfaaGreatDoorCCf
import Derived.BigRegionIn
namespace Go.Proofs.YtpkagpobobmnfaaGreatDoor
open Go Go.RowKit Go.Shelf
attribute [local go_sem] Oper.semAt_some

theorem makeL9 (N : Nat) (hN : N ≤ 1048576) (w : World) : (Instr.makeSlice 57 (.int .i64 N) (.int .i64 N)).run Tryz.prog w = .ok (.slice (some ⟨w.heap.size, 0, none⟩) N N) (w.alloc (.cells (madeCells #[.slice none 0 0] N) 33)) := by
  obtain ⟨i, hi, hz, hs, hb⟩ := info_parts infoSl
  have h := run_make (P := Tryz.prog) w 57 33 i (.slice none 0 0) Tryz.underlying57 hi hz .i64 .i64 N N (by omega) (by omega) (by rw [hb]; omega) (by omega)
  rw [hs] at h
  simpa [Value.cells] using h
/-- The rows when the instructions below k have been looked at, and of k's successors those of ps. -/
def pvM (C : List I8) (k : Nat) (ps : List Nat) (x : Nat) : List Int := (pvK C x k ++ ((ps.filter fun y => decide (y = x)).map fun _ => k)).map Int.ofNat
theorem pvM0 {C : List I8} {k : Nat} : pvM C k [] = fun x => (pvK C x k).map Int.ofNat := by
  funext x
  unfold pvM
  simp
theorem pvMEnd {C : List I8} {k : Nat} : pvM C k (sc C k) = pvM C (k + 1) [] := by
  rw [pvM0]
  funext x
  unfold pvM
  rw [pvK]
theorem pvMS {C : List I8} {k : Nat} {ps : List Nat} {y : Nat} (x : Nat) : pvM C k (ps ++ [y]) x = if x = y then pvM C k ps y ++ [(k : Int)] else pvM C k ps x := by
  unfold pvM
  rw [List.filter_append, List.filter_cons, List.filter_nil]
  by_cases e : x = y
  · subst e
    rw [if_pos rfl, decide_eq_true rfl, if_pos rfl]
    simp
  · rw [if_neg e, decide_eq_false (fun h => e h.symm), if_neg (by simp)]
    simp
theorem pvMLen {C : List I8} {k : Nat} {ps : List Nat} (hp : ps.length ≤ 2) {x : Nat} : (pvM C k ps x).length ≤ 2 * k + 2 := by
  unfold pvM
  rw [List.length_map, List.length_append, List.length_map]
  have h1 := pvKLen (C := C) (x := x) k
  have h2 : (ps.filter fun y => decide (y = x)).length ≤ ps.length := List.length_filter_le _ _
  omega
/-- The rows' blocks lie apart from those between b and e. -/
def RwApart (w : World) (n b e : Nat) (X : World) : Prop := ∀ i v q, i < n → X.cell? ⟨w.heap.size, i, none⟩ = some v → v.ownBlock = some q → q < b ∨ e ≤ q
theorem RwSt.push2 {w X : World} {n : Nat} {C : Nat → List Int} (h : RwSt w n C X) {i : Nat} (hi : i < n) (hl : (C i).length ≤ 1000) (y : Int) (ty : TypeId) {C' : Nat → List Int} (hC : ∀ j, C' j = if j = i then C i ++ [y] else C j) :
    ∃ A0 c0 A c w2, X.cell? ⟨w.heap.size, i, none⟩ = some (.slice A0 (C i).length c0) ∧ (C i).length ≤ c0 ∧ (Builtin.append_ #[33, 33] ty #[.slice A0 (C i).length c0, .slice (some ⟨X.heap.size, 0, none⟩) 1 1]).run Tryz.prog (X.alloc (.cells #[.int .i64 y] 3)) = .ok (.slice A ((C i).length + 1) c) w2 ∧
      w2.cell? ⟨w.heap.size, i, none⟩ = some (.slice A0 (C i).length c0) ∧ w2.frozen? ⟨w.heap.size, i, none⟩ = false ∧ RwSt w n C' (w2.setCell ⟨w.heap.size, i, none⟩ (.slice A ((C i).length + 1) c)) ∧ KeepsOthers X (w2.setCell ⟨w.heap.size, i, none⟩ (.slice A ((C i).length + 1) c)) ∧
      (∀ q o, q < X.heap.size → w.heap.size ≠ q → (∀ A' c' m, (Value.slice A' m c') = .slice A0 (C i).length c0 → (Value.slice A' m c').ownBlock ≠ some q) → X.heap[q]? = some o → (w2.setCell ⟨w.heap.size, i, none⟩ (.slice A ((C i).length + 1) c)).heap[q]? = some o) ∧
      (∀ q, (Value.slice A ((C i).length + 1) c).ownBlock = some q → (Value.slice A0 (C i).length c0).ownBlock = some q ∨ X.heap.size ≤ q) ∧ OwnI X w.heap.size (.slice A0 (C i).length c0) (C i) ∧ (∀ j, w2.cell? ⟨w.heap.size, j, none⟩ = X.cell? ⟨w.heap.size, j, none⟩) := by
  obtain ⟨⟨vs, h1, h2, h3⟩, hb, hg⟩ := h
  obtain ⟨v, hv, ho⟩ := h3.1 i hi
  obtain ⟨A0, c0, rfl, hr0, _⟩ := ho.rd
  have bX := belowAlloc X (.cells #[.int .i64 y] 3)
  have hoA := ho.alloc (.cells #[.int .i64 y] 3)
  obtain ⟨i0, hi0, hz0, hz1, hz2⟩ := info_parts infoInt
  obtain ⟨v', w2, hrun, k1, _, hgr, hmv⟩ := runApp (P := Tryz.prog) (w := X.alloc (.cells #[.int .i64 y] 3)) w.heap.size 33 ty 3 i0 _ 8 Tryz.underlying33 hi0 hz0 hz1 hz2 rfl _ (C i).length (iv (C i)) hoA (some ⟨X.heap.size, 0, none⟩) 1 1 (iv [y]) rfl (litI9 X y 3) (ivOne _) (by omega) (by unfold maxLen; omega) (by have := bX.size; omega)
  have ho' : OwnI w2 w.heap.size v' (C i ++ [y]) := by
    unfold OwnI iv
    rw [List.length_append, List.map_append]
    exact k1
  obtain ⟨A, c, e, _, _⟩ := ho'.rd
  rw [List.length_append] at e
  have e : v' = .slice A ((C i).length + 1) c := e
  subst e
  obtain ⟨hR, hO⟩ := rowsPut h3 h2 h1 hi hv bX hgr hmv ho' C' hC
  have hc1 : Chg (X.alloc (.cells #[.int .i64 y] 3)) w2 (fun q => (Value.slice A0 (C i).length c0).ownBlock ≠ some q) := Chg.ofGrown hgr fun _ h => h
  have hvg : (Value.slice A0 (C i).length c0).ownBlock ≠ some w.heap.size := fun e => ownApart ho h2 (by decide) e rfl
  have hO2 : OwnL w2 w.heap.size (.slice (some ⟨w.heap.size, 0, none⟩) n n) vs := ownChg (h2.alloc _) hc1 fun q hq e => by
    have : w.heap.size = q := by simpa [Value.ownBlock] using hq
    subst this
    exact hvg e
  have hc2 : Chg w2 (w2.setCell ⟨w.heap.size, i, none⟩ (.slice A ((C i).length + 1) c)) (fun q => q ≠ w.heap.size) := Chg.setCell w2 ⟨w.heap.size, i, none⟩ _
  have hsz : X.heap.size + 1 ≤ w2.heap.size := by have := hc1.size; simpa using this
  have hown : ∀ q, (Value.slice A0 (C i).length c0).ownBlock = some q → w.heap.size ≤ q := fun q hq => (World.ownsRow.lt ho q hq).1
  refine ⟨A0, c0, A, c, w2, ?_, hr0.le, hrun, ?_, ?_, ⟨⟨vs.set i _, by rw [List.length_set, h1], hO, hR⟩, ?_, ?_⟩, ?_, ?_, ?_, ho, fun j => World.cell?_of_block ((hc1.block w.heap.size (by have := bX.size; omega) hvg).trans (bX.block w.heap.size hg))⟩
  · have h := h2
    unfold OwnL at h
    rw [h1] at h
    rw [World.ownsRow.cellAt h i (by omega)]
    exact hv
  · have h := hO2
    unfold OwnL at h
    rw [h1] at h
    rw [World.ownsRow.cellAt h i (by omega)]
    exact hv
  · have h := hO2
    unfold OwnL at h
    rw [h1] at h
    exact World.ownsRow.frozenAt h i
  · refine ⟨hc2.os.trans (hc1.os.trans (bX.os.trans hb.os)), hc2.tape.trans (hc1.tape.trans (bX.tape.trans hb.tape)), hc2.output.trans (hc1.output.trans (bX.output.trans hb.output)), by have := hc2.size; have := hb.size; omega, fun q hq => ?_⟩
    exact (hc2.block q (by omega) (by omega)).trans ((hc1.block q (by have := bX.size; omega) fun e => by have := hown q e; omega).trans ((bX.block q (by omega)).trans (hb.block q hq)))
  · have := hc2.size; omega
  · refine ⟨by have := hc2.size; omega, fun q o ho2 hoc => ?_⟩
    have hql := (Array.getElem?_eq_some_iff.1 ho2).1
    have hq1 : (Value.slice A0 (C i).length c0).ownBlock ≠ some q := fun e => by
      obtain ⟨o2, e2, hc⟩ := ownCells9 ho e
      rw [ho2] at e2
      injection e2 with e2
      subst e2
      rw [hoc] at hc; cases hc
    have hq2 : q ≠ w.heap.size := fun e => by
      obtain ⟨o2, e2, hc⟩ := ownCells9 h2 (g := w.heap.size) rfl
      subst e
      rw [ho2] at e2
      injection e2 with e2
      subst e2
      rw [hoc] at hc; cases hc
    exact (hc2.block q (by omega) hq2).trans ((hc1.block q (by have := bX.size; omega) hq1).trans ((bX.block q hql).trans ho2))
  · intro q o hql hne hnv ho2
    exact (hc2.block q (by omega) (Ne.symm hne)).trans ((hc1.block q (by have := bX.size; omega) (hnv _ _ _ rfl)).trans ((bX.block q hql).trans ho2))
  · intro q hq
    rcases movedBlock hmv with e | e
    · exact .inl (e ▸ hq)
    · rw [e] at hq
      injection hq with hq
      right
      rw [← hq]
      simp
/-- append's run as a step inside a fence. -/
theorem stepInApp9 {F : Fence} {n : Nat} {P : Program} (w : World) {ops : Array Oper} {o : Oper} {a : Act} {K : Act → World → Prop} {Q : Exit → Act → World → Prop} {E : Prop} (hgd : o.guard = none) (s x : Operand) (t : TypeId)
    (ho : o.op = .call { callee := .builtin .append, args := #[s, x], argTypes := #[t, t] }) {v' vx v2 : Value} {w2 : World} (hs : a.eval s = v') (hx : a.eval x = vx)
    (hrun : (Builtin.append_ #[t, t] o.type #[v', vx]).run P w = .ok v2 w2) (h : K (a.put o.dst v2) w2) : if Region.wanted o (yielded ops a.tmps) = true then Oper.wpIn F n P o a w K Q else E := by
  have hw : Region.wanted o (yielded ops a.tmps) = true := by simp [Region.wanted, hgd]
  rw [if_pos hw]
  unfold Oper.wpIn
  refine ⟨?_, ?_⟩
  · simp [Oper.about, ho, resolve, Target.leads]
  · rw [Oper.semAt_plain F _ _ (by rw [ho]; intro c hc'; cases hc')]
    unfold execOp
    simp only [ho, resolve, invoke, builtin, Sem.run_bind, Sem.run_pure, Result.andThen_ok, List.map_toArray, List.map_cons, List.map_nil, hs, hx, hrun]
    exact h
/-- A store of a slice as a step inside a fence. -/
theorem stepInSto9 {F : Fence} {n : Nat} (w : World) {ops : Array Oper} {o : Oper} {a : Act} {K : Act → World → Prop} {Q : Exit → Act → World → Prop} {E : Prop} (hgd : o.guard = none) (hd : o.dst = none) (s x : Operand)
    (ho : o.op = .store 33 s x) {b i : Nat} {A : Option Addr} {m c : Nat} {v0 : Value} (hs : a.eval s = .pointer (some ⟨b, i, none⟩)) (hx : a.eval x = .slice A m c)
    (hc : w.cell? ⟨b, i, none⟩ = some v0) (hf : w.frozen? ⟨b, i, none⟩ = false) (h : K a (w.setCell ⟨b, i, none⟩ (.slice A m c))) : if Region.wanted o (yielded ops a.tmps) = true then Oper.wpIn F n Tryz.prog o a w K Q else E := by
  have hw : Region.wanted o (yielded ops a.tmps) = true := by simp [Region.wanted, hgd]
  rw [if_pos hw]
  unfold Oper.wpIn
  refine ⟨?_, ?_⟩
  · simp [Oper.about, ho]
  · rw [Oper.semAt_plain F _ _ (by rw [ho]; intro c hc'; cases hc')]
    unfold execOp
    simp only [ho, hs, hx]
    go_simp
    exact h
theorem mergeAny {F : Fence} {n : Nat} {P : Program} {md : Region.Mode} {ops : Array Oper} {Q : Exit → Act → World → Prop} {f : Nat} {l : Array Bool} {a : Act} {w : World} (h : ∀ G : Nat → Array Bool → Act → World → Prop, (∀ f l a w, G f l a w ↔ wpAnyIn F n P md ops Q f l a w) → G f l a w) : wpAnyIn F n P md ops Q f l a w :=
  h (wpAnyIn F n P md ops Q) fun _ _ _ _ => Iff.rfl
theorem apartTy9 {X : World} {base q : Nat} {v u : Value} {l : List Int} {T : TypeId} (h : OwnI X base v l) (hb : Boxed X q T u) (hT : T ≠ 3) : v.ownBlock ≠ some q := fun e => by
  rcases h.2 with ⟨rfl, _⟩ | ⟨g, cap, cur, rfl, _, hg, _⟩
  · simp [Value.ownBlock] at e
  · have e' : g = q := by simpa [Value.ownBlock] using e
    subst e'
    have hb : X.heap[g]? = some (Obj.cells #[u] T (0, 0)) := hb
    rw [hg] at hb
    injection hb with hb
    injection hb with _ hb
    exact hT hb.symm
/-- What lies in memory while the successors of k are visited. -/
structure PvIn (C : List I8) (w : World) (n1 k b n : Nat) (A : Option Addr) (c : Nat) (Ds ps : List Nat) (X : World) : Prop where
  rw : RwSt w n1 (pvM C k ps) X
  gb : Boxed X (w.heap.size + 1) 57 (.slice (some ⟨w.heap.size, 0, none⟩) n1 n1)
  ka : Boxed X b 3 (.int .i64 (k : Int))
  x1 : Boxed X (b + 1) 60 (.slice A n c)
  x2 : Boxed X (b + 2) 3 (.int .i64 (k : Int))
  ap : RwApart w n1 b (b + 3) X
  op : OpenR Ds X
  ln : ps.length ≤ 2
theorem grownNone9 {X Y : World} (h : Below X.heap.size X Y) : X.grownBy Y none := ⟨h.os, h.tape, h.output, h.size, fun k hk _ => h.block k hk⟩
theorem PvIn.own {C : List I8} {w : World} {n1 k b n : Nat} {A : Option Addr} {c : Nat} {Ds ps : List Nat} {X X' : World} (h : PvIn C w n1 k b n A c Ds ps X) {row : Option Nat} (hgr : X.grownBy X' row) (hr : ∀ q, row = some q → b + 3 ≤ q ∧ (∃ o, X.heap[q]? = some o ∧ o.isCells = false)) (hw : w.heap.size + 1 < b) (hD : ∀ D ∈ Ds, D < b) : PvIn C w n1 k b n A c Ds ps X' := by
  have hc : Chg X X' (fun q => row ≠ some q) := Chg.ofGrown hgr fun _ h => h
  have hlo : ∀ q, q < b + 3 → row ≠ some q := fun q hq e => by have := (hr q e).1; omega
  refine ⟨h.rw.keep hc (fun q o ho hoc e => ?_) (fun q hq => hlo q (by omega)), (hc.block _ h.gb.lt (hlo _ (by omega))).trans h.gb, (hc.block _ h.ka.lt (hlo _ (by omega))).trans h.ka, (hc.block _ h.x1.lt (hlo _ (by omega))).trans h.x1, (hc.block _ h.x2.lt (hlo _ (by omega))).trans h.x2, fun i v q hi hv hq => h.ap i v q hi ?_ hq, h.op.chg hc fun D hDm => hlo D (by have := hD D hDm; omega), h.ln⟩
  · obtain ⟨_, o2, ho2, hn⟩ := hr q e
    rw [ho] at ho2
    injection ho2 with ho2
    subst ho2
    rw [hoc] at hn; cases hn
  · rw [← hv]
    exact (World.cell?_of_block (hc.block w.heap.size (by have := h.rw.gl; omega) (hlo _ (by omega)))).symm
set_option maxRecDepth 100000 in
set_option maxHeartbeats 40000000 in
set_option linter.unusedSimpArgs false in
theorem iPrev (C : List I8) (hok : CfOk C) (n : Nat) (hn : C.length = n) (A : Option Addr) (c : Nat) (w : World) (hr : RdE 8 EI w A c C) :
    Calls Tryz.prog 54 #[.slice A n c] w (GivesF9 (fun x => (pv C x).map Int.ofNat) (n + 1) w) := by
  have h64 := hok.len
  have hle := hr.le
  have hmx := hr.max
  rw [hn] at hle h64
  unfold maxLen at hmx
  obtain ⟨n1, hn1⟩ : ∃ n1, n + 1 = n1 := ⟨_, rfl⟩
  have hwn : IntKind.i64.wrap ((n : Int) + 1) = (n1 : Int) := by rw [IntKind.wrap_i64]; omega
  rw [hn1]
  have HNX := Lib.hid (fun k (hk : k < n) X (hX : Below w.heap.size w X) => iNextK C hok n hn k hk A c X (hr.below stabI hX))
  have hmk := makeL9 n1 (by omega) w
  have HOK := Lib.hid hok
  have HN := Lib.hid hn
  have HCE := Lib.hid (fun k y (hy : y ∈ sc C k) => scLe hok hy)
  clear hr hok hn
  refine (callsIn_wide (n := 8)).1 ?_
  refine callsIn_of_wp_marks Tryz.func54 rfl trivial ?_ rfl
  simp only [Tryz.ntmps54, List.size_toArray, List.length_cons, List.length_nil, Nat.reduceAdd, Nat.reduceSub, Array.replicate_succ, Array.replicate_zero, List.push_toArray, List.append_toArray, List.nil_append, List.cons_append]
  gi_wp2_with fail
  obtain ⟨V, hV⟩ : ∃ V, ((w.alloc (.cells (madeCells #[.slice none 0 0] n1) 33)).alloc (.cells #[.slice (some ⟨w.heap.size, 0, none⟩) n1 n1] 57)) = V := ⟨_, rfl⟩
  have hbV : Below w.heap.size w V := by rw [← hV]; exact belowThen (belowAlloc w _) (belowAlloc _ _)
  have HG0 : Hid (Boxed V (w.heap.size + 1) 57 (.slice (some ⟨w.heap.size, 0, none⟩) n1 n1)) := by
    rw [← hV]
    have h := Boxed.new (w.alloc (.cells (madeCells #[.slice none 0 0] n1) 33)) 57 (.slice (some ⟨w.heap.size, 0, none⟩) n1 n1)
    rw [World.size_alloc] at h
    exact Lib.hid h
  have HS0 : Hid (RwSt w n1 (pvM C 0 []) V) := by
    have hown : OwnL V w.heap.size (.slice (some ⟨w.heap.size, 0, none⟩) n1 n1) (List.replicate n1 (.slice none 0 0)) := by
      rw [← hV]
      have h : OwnL (w.alloc (.cells (madeCells #[.slice none 0 0] n1) 33)) w.heap.size (.slice (some ⟨w.heap.size, 0, none⟩) n1 n1) (List.replicate n1 (.slice none 0 0)) := by
        unfold OwnL
        rw [List.length_replicate]
        exact ⟨by simp, .inr ⟨w.heap.size, n1, madeCells #[.slice none 0 0] n1, rfl, Nat.le_refl _, heap_alloc_new w _, Nat.le_refl _, by unfold maxLen; omega, by rw [← Array.length_toList, toList_madeCells_one]; simp, by rw [toList_madeCells_one]; simp⟩⟩
      exact ownChg h (Chg.ofBelow (belowAlloc _ _) fun _ => True) fun _ _ => trivial
    refine Lib.hid ⟨⟨List.replicate n1 (.slice none 0 0), by simp, hown, ⟨fun i hi => ⟨.slice none 0 0, by rw [List.getElem?_replicate, if_pos hi], ?_⟩, fun i j u v q hi _ _ hu _ hq => ?_⟩⟩, hbV, by rw [← hV]; simp; omega⟩
    · have : pvM C 0 [] i = [] := by unfold pvM; simp [pvK]
      rw [this]
      exact OwnI.nil _ _
    · rw [List.getElem?_replicate, if_pos hi] at hu
      injection hu with hu
      subst hu
      simp [Value.ownBlock] at hq
  have HVE := Lib.hid hV
  clear hmk hbV hV
  rw [HVE.out]
  obtain ⟨INV, hINV⟩ : ∃ INV : Act → World → Prop, INV = (fun a' w' => ∃ (u : Nat → Value) (Ds : List Nat) (k : Nat), a' = { tmps := #[.slice A n c, undef, .slice none 0 0, .pointer (some ⟨w.heap.size + 1, 0, none⟩), u 4, u 5, .slice A n c, .int .i64 (n : Int), .int .i64 (n1 : Int), .slice (some ⟨w.heap.size, 0, none⟩) n1 n1, .slice A n c, .int .i64 (n : Int), .int .i64 (k : Int), u 13, u 14, u 15, u 16, u 17, u 18, u 19, u 20, u 21, u 22, u 23, u 24, u 25, u 26, u 27, u 28, u 29, undef], defers := Ds.map markR } ∧ Hid (RwSt w n1 (pvM C k []) w') ∧ Hid (Boxed w' (w.heap.size + 1) 57 (.slice (some ⟨w.heap.size, 0, none⟩) n1 n1)) ∧ Hid (OpenR Ds w' ∧ Ds.Nodup ∧ ∀ D ∈ Ds, w.heap.size + 2 ≤ D) ∧ k ≤ n) := ⟨_, rfl⟩
  obtain ⟨MU, hMU⟩ : ∃ MU : Act → World → Nat, MU = (fun a' _ => n - (intOf (a'.tmps.getD 12 undef)).toNat) := ⟨_, rfl⟩
  have HINV := Lib.hid hINV
  have HMU := Lib.hid hMU
  clear hINV hMU
  refine wpIn_loop INV MU ?_ ?_
  · rw [HINV.out]
    exact ⟨fun _ => undef, [], 0, rfl, HS0, HG0, Lib.hid ⟨(fun _ h => by cases h), List.nodup_nil, (fun _ h => by cases h)⟩, Nat.zero_le _⟩
  intro a' wl hi
  rw [HINV.out] at hi
  obtain ⟨u, Ds, k, rfl, HS, HG, HO, hk⟩ := hi
  clear HS0 HG0
  by_cases hlt : k < n
  · have hk0 : (0 : Int) ≤ k := by omega
    have hk1 : (k : Int) < n := by omega
    obtain ⟨X1, hX1⟩ : ∃ X1, wl.alloc (.cells #[.int .i64 (k : Int)] 3) = X1 := ⟨_, rfl⟩
    have hb1 : Below wl.heap.size wl X1 := by rw [← hX1]; exact belowAlloc wl _
    have hka : Boxed X1 wl.heap.size 3 (.int .i64 (k : Int)) := by rw [← hX1]; exact Boxed.new wl _ _
    have hz1 : X1.heap.size = wl.heap.size + 1 := by rw [← hX1]; simp
    have kc := hka.cell
    have HC := Lib.hid (HNX.out k hlt X1 (belowThen HS.out.bel hb1))
    have HX1 := Lib.hid hX1
    have HB1 := Lib.hid hb1
    have HKA := Lib.hid hka
    have HZ1 := Lib.hid hz1
    clear hX1 hb1 hka hz1
    gi_wp2_with fail
    rw [HX1.out]
    refine ⟨trivial, (callsIn_wide.2 HC.out).mono ?_⟩
    rintro e Y ⟨rfl, hseq, hY⟩
    rw [HZ1.out] at hseq ⊢
    have HSQ := Lib.hid (hseq 7 (by omega))
    have hge := entNx1
    have hwz : w.heap.size + 1 < wl.heap.size := by have := HG.out.lt; have := HS.out.gl; omega
    have hbY : Below X1.heap.size X1 Y := by rw [hY]; exact belowThen (belowAlloc X1 _) (belowAlloc _ _)
    have HP0 : Hid (PvIn C w n1 k wl.heap.size n A c Ds [] Y) := by
      have hb2 := belowThen HB1.out hbY
      have hs := HS.out.below hb2
      refine Lib.hid ⟨hs, (hb2.block _ HG.out.lt).trans HG.out, (hbY.block _ HKA.out.lt).trans HKA.out, ?_, ?_, fun i v q hi hv hq => .inl ?_, HO.out.1.chg (Chg.ofBelow hb2 fun _ => True) fun _ _ => trivial, by simp⟩
      · rw [hY, ← HZ1.out]
        exact (Boxed.new X1 _ _).alloc _
      · have h := Boxed.new (X1.alloc (.cells #[.slice A n c] 60)) 3 (.int .i64 (k : Int))
        rw [World.size_alloc, HZ1.out] at h
        rw [hY]
        exact h
      · obtain ⟨⟨vs, e1, e2, e3⟩, _, _⟩ := HS.out
        obtain ⟨v', hv', ho'⟩ := e3.1 i hi
        have h := e2
        unfold OwnL at h
        rw [e1] at h
        have hcell := World.ownsRow.cellAt h i (by omega)
        have hlt2 : w.heap.size < wl.heap.size := by omega
        have hv2 := (World.cell?_of_block (a := ⟨w.heap.size, i, none⟩) (hb2.block w.heap.size hlt2)).symm.trans hv
        rw [hcell, hv'] at hv2
        injection hv2 with hv2
        subst hv2
        exact (World.ownsRow.lt ho' q hq).2
    have HDL := Lib.hid (fun D hD => HO.out.1.lt (D := D) hD)
    have hzY : Y.heap.size = wl.heap.size + 3 := by rw [hY]; simp [HZ1.out]
    have HZY := Lib.hid hzY
    have HYE := Lib.hid hY
    have HBY := Lib.hid hbY
    have hsl : (sc C k).length ≤ 2 := scLen
    clear hseq hbY hzY hY kc
    gi_wp2
    refine rangeClos (F := Fence.wide) (n := 8) rfl (by omega) (gf := 60) (lb := #[.pointer (some ⟨wl.heap.size + 1, 0, none⟩), .pointer (some ⟨wl.heap.size + 2, 0, none⟩)]) rfl trivial hge (encs := encN) (Kp := Keep2 (wl.heap.size + 1) (wl.heap.size + 2)) (L := sc C k) (w0 := Y) HSQ.out (fun h k => h.trans k) (fun W l o o' _ h hc _ => Keep2.put _ _ W l o o' h hc) (Below.refl _ _) (fun _ => rfl)
      (fun ps X => PvIn C w n1 k wl.heap.size n A c Ds ps X) (fun _ _ _ => False) ?hI (fun _ _ _ _ _ h => h.elim) HP0.out
      (fun _ y => { tmps := #[.slice A n c, undef, .slice none 0 0, .pointer (some ⟨w.heap.size + 1, 0, none⟩), .pointer (some ⟨wl.heap.size, 0, none⟩), .int .i64 (y : Int), .slice A n c, .int .i64 (n : Int), .int .i64 (n1 : Int), .slice (some ⟨w.heap.size, 0, none⟩) n1 n1, .slice A n c, .int .i64 (n : Int), .int .i64 (k : Int), .bool true, .int .i64 (k : Int), .slice A n c, .int .i64 (k : Int), .func (.func 60) #[] #[.pointer (some ⟨wl.heap.size + 1, 0, none⟩), .pointer (some ⟨wl.heap.size + 2, 0, none⟩)], .int .i64 (y : Int), u 19, u 20, u 21, u 22, u 23, u 24, u 25, u 26, u 27, u 28, u 29, undef], defers := [] }) (fun _ W => W) (fun _ W => World.grownBy.refl W none) (fun _ W => Keep2.refl _ _ W) ?assign ?body ?done (fun _ _ _ _ _ h _ => h.elim)
    case assign =>
      intro l y X K hK
      unfold encN
      gi_wp2
      exact hK
    case hI =>
      rintro ps X X' row h hgr hr
      exact h.own hgr (fun q e => ⟨by have := (hr q e).1; have := HZY.out; omega, by obtain ⟨_, o2, ho2, hn⟩ := hr q e; exact ⟨o2, ho2, hn⟩⟩) hwz HDL.out
    case body =>
      rintro l ps y rest X U hLL h hwl hlX _
      have hym : y ∈ sc C k := by rw [hLL]; simp
      have hyn := (HCE.out k y hym).2
      rw [HN.out] at hyn
      have hps : ps.length + 1 ≤ 2 := by
        have := congrArg List.length hLL
        rw [List.length_append, List.length_cons] at this
        omega
      obtain ⟨U1, hU1⟩ : ∃ U1, U.drew = U1 := ⟨_, rfl⟩
      have h1 : PvIn C w n1 k wl.heap.size n A c Ds ps U1 := by
        rw [← hU1]
        exact h.own (row := none) (grownNone9 (Below.refl _ U).drew) (fun _ e => by cases e) hwz HDL.out
      have hlen := pvMLen (C := C) (k := k) (ps := ps) (by omega) (x := y)
      obtain ⟨A0, c0, A2, c2, w2, hc5, hc0, hap, hc6, hf6, hs6, hk6, hfr, hmv, hor, htb⟩ := h1.rw.push2 (i := y) (by omega) (by omega) (k : Int) 33 (pvMS (C := C) (k := k) (ps := ps) (y := y))
      obtain ⟨m, hm⟩ : ∃ m, (pvM C k ps y).length = m := ⟨_, rfl⟩
      rw [hm] at hc5 hc0 hap hc6 hs6 hk6 hfr hmv hor hlen
      have t3 := h1.gb.cell
      have t4 := h1.ka.cell
      have hy0 : (0 : Int) ≤ y := by omega
      have hy1 : (y : Int) < n1 := by omega
      have hap0 : ∀ q, (Value.slice A0 m c0).ownBlock = some q → q < wl.heap.size ∨ wl.heap.size + 3 ≤ q := fun q hq => h1.ap y _ q (by omega) hc5 hq
      have hsz1 : wl.heap.size + 3 ≤ U1.heap.size := h1.x2.lt
      have hkp : ∀ q o, q < U1.heap.size → w.heap.size ≠ q → (Value.slice A0 m c0).ownBlock ≠ some q → U1.heap[q]? = some o → (w2.setCell ⟨w.heap.size, y, none⟩ (.slice A2 (m + 1) c2)).heap[q]? = some o := fun q o h2 h3 h4 h5 => hfr q o h2 h3 (fun A' c' m' e => by rw [e]; exact h4) h5
      have hne3 : (Value.slice A0 m c0).ownBlock ≠ some (w.heap.size + 1) := apartTy9 hor h1.gb (by decide)
      have hneb : ∀ q, wl.heap.size ≤ q → q < wl.heap.size + 3 → (Value.slice A0 m c0).ownBlock ≠ some q := fun q h2 h3 e => by have := hap0 q e; omega
      have hW9 : PvIn C w n1 k wl.heap.size n A c Ds (ps ++ [y]) (w2.setCell ⟨w.heap.size, y, none⟩ (.slice A2 (m + 1) c2)) := by
        refine ⟨hs6, hkp _ _ h1.gb.lt (by omega) hne3 h1.gb, hkp _ _ h1.ka.lt (by omega) (hneb _ (by omega) (by omega)) h1.ka, hkp _ _ h1.x1.lt (by omega) (hneb _ (by omega) (by omega)) h1.x1, hkp _ _ h1.x2.lt (by omega) (hneb _ (by omega) (by omega)) h1.x2, fun i v q hi hv hq => ?_, fun D hD => hk6.same D _ (h1.op D hD) rfl, by rw [List.length_append]; exact hps⟩
        by_cases e : i = y
        · subst e
          have hv2 : (w2.setCell ⟨w.heap.size, i, none⟩ (.slice A2 (m + 1) c2)).cell? ⟨w.heap.size, i, none⟩ = some (.slice A2 (m + 1) c2) := World.cell?_setCell_same _ _ _ hc6
          rw [hv] at hv2
          injection hv2 with hv2
          subst hv2
          rcases hmv q hq with h2 | h2
          · exact hap0 q h2
          · right; omega
        · rw [World.cell?_setCell_other _ _ _ _ (by intro h; simp only [Addr.mk.injEq] at h; omega), htb i] at hv
          exact h1.ap i v q hi hv hq
      have HFIN := Lib.hid (show KeepsFrom Y.heap.size U (w2.setCell ⟨w.heap.size, y, none⟩ (.slice A2 (m + 1) c2)) ∧ Keep2 (wl.heap.size + 1) (wl.heap.size + 2) U (w2.setCell ⟨w.heap.size, y, none⟩ (.slice A2 (m + 1) c2)) ∧ PvIn C w n1 k wl.heap.size n A c Ds (ps ++ [y]) (w2.setCell ⟨w.heap.size, y, none⟩ (.slice A2 (m + 1) c2)) from by
        have hu : ∀ (q : Nat) (o : Obj), U.heap[q]? = some o → U1.heap[q]? = some o := fun q o hq => by rw [← hU1]; exact hq
        have hus : U.heap.size = U1.heap.size := by rw [← hU1]; rfl
        have hko : KeepsOthers U (w2.setCell ⟨w.heap.size, y, none⟩ (.slice A2 (m + 1) c2)) := ⟨by rw [hus]; exact hk6.size, fun q o ho hoc => hk6.same q o (hu q o ho) hoc⟩
        refine ⟨hko.from _, ⟨by rw [hus]; exact hk6.size, fun q hq o ho hc => ?_⟩, hW9⟩
        have hq2 : q = wl.heap.size + 1 ∨ q = wl.heap.size + 2 := hq
        exact hkp q o (Array.getElem?_eq_some_iff.1 (hu q o ho)).1 (by omega) (hneb q (by omega) (by omega)) (hu q o ho))
      have t3a : (U1.alloc (.cells #[.int .i64 (k : Int)] 3)).cell? ⟨w.heap.size + 1, 0, none⟩ = some (.slice (some ⟨w.heap.size, 0, none⟩) n1 n1) := (h1.gb.alloc _).cell
      have hc5a : (U1.alloc (.cells #[.int .i64 (k : Int)] 3)).cell? ⟨w.heap.size, y, none⟩ = some (.slice A0 m c0) := ((belowAlloc U1 _).cell (World.block_lt_of_cell? _ _ hc5)).trans hc5
      have t3w : w2.cell? ⟨w.heap.size + 1, 0, none⟩ = some (.slice (some ⟨w.heap.size, 0, none⟩) n1 n1) := by
        have h2 := hW9.gb
        have h3 : w2.heap[w.heap.size + 1]? = some (Obj.cells #[.slice (some ⟨w.heap.size, 0, none⟩) n1 n1] 57 (0, 0)) := by
          rw [← heap_setCell_other w2 ⟨w.heap.size, y, none⟩ (w.heap.size + 1) (.slice A2 (m + 1) c2) (show w.heap.size + 1 ≠ w.heap.size by omega)]
          exact h2
        exact Boxed.cell h3
      clear hm hap0 hkp hne3 hneb hW9 hs6 hk6 hfr hmv hor htb h h1 hLL hym hps hlen hwl hlX hsz1
      gi_wp2_with fail
      refine wpIn_region_any (by kernel_rfl) ?_
      change wpAnyIn _ _ _ _ _ _ _ _ _ (World.drew _)
      rw [hU1]
      clear hU1
      refine mergeAny fun G hG => ?_
      have HDONE := HFIN.out
      have hs11111111111 : G 0 #[true, true, true, true, true, true, true, true, true, true, true] { tmps := #[.slice A n c, undef, .slice none 0 0, .pointer (some ⟨w.heap.size + 1, 0, none⟩), .pointer (some ⟨wl.heap.size, 0, none⟩), .int .i64 (y : Int), .slice A n c, .int .i64 (n : Int), .int .i64 (n1 : Int), .slice (some ⟨w.heap.size, 0, none⟩) n1 n1, .slice A n c, .int .i64 (n : Int), .int .i64 (k : Int), .bool true, .int .i64 (k : Int), .slice A n c, .int .i64 (k : Int), .func (.func 60) #[] #[.pointer (some ⟨wl.heap.size + 1, 0, none⟩), .pointer (some ⟨wl.heap.size + 2, 0, none⟩)], .int .i64 (y : Int), .slice (some ⟨w.heap.size, 0, none⟩) n1 n1, .int .i64 (y : Int), .slice (some ⟨w.heap.size, 0, none⟩) n1 n1, .int .i64 (y : Int), .pointer (some ⟨w.heap.size, y, none⟩), .slice A0 m c0, .int .i64 (k : Int), .slice (some ⟨U1.heap.size, 0, none⟩) 1 1, .slice A2 (m + 1) c2, .pointer (some ⟨w.heap.size, y, none⟩), u 29, undef], defers := [] } (w2.setCell ⟨w.heap.size, y, none⟩ (.slice A2 (m + 1) c2)) := by
        refine (hG _ _ _ _).2 ?_
        refine wpAnyIn_done (by kernel_rfl) ?_ _
        exact HDONE
      have hs11111111110 : G 1 #[true, true, true, true, true, true, true, true, true, true, false] { tmps := #[.slice A n c, undef, .slice none 0 0, .pointer (some ⟨w.heap.size + 1, 0, none⟩), .pointer (some ⟨wl.heap.size, 0, none⟩), .int .i64 (y : Int), .slice A n c, .int .i64 (n : Int), .int .i64 (n1 : Int), .slice (some ⟨w.heap.size, 0, none⟩) n1 n1, .slice A n c, .int .i64 (n : Int), .int .i64 (k : Int), .bool true, .int .i64 (k : Int), .slice A n c, .int .i64 (k : Int), .func (.func 60) #[] #[.pointer (some ⟨wl.heap.size + 1, 0, none⟩), .pointer (some ⟨wl.heap.size + 2, 0, none⟩)], .int .i64 (y : Int), .slice (some ⟨w.heap.size, 0, none⟩) n1 n1, .int .i64 (y : Int), .slice (some ⟨w.heap.size, 0, none⟩) n1 n1, .int .i64 (y : Int), .pointer (some ⟨w.heap.size, y, none⟩), .slice A0 m c0, .int .i64 (k : Int), .slice (some ⟨U1.heap.size, 0, none⟩) 1 1, .slice A2 (m + 1) c2, .pointer (some ⟨w.heap.size, y, none⟩), u 29, undef], defers := [] } w2 := by
        refine (hG _ _ _ _).2 ?_
        refine wpAnyIn_ready (rs := [10]) (by kernel_rfl) (by simp) ?_
        refine AllReadyIn.cons rfl (fun K hK => ?_) (AllReadyIn.nil)
        · refine stepInSto9 _ rfl rfl (.tmp 28) (.tmp 27) rfl rfl rfl hc6 hf6 ?_
          refine hK _ _ ?_
          clear hK K
          (try simp only [Act.put, List.setIfInBounds_toArray, List.set_cons_zero, List.set_cons_succ])
          exact (hG _ _ _ _).1 hs11111111111
      have hs11111111100 : G 2 #[true, true, true, true, true, true, true, true, true, false, false] { tmps := #[.slice A n c, undef, .slice none 0 0, .pointer (some ⟨w.heap.size + 1, 0, none⟩), .pointer (some ⟨wl.heap.size, 0, none⟩), .int .i64 (y : Int), .slice A n c, .int .i64 (n : Int), .int .i64 (n1 : Int), .slice (some ⟨w.heap.size, 0, none⟩) n1 n1, .slice A n c, .int .i64 (n : Int), .int .i64 (k : Int), .bool true, .int .i64 (k : Int), .slice A n c, .int .i64 (k : Int), .func (.func 60) #[] #[.pointer (some ⟨wl.heap.size + 1, 0, none⟩), .pointer (some ⟨wl.heap.size + 2, 0, none⟩)], .int .i64 (y : Int), .slice (some ⟨w.heap.size, 0, none⟩) n1 n1, .int .i64 (y : Int), .slice (some ⟨w.heap.size, 0, none⟩) n1 n1, .int .i64 (y : Int), .pointer (some ⟨w.heap.size, y, none⟩), .slice A0 m c0, .int .i64 (k : Int), .slice (some ⟨U1.heap.size, 0, none⟩) 1 1, .slice A2 (m + 1) c2, u 28, u 29, undef], defers := [] } w2 := by
        refine (hG _ _ _ _).2 ?_
        refine wpAnyIn_ready (rs := [9]) (by kernel_rfl) (by simp) ?_
        refine AllReadyIn.cons rfl (fun K hK => ?_) (AllReadyIn.nil)
        · go_simp
          refine hK _ _ ?_
          clear hK K
          (try simp only [Act.put, List.setIfInBounds_toArray, List.set_cons_zero, List.set_cons_succ])
          exact (hG _ _ _ _).1 hs11111111110
      have hs11111111000 : G 3 #[true, true, true, true, true, true, true, true, false, false, false] { tmps := #[.slice A n c, undef, .slice none 0 0, .pointer (some ⟨w.heap.size + 1, 0, none⟩), .pointer (some ⟨wl.heap.size, 0, none⟩), .int .i64 (y : Int), .slice A n c, .int .i64 (n : Int), .int .i64 (n1 : Int), .slice (some ⟨w.heap.size, 0, none⟩) n1 n1, .slice A n c, .int .i64 (n : Int), .int .i64 (k : Int), .bool true, .int .i64 (k : Int), .slice A n c, .int .i64 (k : Int), .func (.func 60) #[] #[.pointer (some ⟨wl.heap.size + 1, 0, none⟩), .pointer (some ⟨wl.heap.size + 2, 0, none⟩)], .int .i64 (y : Int), .slice (some ⟨w.heap.size, 0, none⟩) n1 n1, .int .i64 (y : Int), .slice (some ⟨w.heap.size, 0, none⟩) n1 n1, .int .i64 (y : Int), .pointer (some ⟨w.heap.size, y, none⟩), .slice A0 m c0, .int .i64 (k : Int), .slice (some ⟨U1.heap.size, 0, none⟩) 1 1, u 27, u 28, u 29, undef], defers := [] } (U1.alloc (.cells #[.int .i64 (k : Int)] 3)) := by
        refine (hG _ _ _ _).2 ?_
        refine wpAnyIn_ready (rs := [8]) (by kernel_rfl) (by simp) ?_
        refine AllReadyIn.cons rfl (fun K hK => ?_) (AllReadyIn.nil)
        · refine stepInApp9 _ rfl (.tmp 24) (.tmp 26) 33 rfl rfl rfl hap ?_
          refine hK _ _ ?_
          clear hK K
          (try simp only [Act.put, List.setIfInBounds_toArray, List.set_cons_zero, List.set_cons_succ])
          exact (hG _ _ _ _).1 hs11111111100
      have hs10111111100 : G 3 #[true, false, true, true, true, true, true, true, true, false, false] { tmps := #[.slice A n c, undef, .slice none 0 0, .pointer (some ⟨w.heap.size + 1, 0, none⟩), .pointer (some ⟨wl.heap.size, 0, none⟩), .int .i64 (y : Int), .slice A n c, .int .i64 (n : Int), .int .i64 (n1 : Int), .slice (some ⟨w.heap.size, 0, none⟩) n1 n1, .slice A n c, .int .i64 (n : Int), .int .i64 (k : Int), .bool true, .int .i64 (k : Int), .slice A n c, .int .i64 (k : Int), .func (.func 60) #[] #[.pointer (some ⟨wl.heap.size + 1, 0, none⟩), .pointer (some ⟨wl.heap.size + 2, 0, none⟩)], .int .i64 (y : Int), .slice (some ⟨w.heap.size, 0, none⟩) n1 n1, u 20, .slice (some ⟨w.heap.size, 0, none⟩) n1 n1, .int .i64 (y : Int), .pointer (some ⟨w.heap.size, y, none⟩), .slice A0 m c0, .int .i64 (k : Int), .slice (some ⟨U1.heap.size, 0, none⟩) 1 1, .slice A2 (m + 1) c2, u 28, u 29, undef], defers := [] } w2 := by
        refine (hG _ _ _ _).2 ?_
        refine wpAnyIn_ready (rs := [1]) (by kernel_rfl) (by simp) ?_
        refine AllReadyIn.cons rfl (fun K hK => ?_) (AllReadyIn.nil)
        · go_simp
          refine hK _ _ ?_
          clear hK K
          (try simp only [Act.put, List.setIfInBounds_toArray, List.set_cons_zero, List.set_cons_succ])
          exact (hG _ _ _ _).1 hs11111111100
      have hs01111111100 : G 3 #[false, true, true, true, true, true, true, true, true, false, false] { tmps := #[.slice A n c, undef, .slice none 0 0, .pointer (some ⟨w.heap.size + 1, 0, none⟩), .pointer (some ⟨wl.heap.size, 0, none⟩), .int .i64 (y : Int), .slice A n c, .int .i64 (n : Int), .int .i64 (n1 : Int), .slice (some ⟨w.heap.size, 0, none⟩) n1 n1, .slice A n c, .int .i64 (n : Int), .int .i64 (k : Int), .bool true, .int .i64 (k : Int), .slice A n c, .int .i64 (k : Int), .func (.func 60) #[] #[.pointer (some ⟨wl.heap.size + 1, 0, none⟩), .pointer (some ⟨wl.heap.size + 2, 0, none⟩)], .int .i64 (y : Int), u 19, .int .i64 (y : Int), .slice (some ⟨w.heap.size, 0, none⟩) n1 n1, .int .i64 (y : Int), .pointer (some ⟨w.heap.size, y, none⟩), .slice A0 m c0, .int .i64 (k : Int), .slice (some ⟨U1.heap.size, 0, none⟩) 1 1, .slice A2 (m + 1) c2, u 28, u 29, undef], defers := [] } w2 := by
        refine (hG _ _ _ _).2 ?_
        refine wpAnyIn_ready (rs := [0]) (by kernel_rfl) (by simp) ?_
        refine AllReadyIn.cons rfl (fun K hK => ?_) (AllReadyIn.nil)
        · go_simp
          refine hK _ _ ?_
          clear hK K
          (try simp only [Act.put, List.setIfInBounds_toArray, List.set_cons_zero, List.set_cons_succ])
          exact (hG _ _ _ _).1 hs11111111100
      have hs11111110000 : G 4 #[true, true, true, true, true, true, true, false, false, false, false] { tmps := #[.slice A n c, undef, .slice none 0 0, .pointer (some ⟨w.heap.size + 1, 0, none⟩), .pointer (some ⟨wl.heap.size, 0, none⟩), .int .i64 (y : Int), .slice A n c, .int .i64 (n : Int), .int .i64 (n1 : Int), .slice (some ⟨w.heap.size, 0, none⟩) n1 n1, .slice A n c, .int .i64 (n : Int), .int .i64 (k : Int), .bool true, .int .i64 (k : Int), .slice A n c, .int .i64 (k : Int), .func (.func 60) #[] #[.pointer (some ⟨wl.heap.size + 1, 0, none⟩), .pointer (some ⟨wl.heap.size + 2, 0, none⟩)], .int .i64 (y : Int), .slice (some ⟨w.heap.size, 0, none⟩) n1 n1, .int .i64 (y : Int), .slice (some ⟨w.heap.size, 0, none⟩) n1 n1, .int .i64 (y : Int), .pointer (some ⟨w.heap.size, y, none⟩), .slice A0 m c0, .int .i64 (k : Int), u 26, u 27, u 28, u 29, undef], defers := [] } U1 := by
        refine (hG _ _ _ _).2 ?_
        refine wpAnyIn_ready (rs := [7]) (by kernel_rfl) (by simp) ?_
        refine AllReadyIn.cons rfl (fun K hK => ?_) (AllReadyIn.nil)
        · go_simp
          refine hK _ _ ?_
          clear hK K
          (try simp only [Act.put, List.setIfInBounds_toArray, List.set_cons_zero, List.set_cons_succ])
          exact (hG _ _ _ _).1 hs11111111000
      have hs11111011000 : G 4 #[true, true, true, true, true, false, true, true, false, false, false] { tmps := #[.slice A n c, undef, .slice none 0 0, .pointer (some ⟨w.heap.size + 1, 0, none⟩), .pointer (some ⟨wl.heap.size, 0, none⟩), .int .i64 (y : Int), .slice A n c, .int .i64 (n : Int), .int .i64 (n1 : Int), .slice (some ⟨w.heap.size, 0, none⟩) n1 n1, .slice A n c, .int .i64 (n : Int), .int .i64 (k : Int), .bool true, .int .i64 (k : Int), .slice A n c, .int .i64 (k : Int), .func (.func 60) #[] #[.pointer (some ⟨wl.heap.size + 1, 0, none⟩), .pointer (some ⟨wl.heap.size + 2, 0, none⟩)], .int .i64 (y : Int), .slice (some ⟨w.heap.size, 0, none⟩) n1 n1, .int .i64 (y : Int), .slice (some ⟨w.heap.size, 0, none⟩) n1 n1, .int .i64 (y : Int), .pointer (some ⟨w.heap.size, y, none⟩), u 24, .int .i64 (k : Int), .slice (some ⟨U1.heap.size, 0, none⟩) 1 1, u 27, u 28, u 29, undef], defers := [] } (U1.alloc (.cells #[.int .i64 (k : Int)] 3)) := by
        refine (hG _ _ _ _).2 ?_
        refine wpAnyIn_ready (rs := [5]) (by kernel_rfl) (by simp) ?_
        refine AllReadyIn.cons rfl (fun K hK => ?_) (AllReadyIn.nil)
        · go_simp
          refine hK _ _ ?_
          clear hK K
          (try simp only [Act.put, List.setIfInBounds_toArray, List.set_cons_zero, List.set_cons_succ])
          exact (hG _ _ _ _).1 hs11111111000
      have hs10111111000 : G 4 #[true, false, true, true, true, true, true, true, false, false, false] { tmps := #[.slice A n c, undef, .slice none 0 0, .pointer (some ⟨w.heap.size + 1, 0, none⟩), .pointer (some ⟨wl.heap.size, 0, none⟩), .int .i64 (y : Int), .slice A n c, .int .i64 (n : Int), .int .i64 (n1 : Int), .slice (some ⟨w.heap.size, 0, none⟩) n1 n1, .slice A n c, .int .i64 (n : Int), .int .i64 (k : Int), .bool true, .int .i64 (k : Int), .slice A n c, .int .i64 (k : Int), .func (.func 60) #[] #[.pointer (some ⟨wl.heap.size + 1, 0, none⟩), .pointer (some ⟨wl.heap.size + 2, 0, none⟩)], .int .i64 (y : Int), .slice (some ⟨w.heap.size, 0, none⟩) n1 n1, u 20, .slice (some ⟨w.heap.size, 0, none⟩) n1 n1, .int .i64 (y : Int), .pointer (some ⟨w.heap.size, y, none⟩), .slice A0 m c0, .int .i64 (k : Int), .slice (some ⟨U1.heap.size, 0, none⟩) 1 1, u 27, u 28, u 29, undef], defers := [] } (U1.alloc (.cells #[.int .i64 (k : Int)] 3)) := by
        refine (hG _ _ _ _).2 ?_
        refine wpAnyIn_ready (rs := [1, 8]) (by kernel_rfl) (by simp) ?_
        refine AllReadyIn.cons rfl (fun K hK => ?_) (AllReadyIn.cons rfl (fun K hK => ?_) (AllReadyIn.nil))
        · go_simp
          refine hK _ _ ?_
          clear hK K
          (try simp only [Act.put, List.setIfInBounds_toArray, List.set_cons_zero, List.set_cons_succ])
          exact (hG _ _ _ _).1 hs11111111000
        · refine stepInApp9 _ rfl (.tmp 24) (.tmp 26) 33 rfl rfl rfl hap ?_
          refine hK _ _ ?_
          clear hK K
          (try simp only [Act.put, List.setIfInBounds_toArray, List.set_cons_zero, List.set_cons_succ])
          exact (hG _ _ _ _).1 hs10111111100
      have hs01111111000 : G 4 #[false, true, true, true, true, true, true, true, false, false, false] { tmps := #[.slice A n c, undef, .slice none 0 0, .pointer (some ⟨w.heap.size + 1, 0, none⟩), .pointer (some ⟨wl.heap.size, 0, none⟩), .int .i64 (y : Int), .slice A n c, .int .i64 (n : Int), .int .i64 (n1 : Int), .slice (some ⟨w.heap.size, 0, none⟩) n1 n1, .slice A n c, .int .i64 (n : Int), .int .i64 (k : Int), .bool true, .int .i64 (k : Int), .slice A n c, .int .i64 (k : Int), .func (.func 60) #[] #[.pointer (some ⟨wl.heap.size + 1, 0, none⟩), .pointer (some ⟨wl.heap.size + 2, 0, none⟩)], .int .i64 (y : Int), u 19, .int .i64 (y : Int), .slice (some ⟨w.heap.size, 0, none⟩) n1 n1, .int .i64 (y : Int), .pointer (some ⟨w.heap.size, y, none⟩), .slice A0 m c0, .int .i64 (k : Int), .slice (some ⟨U1.heap.size, 0, none⟩) 1 1, u 27, u 28, u 29, undef], defers := [] } (U1.alloc (.cells #[.int .i64 (k : Int)] 3)) := by
        refine (hG _ _ _ _).2 ?_
        refine wpAnyIn_ready (rs := [0, 8]) (by kernel_rfl) (by simp) ?_
        refine AllReadyIn.cons rfl (fun K hK => ?_) (AllReadyIn.cons rfl (fun K hK => ?_) (AllReadyIn.nil))
        · go_simp
          refine hK _ _ ?_
          clear hK K
          (try simp only [Act.put, List.setIfInBounds_toArray, List.set_cons_zero, List.set_cons_succ])
          exact (hG _ _ _ _).1 hs11111111000
        · refine stepInApp9 _ rfl (.tmp 24) (.tmp 26) 33 rfl rfl rfl hap ?_
          refine hK _ _ ?_
          clear hK K
          (try simp only [Act.put, List.setIfInBounds_toArray, List.set_cons_zero, List.set_cons_succ])
          exact (hG _ _ _ _).1 hs01111111100
      have hs00111111100 : G 4 #[false, false, true, true, true, true, true, true, true, false, false] { tmps := #[.slice A n c, undef, .slice none 0 0, .pointer (some ⟨w.heap.size + 1, 0, none⟩), .pointer (some ⟨wl.heap.size, 0, none⟩), .int .i64 (y : Int), .slice A n c, .int .i64 (n : Int), .int .i64 (n1 : Int), .slice (some ⟨w.heap.size, 0, none⟩) n1 n1, .slice A n c, .int .i64 (n : Int), .int .i64 (k : Int), .bool true, .int .i64 (k : Int), .slice A n c, .int .i64 (k : Int), .func (.func 60) #[] #[.pointer (some ⟨wl.heap.size + 1, 0, none⟩), .pointer (some ⟨wl.heap.size + 2, 0, none⟩)], .int .i64 (y : Int), u 19, u 20, .slice (some ⟨w.heap.size, 0, none⟩) n1 n1, .int .i64 (y : Int), .pointer (some ⟨w.heap.size, y, none⟩), .slice A0 m c0, .int .i64 (k : Int), .slice (some ⟨U1.heap.size, 0, none⟩) 1 1, .slice A2 (m + 1) c2, u 28, u 29, undef], defers := [] } w2 := by
        refine (hG _ _ _ _).2 ?_
        refine wpAnyIn_ready (rs := [0, 1]) (by kernel_rfl) (by simp) ?_
        refine AllReadyIn.cons rfl (fun K hK => ?_) (AllReadyIn.cons rfl (fun K hK => ?_) (AllReadyIn.nil))
        · go_simp
          refine hK _ _ ?_
          clear hK K
          (try simp only [Act.put, List.setIfInBounds_toArray, List.set_cons_zero, List.set_cons_succ])
          exact (hG _ _ _ _).1 hs10111111100
        · go_simp
          refine hK _ _ ?_
          clear hK K
          (try simp only [Act.put, List.setIfInBounds_toArray, List.set_cons_zero, List.set_cons_succ])
          exact (hG _ _ _ _).1 hs01111111100
      have hs11111100000 : G 5 #[true, true, true, true, true, true, false, false, false, false, false] { tmps := #[.slice A n c, undef, .slice none 0 0, .pointer (some ⟨w.heap.size + 1, 0, none⟩), .pointer (some ⟨wl.heap.size, 0, none⟩), .int .i64 (y : Int), .slice A n c, .int .i64 (n : Int), .int .i64 (n1 : Int), .slice (some ⟨w.heap.size, 0, none⟩) n1 n1, .slice A n c, .int .i64 (n : Int), .int .i64 (k : Int), .bool true, .int .i64 (k : Int), .slice A n c, .int .i64 (k : Int), .func (.func 60) #[] #[.pointer (some ⟨wl.heap.size + 1, 0, none⟩), .pointer (some ⟨wl.heap.size + 2, 0, none⟩)], .int .i64 (y : Int), .slice (some ⟨w.heap.size, 0, none⟩) n1 n1, .int .i64 (y : Int), .slice (some ⟨w.heap.size, 0, none⟩) n1 n1, .int .i64 (y : Int), .pointer (some ⟨w.heap.size, y, none⟩), .slice A0 m c0, u 25, u 26, u 27, u 28, u 29, undef], defers := [] } U1 := by
        refine (hG _ _ _ _).2 ?_
        refine wpAnyIn_ready (rs := [6]) (by kernel_rfl) (by simp) ?_
        refine AllReadyIn.cons rfl (fun K hK => ?_) (AllReadyIn.nil)
        · go_simp
          refine hK _ _ ?_
          clear hK K
          (try simp only [Act.put, List.setIfInBounds_toArray, List.set_cons_zero, List.set_cons_succ])
          exact (hG _ _ _ _).1 hs11111110000
      have hs11111010000 : G 5 #[true, true, true, true, true, false, true, false, false, false, false] { tmps := #[.slice A n c, undef, .slice none 0 0, .pointer (some ⟨w.heap.size + 1, 0, none⟩), .pointer (some ⟨wl.heap.size, 0, none⟩), .int .i64 (y : Int), .slice A n c, .int .i64 (n : Int), .int .i64 (n1 : Int), .slice (some ⟨w.heap.size, 0, none⟩) n1 n1, .slice A n c, .int .i64 (n : Int), .int .i64 (k : Int), .bool true, .int .i64 (k : Int), .slice A n c, .int .i64 (k : Int), .func (.func 60) #[] #[.pointer (some ⟨wl.heap.size + 1, 0, none⟩), .pointer (some ⟨wl.heap.size + 2, 0, none⟩)], .int .i64 (y : Int), .slice (some ⟨w.heap.size, 0, none⟩) n1 n1, .int .i64 (y : Int), .slice (some ⟨w.heap.size, 0, none⟩) n1 n1, .int .i64 (y : Int), .pointer (some ⟨w.heap.size, y, none⟩), u 24, .int .i64 (k : Int), u 26, u 27, u 28, u 29, undef], defers := [] } U1 := by
        refine (hG _ _ _ _).2 ?_
        refine wpAnyIn_ready (rs := [5, 7]) (by kernel_rfl) (by simp) ?_
        refine AllReadyIn.cons rfl (fun K hK => ?_) (AllReadyIn.cons rfl (fun K hK => ?_) (AllReadyIn.nil))
        · go_simp
          refine hK _ _ ?_
          clear hK K
          (try simp only [Act.put, List.setIfInBounds_toArray, List.set_cons_zero, List.set_cons_succ])
          exact (hG _ _ _ _).1 hs11111110000
        · go_simp
          refine hK _ _ ?_
          clear hK K
          (try simp only [Act.put, List.setIfInBounds_toArray, List.set_cons_zero, List.set_cons_succ])
          exact (hG _ _ _ _).1 hs11111011000
      have hs11110011000 : G 5 #[true, true, true, true, false, false, true, true, false, false, false] { tmps := #[.slice A n c, undef, .slice none 0 0, .pointer (some ⟨w.heap.size + 1, 0, none⟩), .pointer (some ⟨wl.heap.size, 0, none⟩), .int .i64 (y : Int), .slice A n c, .int .i64 (n : Int), .int .i64 (n1 : Int), .slice (some ⟨w.heap.size, 0, none⟩) n1 n1, .slice A n c, .int .i64 (n : Int), .int .i64 (k : Int), .bool true, .int .i64 (k : Int), .slice A n c, .int .i64 (k : Int), .func (.func 60) #[] #[.pointer (some ⟨wl.heap.size + 1, 0, none⟩), .pointer (some ⟨wl.heap.size + 2, 0, none⟩)], .int .i64 (y : Int), .slice (some ⟨w.heap.size, 0, none⟩) n1 n1, .int .i64 (y : Int), .slice (some ⟨w.heap.size, 0, none⟩) n1 n1, .int .i64 (y : Int), u 23, u 24, .int .i64 (k : Int), .slice (some ⟨U1.heap.size, 0, none⟩) 1 1, u 27, u 28, u 29, undef], defers := [] } (U1.alloc (.cells #[.int .i64 (k : Int)] 3)) := by
        refine (hG _ _ _ _).2 ?_
        refine wpAnyIn_ready (rs := [4]) (by kernel_rfl) (by simp) ?_
        refine AllReadyIn.cons rfl (fun K hK => ?_) (AllReadyIn.nil)
        · go_simp
          refine hK _ _ ?_
          clear hK K
          (try simp only [Act.put, List.setIfInBounds_toArray, List.set_cons_zero, List.set_cons_succ])
          exact (hG _ _ _ _).1 hs11111011000
      have hs10111110000 : G 5 #[true, false, true, true, true, true, true, false, false, false, false] { tmps := #[.slice A n c, undef, .slice none 0 0, .pointer (some ⟨w.heap.size + 1, 0, none⟩), .pointer (some ⟨wl.heap.size, 0, none⟩), .int .i64 (y : Int), .slice A n c, .int .i64 (n : Int), .int .i64 (n1 : Int), .slice (some ⟨w.heap.size, 0, none⟩) n1 n1, .slice A n c, .int .i64 (n : Int), .int .i64 (k : Int), .bool true, .int .i64 (k : Int), .slice A n c, .int .i64 (k : Int), .func (.func 60) #[] #[.pointer (some ⟨wl.heap.size + 1, 0, none⟩), .pointer (some ⟨wl.heap.size + 2, 0, none⟩)], .int .i64 (y : Int), .slice (some ⟨w.heap.size, 0, none⟩) n1 n1, u 20, .slice (some ⟨w.heap.size, 0, none⟩) n1 n1, .int .i64 (y : Int), .pointer (some ⟨w.heap.size, y, none⟩), .slice A0 m c0, .int .i64 (k : Int), u 26, u 27, u 28, u 29, undef], defers := [] } U1 := by
        refine (hG _ _ _ _).2 ?_
        refine wpAnyIn_ready (rs := [1, 7]) (by kernel_rfl) (by simp) ?_
        refine AllReadyIn.cons rfl (fun K hK => ?_) (AllReadyIn.cons rfl (fun K hK => ?_) (AllReadyIn.nil))
        · go_simp
          refine hK _ _ ?_
          clear hK K
          (try simp only [Act.put, List.setIfInBounds_toArray, List.set_cons_zero, List.set_cons_succ])
          exact (hG _ _ _ _).1 hs11111110000
        · go_simp
          refine hK _ _ ?_
          clear hK K
          (try simp only [Act.put, List.setIfInBounds_toArray, List.set_cons_zero, List.set_cons_succ])
          exact (hG _ _ _ _).1 hs10111111000
      have hs10111011000 : G 5 #[true, false, true, true, true, false, true, true, false, false, false] { tmps := #[.slice A n c, undef, .slice none 0 0, .pointer (some ⟨w.heap.size + 1, 0, none⟩), .pointer (some ⟨wl.heap.size, 0, none⟩), .int .i64 (y : Int), .slice A n c, .int .i64 (n : Int), .int .i64 (n1 : Int), .slice (some ⟨w.heap.size, 0, none⟩) n1 n1, .slice A n c, .int .i64 (n : Int), .int .i64 (k : Int), .bool true, .int .i64 (k : Int), .slice A n c, .int .i64 (k : Int), .func (.func 60) #[] #[.pointer (some ⟨wl.heap.size + 1, 0, none⟩), .pointer (some ⟨wl.heap.size + 2, 0, none⟩)], .int .i64 (y : Int), .slice (some ⟨w.heap.size, 0, none⟩) n1 n1, u 20, .slice (some ⟨w.heap.size, 0, none⟩) n1 n1, .int .i64 (y : Int), .pointer (some ⟨w.heap.size, y, none⟩), u 24, .int .i64 (k : Int), .slice (some ⟨U1.heap.size, 0, none⟩) 1 1, u 27, u 28, u 29, undef], defers := [] } (U1.alloc (.cells #[.int .i64 (k : Int)] 3)) := by
        refine (hG _ _ _ _).2 ?_
        refine wpAnyIn_ready (rs := [1, 5]) (by kernel_rfl) (by simp) ?_
        refine AllReadyIn.cons rfl (fun K hK => ?_) (AllReadyIn.cons rfl (fun K hK => ?_) (AllReadyIn.nil))
        · go_simp
          refine hK _ _ ?_
          clear hK K
          (try simp only [Act.put, List.setIfInBounds_toArray, List.set_cons_zero, List.set_cons_succ])
          exact (hG _ _ _ _).1 hs11111011000
        · go_simp
          refine hK _ _ ?_
          clear hK K
          (try simp only [Act.put, List.setIfInBounds_toArray, List.set_cons_zero, List.set_cons_succ])
          exact (hG _ _ _ _).1 hs10111111000
      have hs01111110000 : G 5 #[false, true, true, true, true, true, true, false, false, false, false] { tmps := #[.slice A n c, undef, .slice none 0 0, .pointer (some ⟨w.heap.size + 1, 0, none⟩), .pointer (some ⟨wl.heap.size, 0, none⟩), .int .i64 (y : Int), .slice A n c, .int .i64 (n : Int), .int .i64 (n1 : Int), .slice (some ⟨w.heap.size, 0, none⟩) n1 n1, .slice A n c, .int .i64 (n : Int), .int .i64 (k : Int), .bool true, .int .i64 (k : Int), .slice A n c, .int .i64 (k : Int), .func (.func 60) #[] #[.pointer (some ⟨wl.heap.size + 1, 0, none⟩), .pointer (some ⟨wl.heap.size + 2, 0, none⟩)], .int .i64 (y : Int), u 19, .int .i64 (y : Int), .slice (some ⟨w.heap.size, 0, none⟩) n1 n1, .int .i64 (y : Int), .pointer (some ⟨w.heap.size, y, none⟩), .slice A0 m c0, .int .i64 (k : Int), u 26, u 27, u 28, u 29, undef], defers := [] } U1 := by
        refine (hG _ _ _ _).2 ?_
        refine wpAnyIn_ready (rs := [0, 7]) (by kernel_rfl) (by simp) ?_
        refine AllReadyIn.cons rfl (fun K hK => ?_) (AllReadyIn.cons rfl (fun K hK => ?_) (AllReadyIn.nil))
        · go_simp
          refine hK _ _ ?_
          clear hK K
          (try simp only [Act.put, List.setIfInBounds_toArray, List.set_cons_zero, List.set_cons_succ])
          exact (hG _ _ _ _).1 hs11111110000
        · go_simp
          refine hK _ _ ?_
          clear hK K
          (try simp only [Act.put, List.setIfInBounds_toArray, List.set_cons_zero, List.set_cons_succ])
          exact (hG _ _ _ _).1 hs01111111000
      have hs01111011000 : G 5 #[false, true, true, true, true, false, true, true, false, false, false] { tmps := #[.slice A n c, undef, .slice none 0 0, .pointer (some ⟨w.heap.size + 1, 0, none⟩), .pointer (some ⟨wl.heap.size, 0, none⟩), .int .i64 (y : Int), .slice A n c, .int .i64 (n : Int), .int .i64 (n1 : Int), .slice (some ⟨w.heap.size, 0, none⟩) n1 n1, .slice A n c, .int .i64 (n : Int), .int .i64 (k : Int), .bool true, .int .i64 (k : Int), .slice A n c, .int .i64 (k : Int), .func (.func 60) #[] #[.pointer (some ⟨wl.heap.size + 1, 0, none⟩), .pointer (some ⟨wl.heap.size + 2, 0, none⟩)], .int .i64 (y : Int), u 19, .int .i64 (y : Int), .slice (some ⟨w.heap.size, 0, none⟩) n1 n1, .int .i64 (y : Int), .pointer (some ⟨w.heap.size, y, none⟩), u 24, .int .i64 (k : Int), .slice (some ⟨U1.heap.size, 0, none⟩) 1 1, u 27, u 28, u 29, undef], defers := [] } (U1.alloc (.cells #[.int .i64 (k : Int)] 3)) := by
        refine (hG _ _ _ _).2 ?_
        refine wpAnyIn_ready (rs := [0, 5]) (by kernel_rfl) (by simp) ?_
        refine AllReadyIn.cons rfl (fun K hK => ?_) (AllReadyIn.cons rfl (fun K hK => ?_) (AllReadyIn.nil))
        · go_simp
          refine hK _ _ ?_
          clear hK K
          (try simp only [Act.put, List.setIfInBounds_toArray, List.set_cons_zero, List.set_cons_succ])
          exact (hG _ _ _ _).1 hs11111011000
        · go_simp
          refine hK _ _ ?_
          clear hK K
          (try simp only [Act.put, List.setIfInBounds_toArray, List.set_cons_zero, List.set_cons_succ])
          exact (hG _ _ _ _).1 hs01111111000
      have hs00111111000 : G 5 #[false, false, true, true, true, true, true, true, false, false, false] { tmps := #[.slice A n c, undef, .slice none 0 0, .pointer (some ⟨w.heap.size + 1, 0, none⟩), .pointer (some ⟨wl.heap.size, 0, none⟩), .int .i64 (y : Int), .slice A n c, .int .i64 (n : Int), .int .i64 (n1 : Int), .slice (some ⟨w.heap.size, 0, none⟩) n1 n1, .slice A n c, .int .i64 (n : Int), .int .i64 (k : Int), .bool true, .int .i64 (k : Int), .slice A n c, .int .i64 (k : Int), .func (.func 60) #[] #[.pointer (some ⟨wl.heap.size + 1, 0, none⟩), .pointer (some ⟨wl.heap.size + 2, 0, none⟩)], .int .i64 (y : Int), u 19, u 20, .slice (some ⟨w.heap.size, 0, none⟩) n1 n1, .int .i64 (y : Int), .pointer (some ⟨w.heap.size, y, none⟩), .slice A0 m c0, .int .i64 (k : Int), .slice (some ⟨U1.heap.size, 0, none⟩) 1 1, u 27, u 28, u 29, undef], defers := [] } (U1.alloc (.cells #[.int .i64 (k : Int)] 3)) := by
        refine (hG _ _ _ _).2 ?_
        refine wpAnyIn_ready (rs := [0, 1, 8]) (by kernel_rfl) (by simp) ?_
        refine AllReadyIn.cons rfl (fun K hK => ?_) (AllReadyIn.cons rfl (fun K hK => ?_) (AllReadyIn.cons rfl (fun K hK => ?_) (AllReadyIn.nil)))
        · go_simp
          refine hK _ _ ?_
          clear hK K
          (try simp only [Act.put, List.setIfInBounds_toArray, List.set_cons_zero, List.set_cons_succ])
          exact (hG _ _ _ _).1 hs10111111000
        · go_simp
          refine hK _ _ ?_
          clear hK K
          (try simp only [Act.put, List.setIfInBounds_toArray, List.set_cons_zero, List.set_cons_succ])
          exact (hG _ _ _ _).1 hs01111111000
        · refine stepInApp9 _ rfl (.tmp 24) (.tmp 26) 33 rfl rfl rfl hap ?_
          refine hK _ _ ?_
          clear hK K
          (try simp only [Act.put, List.setIfInBounds_toArray, List.set_cons_zero, List.set_cons_succ])
          exact (hG _ _ _ _).1 hs00111111100
      have hs11111000000 : G 6 #[true, true, true, true, true, false, false, false, false, false, false] { tmps := #[.slice A n c, undef, .slice none 0 0, .pointer (some ⟨w.heap.size + 1, 0, none⟩), .pointer (some ⟨wl.heap.size, 0, none⟩), .int .i64 (y : Int), .slice A n c, .int .i64 (n : Int), .int .i64 (n1 : Int), .slice (some ⟨w.heap.size, 0, none⟩) n1 n1, .slice A n c, .int .i64 (n : Int), .int .i64 (k : Int), .bool true, .int .i64 (k : Int), .slice A n c, .int .i64 (k : Int), .func (.func 60) #[] #[.pointer (some ⟨wl.heap.size + 1, 0, none⟩), .pointer (some ⟨wl.heap.size + 2, 0, none⟩)], .int .i64 (y : Int), .slice (some ⟨w.heap.size, 0, none⟩) n1 n1, .int .i64 (y : Int), .slice (some ⟨w.heap.size, 0, none⟩) n1 n1, .int .i64 (y : Int), .pointer (some ⟨w.heap.size, y, none⟩), u 24, u 25, u 26, u 27, u 28, u 29, undef], defers := [] } U1 := by
        refine (hG _ _ _ _).2 ?_
        refine wpAnyIn_ready (rs := [5, 6]) (by kernel_rfl) (by simp) ?_
        refine AllReadyIn.cons rfl (fun K hK => ?_) (AllReadyIn.cons rfl (fun K hK => ?_) (AllReadyIn.nil))
        · go_simp
          refine hK _ _ ?_
          clear hK K
          (try simp only [Act.put, List.setIfInBounds_toArray, List.set_cons_zero, List.set_cons_succ])
          exact (hG _ _ _ _).1 hs11111100000
        · go_simp
          refine hK _ _ ?_
          clear hK K
          (try simp only [Act.put, List.setIfInBounds_toArray, List.set_cons_zero, List.set_cons_succ])
          exact (hG _ _ _ _).1 hs11111010000
      have hs11110010000 : G 6 #[true, true, true, true, false, false, true, false, false, false, false] { tmps := #[.slice A n c, undef, .slice none 0 0, .pointer (some ⟨w.heap.size + 1, 0, none⟩), .pointer (some ⟨wl.heap.size, 0, none⟩), .int .i64 (y : Int), .slice A n c, .int .i64 (n : Int), .int .i64 (n1 : Int), .slice (some ⟨w.heap.size, 0, none⟩) n1 n1, .slice A n c, .int .i64 (n : Int), .int .i64 (k : Int), .bool true, .int .i64 (k : Int), .slice A n c, .int .i64 (k : Int), .func (.func 60) #[] #[.pointer (some ⟨wl.heap.size + 1, 0, none⟩), .pointer (some ⟨wl.heap.size + 2, 0, none⟩)], .int .i64 (y : Int), .slice (some ⟨w.heap.size, 0, none⟩) n1 n1, .int .i64 (y : Int), .slice (some ⟨w.heap.size, 0, none⟩) n1 n1, .int .i64 (y : Int), u 23, u 24, .int .i64 (k : Int), u 26, u 27, u 28, u 29, undef], defers := [] } U1 := by
        refine (hG _ _ _ _).2 ?_
        refine wpAnyIn_ready (rs := [4, 7]) (by kernel_rfl) (by simp) ?_
        refine AllReadyIn.cons rfl (fun K hK => ?_) (AllReadyIn.cons rfl (fun K hK => ?_) (AllReadyIn.nil))
        · go_simp
          refine hK _ _ ?_
          clear hK K
          (try simp only [Act.put, List.setIfInBounds_toArray, List.set_cons_zero, List.set_cons_succ])
          exact (hG _ _ _ _).1 hs11111010000
        · go_simp
          refine hK _ _ ?_
          clear hK K
          (try simp only [Act.put, List.setIfInBounds_toArray, List.set_cons_zero, List.set_cons_succ])
          exact (hG _ _ _ _).1 hs11110011000
      have hs11100011000 : G 6 #[true, true, true, false, false, false, true, true, false, false, false] { tmps := #[.slice A n c, undef, .slice none 0 0, .pointer (some ⟨w.heap.size + 1, 0, none⟩), .pointer (some ⟨wl.heap.size, 0, none⟩), .int .i64 (y : Int), .slice A n c, .int .i64 (n : Int), .int .i64 (n1 : Int), .slice (some ⟨w.heap.size, 0, none⟩) n1 n1, .slice A n c, .int .i64 (n : Int), .int .i64 (k : Int), .bool true, .int .i64 (k : Int), .slice A n c, .int .i64 (k : Int), .func (.func 60) #[] #[.pointer (some ⟨wl.heap.size + 1, 0, none⟩), .pointer (some ⟨wl.heap.size + 2, 0, none⟩)], .int .i64 (y : Int), .slice (some ⟨w.heap.size, 0, none⟩) n1 n1, .int .i64 (y : Int), .slice (some ⟨w.heap.size, 0, none⟩) n1 n1, u 22, u 23, u 24, .int .i64 (k : Int), .slice (some ⟨U1.heap.size, 0, none⟩) 1 1, u 27, u 28, u 29, undef], defers := [] } (U1.alloc (.cells #[.int .i64 (k : Int)] 3)) := by
        refine (hG _ _ _ _).2 ?_
        refine wpAnyIn_ready (rs := [3]) (by kernel_rfl) (by simp) ?_
        refine AllReadyIn.cons rfl (fun K hK => ?_) (AllReadyIn.nil)
        · go_simp
          refine hK _ _ ?_
          clear hK K
          (try simp only [Act.put, List.setIfInBounds_toArray, List.set_cons_zero, List.set_cons_succ])
          exact (hG _ _ _ _).1 hs11110011000
      have hs11010011000 : G 6 #[true, true, false, true, false, false, true, true, false, false, false] { tmps := #[.slice A n c, undef, .slice none 0 0, .pointer (some ⟨w.heap.size + 1, 0, none⟩), .pointer (some ⟨wl.heap.size, 0, none⟩), .int .i64 (y : Int), .slice A n c, .int .i64 (n : Int), .int .i64 (n1 : Int), .slice (some ⟨w.heap.size, 0, none⟩) n1 n1, .slice A n c, .int .i64 (n : Int), .int .i64 (k : Int), .bool true, .int .i64 (k : Int), .slice A n c, .int .i64 (k : Int), .func (.func 60) #[] #[.pointer (some ⟨wl.heap.size + 1, 0, none⟩), .pointer (some ⟨wl.heap.size + 2, 0, none⟩)], .int .i64 (y : Int), .slice (some ⟨w.heap.size, 0, none⟩) n1 n1, .int .i64 (y : Int), u 21, .int .i64 (y : Int), u 23, u 24, .int .i64 (k : Int), .slice (some ⟨U1.heap.size, 0, none⟩) 1 1, u 27, u 28, u 29, undef], defers := [] } (U1.alloc (.cells #[.int .i64 (k : Int)] 3)) := by
        refine (hG _ _ _ _).2 ?_
        refine wpAnyIn_ready (rs := [2]) (by kernel_rfl) (by simp) ?_
        refine AllReadyIn.cons rfl (fun K hK => ?_) (AllReadyIn.nil)
        · go_simp
          refine hK _ _ ?_
          clear hK K
          (try simp only [Act.put, List.setIfInBounds_toArray, List.set_cons_zero, List.set_cons_succ])
          exact (hG _ _ _ _).1 hs11110011000
      have hs10111100000 : G 6 #[true, false, true, true, true, true, false, false, false, false, false] { tmps := #[.slice A n c, undef, .slice none 0 0, .pointer (some ⟨w.heap.size + 1, 0, none⟩), .pointer (some ⟨wl.heap.size, 0, none⟩), .int .i64 (y : Int), .slice A n c, .int .i64 (n : Int), .int .i64 (n1 : Int), .slice (some ⟨w.heap.size, 0, none⟩) n1 n1, .slice A n c, .int .i64 (n : Int), .int .i64 (k : Int), .bool true, .int .i64 (k : Int), .slice A n c, .int .i64 (k : Int), .func (.func 60) #[] #[.pointer (some ⟨wl.heap.size + 1, 0, none⟩), .pointer (some ⟨wl.heap.size + 2, 0, none⟩)], .int .i64 (y : Int), .slice (some ⟨w.heap.size, 0, none⟩) n1 n1, u 20, .slice (some ⟨w.heap.size, 0, none⟩) n1 n1, .int .i64 (y : Int), .pointer (some ⟨w.heap.size, y, none⟩), .slice A0 m c0, u 25, u 26, u 27, u 28, u 29, undef], defers := [] } U1 := by
        refine (hG _ _ _ _).2 ?_
        refine wpAnyIn_ready (rs := [1, 6]) (by kernel_rfl) (by simp) ?_
        refine AllReadyIn.cons rfl (fun K hK => ?_) (AllReadyIn.cons rfl (fun K hK => ?_) (AllReadyIn.nil))
        · go_simp
          refine hK _ _ ?_
          clear hK K
          (try simp only [Act.put, List.setIfInBounds_toArray, List.set_cons_zero, List.set_cons_succ])
          exact (hG _ _ _ _).1 hs11111100000
        · go_simp
          refine hK _ _ ?_
          clear hK K
          (try simp only [Act.put, List.setIfInBounds_toArray, List.set_cons_zero, List.set_cons_succ])
          exact (hG _ _ _ _).1 hs10111110000
      have hs10111010000 : G 6 #[true, false, true, true, true, false, true, false, false, false, false] { tmps := #[.slice A n c, undef, .slice none 0 0, .pointer (some ⟨w.heap.size + 1, 0, none⟩), .pointer (some ⟨wl.heap.size, 0, none⟩), .int .i64 (y : Int), .slice A n c, .int .i64 (n : Int), .int .i64 (n1 : Int), .slice (some ⟨w.heap.size, 0, none⟩) n1 n1, .slice A n c, .int .i64 (n : Int), .int .i64 (k : Int), .bool true, .int .i64 (k : Int), .slice A n c, .int .i64 (k : Int), .func (.func 60) #[] #[.pointer (some ⟨wl.heap.size + 1, 0, none⟩), .pointer (some ⟨wl.heap.size + 2, 0, none⟩)], .int .i64 (y : Int), .slice (some ⟨w.heap.size, 0, none⟩) n1 n1, u 20, .slice (some ⟨w.heap.size, 0, none⟩) n1 n1, .int .i64 (y : Int), .pointer (some ⟨w.heap.size, y, none⟩), u 24, .int .i64 (k : Int), u 26, u 27, u 28, u 29, undef], defers := [] } U1 := by
        refine (hG _ _ _ _).2 ?_
        refine wpAnyIn_ready (rs := [1, 5, 7]) (by kernel_rfl) (by simp) ?_
        refine AllReadyIn.cons rfl (fun K hK => ?_) (AllReadyIn.cons rfl (fun K hK => ?_) (AllReadyIn.cons rfl (fun K hK => ?_) (AllReadyIn.nil)))
        · go_simp
          refine hK _ _ ?_
          clear hK K
          (try simp only [Act.put, List.setIfInBounds_toArray, List.set_cons_zero, List.set_cons_succ])
          exact (hG _ _ _ _).1 hs11111010000
        · go_simp
          refine hK _ _ ?_
          clear hK K
          (try simp only [Act.put, List.setIfInBounds_toArray, List.set_cons_zero, List.set_cons_succ])
          exact (hG _ _ _ _).1 hs10111110000
        · go_simp
          refine hK _ _ ?_
          clear hK K
          (try simp only [Act.put, List.setIfInBounds_toArray, List.set_cons_zero, List.set_cons_succ])
          exact (hG _ _ _ _).1 hs10111011000
      have hs10110011000 : G 6 #[true, false, true, true, false, false, true, true, false, false, false] { tmps := #[.slice A n c, undef, .slice none 0 0, .pointer (some ⟨w.heap.size + 1, 0, none⟩), .pointer (some ⟨wl.heap.size, 0, none⟩), .int .i64 (y : Int), .slice A n c, .int .i64 (n : Int), .int .i64 (n1 : Int), .slice (some ⟨w.heap.size, 0, none⟩) n1 n1, .slice A n c, .int .i64 (n : Int), .int .i64 (k : Int), .bool true, .int .i64 (k : Int), .slice A n c, .int .i64 (k : Int), .func (.func 60) #[] #[.pointer (some ⟨wl.heap.size + 1, 0, none⟩), .pointer (some ⟨wl.heap.size + 2, 0, none⟩)], .int .i64 (y : Int), .slice (some ⟨w.heap.size, 0, none⟩) n1 n1, u 20, .slice (some ⟨w.heap.size, 0, none⟩) n1 n1, .int .i64 (y : Int), u 23, u 24, .int .i64 (k : Int), .slice (some ⟨U1.heap.size, 0, none⟩) 1 1, u 27, u 28, u 29, undef], defers := [] } (U1.alloc (.cells #[.int .i64 (k : Int)] 3)) := by
        refine (hG _ _ _ _).2 ?_
        refine wpAnyIn_ready (rs := [1, 4]) (by kernel_rfl) (by simp) ?_
        refine AllReadyIn.cons rfl (fun K hK => ?_) (AllReadyIn.cons rfl (fun K hK => ?_) (AllReadyIn.nil))
        · go_simp
          refine hK _ _ ?_
          clear hK K
          (try simp only [Act.put, List.setIfInBounds_toArray, List.set_cons_zero, List.set_cons_succ])
          exact (hG _ _ _ _).1 hs11110011000
        · go_simp
          refine hK _ _ ?_
          clear hK K
          (try simp only [Act.put, List.setIfInBounds_toArray, List.set_cons_zero, List.set_cons_succ])
          exact (hG _ _ _ _).1 hs10111011000
      have hs01111100000 : G 6 #[false, true, true, true, true, true, false, false, false, false, false] { tmps := #[.slice A n c, undef, .slice none 0 0, .pointer (some ⟨w.heap.size + 1, 0, none⟩), .pointer (some ⟨wl.heap.size, 0, none⟩), .int .i64 (y : Int), .slice A n c, .int .i64 (n : Int), .int .i64 (n1 : Int), .slice (some ⟨w.heap.size, 0, none⟩) n1 n1, .slice A n c, .int .i64 (n : Int), .int .i64 (k : Int), .bool true, .int .i64 (k : Int), .slice A n c, .int .i64 (k : Int), .func (.func 60) #[] #[.pointer (some ⟨wl.heap.size + 1, 0, none⟩), .pointer (some ⟨wl.heap.size + 2, 0, none⟩)], .int .i64 (y : Int), u 19, .int .i64 (y : Int), .slice (some ⟨w.heap.size, 0, none⟩) n1 n1, .int .i64 (y : Int), .pointer (some ⟨w.heap.size, y, none⟩), .slice A0 m c0, u 25, u 26, u 27, u 28, u 29, undef], defers := [] } U1 := by
        refine (hG _ _ _ _).2 ?_
        refine wpAnyIn_ready (rs := [0, 6]) (by kernel_rfl) (by simp) ?_
        refine AllReadyIn.cons rfl (fun K hK => ?_) (AllReadyIn.cons rfl (fun K hK => ?_) (AllReadyIn.nil))
        · go_simp
          refine hK _ _ ?_
          clear hK K
          (try simp only [Act.put, List.setIfInBounds_toArray, List.set_cons_zero, List.set_cons_succ])
          exact (hG _ _ _ _).1 hs11111100000
        · go_simp
          refine hK _ _ ?_
          clear hK K
          (try simp only [Act.put, List.setIfInBounds_toArray, List.set_cons_zero, List.set_cons_succ])
          exact (hG _ _ _ _).1 hs01111110000
      have hs01111010000 : G 6 #[false, true, true, true, true, false, true, false, false, false, false] { tmps := #[.slice A n c, undef, .slice none 0 0, .pointer (some ⟨w.heap.size + 1, 0, none⟩), .pointer (some ⟨wl.heap.size, 0, none⟩), .int .i64 (y : Int), .slice A n c, .int .i64 (n : Int), .int .i64 (n1 : Int), .slice (some ⟨w.heap.size, 0, none⟩) n1 n1, .slice A n c, .int .i64 (n : Int), .int .i64 (k : Int), .bool true, .int .i64 (k : Int), .slice A n c, .int .i64 (k : Int), .func (.func 60) #[] #[.pointer (some ⟨wl.heap.size + 1, 0, none⟩), .pointer (some ⟨wl.heap.size + 2, 0, none⟩)], .int .i64 (y : Int), u 19, .int .i64 (y : Int), .slice (some ⟨w.heap.size, 0, none⟩) n1 n1, .int .i64 (y : Int), .pointer (some ⟨w.heap.size, y, none⟩), u 24, .int .i64 (k : Int), u 26, u 27, u 28, u 29, undef], defers := [] } U1 := by
        refine (hG _ _ _ _).2 ?_
        refine wpAnyIn_ready (rs := [0, 5, 7]) (by kernel_rfl) (by simp) ?_
        refine AllReadyIn.cons rfl (fun K hK => ?_) (AllReadyIn.cons rfl (fun K hK => ?_) (AllReadyIn.cons rfl (fun K hK => ?_) (AllReadyIn.nil)))
        · go_simp
          refine hK _ _ ?_
          clear hK K
          (try simp only [Act.put, List.setIfInBounds_toArray, List.set_cons_zero, List.set_cons_succ])
          exact (hG _ _ _ _).1 hs11111010000
        · go_simp
          refine hK _ _ ?_
          clear hK K
          (try simp only [Act.put, List.setIfInBounds_toArray, List.set_cons_zero, List.set_cons_succ])
          exact (hG _ _ _ _).1 hs01111110000
        · go_simp
          refine hK _ _ ?_
          clear hK K
          (try simp only [Act.put, List.setIfInBounds_toArray, List.set_cons_zero, List.set_cons_succ])
          exact (hG _ _ _ _).1 hs01111011000
      have hs01110011000 : G 6 #[false, true, true, true, false, false, true, true, false, false, false] { tmps := #[.slice A n c, undef, .slice none 0 0, .pointer (some ⟨w.heap.size + 1, 0, none⟩), .pointer (some ⟨wl.heap.size, 0, none⟩), .int .i64 (y : Int), .slice A n c, .int .i64 (n : Int), .int .i64 (n1 : Int), .slice (some ⟨w.heap.size, 0, none⟩) n1 n1, .slice A n c, .int .i64 (n : Int), .int .i64 (k : Int), .bool true, .int .i64 (k : Int), .slice A n c, .int .i64 (k : Int), .func (.func 60) #[] #[.pointer (some ⟨wl.heap.size + 1, 0, none⟩), .pointer (some ⟨wl.heap.size + 2, 0, none⟩)], .int .i64 (y : Int), u 19, .int .i64 (y : Int), .slice (some ⟨w.heap.size, 0, none⟩) n1 n1, .int .i64 (y : Int), u 23, u 24, .int .i64 (k : Int), .slice (some ⟨U1.heap.size, 0, none⟩) 1 1, u 27, u 28, u 29, undef], defers := [] } (U1.alloc (.cells #[.int .i64 (k : Int)] 3)) := by
        refine (hG _ _ _ _).2 ?_
        refine wpAnyIn_ready (rs := [0, 4]) (by kernel_rfl) (by simp) ?_
        refine AllReadyIn.cons rfl (fun K hK => ?_) (AllReadyIn.cons rfl (fun K hK => ?_) (AllReadyIn.nil))
        · go_simp
          refine hK _ _ ?_
          clear hK K
          (try simp only [Act.put, List.setIfInBounds_toArray, List.set_cons_zero, List.set_cons_succ])
          exact (hG _ _ _ _).1 hs11110011000
        · go_simp
          refine hK _ _ ?_
          clear hK K
          (try simp only [Act.put, List.setIfInBounds_toArray, List.set_cons_zero, List.set_cons_succ])
          exact (hG _ _ _ _).1 hs01111011000
      have hs00111110000 : G 6 #[false, false, true, true, true, true, true, false, false, false, false] { tmps := #[.slice A n c, undef, .slice none 0 0, .pointer (some ⟨w.heap.size + 1, 0, none⟩), .pointer (some ⟨wl.heap.size, 0, none⟩), .int .i64 (y : Int), .slice A n c, .int .i64 (n : Int), .int .i64 (n1 : Int), .slice (some ⟨w.heap.size, 0, none⟩) n1 n1, .slice A n c, .int .i64 (n : Int), .int .i64 (k : Int), .bool true, .int .i64 (k : Int), .slice A n c, .int .i64 (k : Int), .func (.func 60) #[] #[.pointer (some ⟨wl.heap.size + 1, 0, none⟩), .pointer (some ⟨wl.heap.size + 2, 0, none⟩)], .int .i64 (y : Int), u 19, u 20, .slice (some ⟨w.heap.size, 0, none⟩) n1 n1, .int .i64 (y : Int), .pointer (some ⟨w.heap.size, y, none⟩), .slice A0 m c0, .int .i64 (k : Int), u 26, u 27, u 28, u 29, undef], defers := [] } U1 := by
        refine (hG _ _ _ _).2 ?_
        refine wpAnyIn_ready (rs := [0, 1, 7]) (by kernel_rfl) (by simp) ?_
        refine AllReadyIn.cons rfl (fun K hK => ?_) (AllReadyIn.cons rfl (fun K hK => ?_) (AllReadyIn.cons rfl (fun K hK => ?_) (AllReadyIn.nil)))
        · go_simp
          refine hK _ _ ?_
          clear hK K
          (try simp only [Act.put, List.setIfInBounds_toArray, List.set_cons_zero, List.set_cons_succ])
          exact (hG _ _ _ _).1 hs10111110000
        · go_simp
          refine hK _ _ ?_
          clear hK K
          (try simp only [Act.put, List.setIfInBounds_toArray, List.set_cons_zero, List.set_cons_succ])
          exact (hG _ _ _ _).1 hs01111110000
        · go_simp
          refine hK _ _ ?_
          clear hK K
          (try simp only [Act.put, List.setIfInBounds_toArray, List.set_cons_zero, List.set_cons_succ])
          exact (hG _ _ _ _).1 hs00111111000
      have hs00111011000 : G 6 #[false, false, true, true, true, false, true, true, false, false, false] { tmps := #[.slice A n c, undef, .slice none 0 0, .pointer (some ⟨w.heap.size + 1, 0, none⟩), .pointer (some ⟨wl.heap.size, 0, none⟩), .int .i64 (y : Int), .slice A n c, .int .i64 (n : Int), .int .i64 (n1 : Int), .slice (some ⟨w.heap.size, 0, none⟩) n1 n1, .slice A n c, .int .i64 (n : Int), .int .i64 (k : Int), .bool true, .int .i64 (k : Int), .slice A n c, .int .i64 (k : Int), .func (.func 60) #[] #[.pointer (some ⟨wl.heap.size + 1, 0, none⟩), .pointer (some ⟨wl.heap.size + 2, 0, none⟩)], .int .i64 (y : Int), u 19, u 20, .slice (some ⟨w.heap.size, 0, none⟩) n1 n1, .int .i64 (y : Int), .pointer (some ⟨w.heap.size, y, none⟩), u 24, .int .i64 (k : Int), .slice (some ⟨U1.heap.size, 0, none⟩) 1 1, u 27, u 28, u 29, undef], defers := [] } (U1.alloc (.cells #[.int .i64 (k : Int)] 3)) := by
        refine (hG _ _ _ _).2 ?_
        refine wpAnyIn_ready (rs := [0, 1, 5]) (by kernel_rfl) (by simp) ?_
        refine AllReadyIn.cons rfl (fun K hK => ?_) (AllReadyIn.cons rfl (fun K hK => ?_) (AllReadyIn.cons rfl (fun K hK => ?_) (AllReadyIn.nil)))
        · go_simp
          refine hK _ _ ?_
          clear hK K
          (try simp only [Act.put, List.setIfInBounds_toArray, List.set_cons_zero, List.set_cons_succ])
          exact (hG _ _ _ _).1 hs10111011000
        · go_simp
          refine hK _ _ ?_
          clear hK K
          (try simp only [Act.put, List.setIfInBounds_toArray, List.set_cons_zero, List.set_cons_succ])
          exact (hG _ _ _ _).1 hs01111011000
        · go_simp
          refine hK _ _ ?_
          clear hK K
          (try simp only [Act.put, List.setIfInBounds_toArray, List.set_cons_zero, List.set_cons_succ])
          exact (hG _ _ _ _).1 hs00111111000
      have hs11110000000 : G 7 #[true, true, true, true, false, false, false, false, false, false, false] { tmps := #[.slice A n c, undef, .slice none 0 0, .pointer (some ⟨w.heap.size + 1, 0, none⟩), .pointer (some ⟨wl.heap.size, 0, none⟩), .int .i64 (y : Int), .slice A n c, .int .i64 (n : Int), .int .i64 (n1 : Int), .slice (some ⟨w.heap.size, 0, none⟩) n1 n1, .slice A n c, .int .i64 (n : Int), .int .i64 (k : Int), .bool true, .int .i64 (k : Int), .slice A n c, .int .i64 (k : Int), .func (.func 60) #[] #[.pointer (some ⟨wl.heap.size + 1, 0, none⟩), .pointer (some ⟨wl.heap.size + 2, 0, none⟩)], .int .i64 (y : Int), .slice (some ⟨w.heap.size, 0, none⟩) n1 n1, .int .i64 (y : Int), .slice (some ⟨w.heap.size, 0, none⟩) n1 n1, .int .i64 (y : Int), u 23, u 24, u 25, u 26, u 27, u 28, u 29, undef], defers := [] } U1 := by
        refine (hG _ _ _ _).2 ?_
        refine wpAnyIn_ready (rs := [4, 6]) (by kernel_rfl) (by simp) ?_
        refine AllReadyIn.cons rfl (fun K hK => ?_) (AllReadyIn.cons rfl (fun K hK => ?_) (AllReadyIn.nil))
        · go_simp
          refine hK _ _ ?_
          clear hK K
          (try simp only [Act.put, List.setIfInBounds_toArray, List.set_cons_zero, List.set_cons_succ])
          exact (hG _ _ _ _).1 hs11111000000
        · go_simp
          refine hK _ _ ?_
          clear hK K
          (try simp only [Act.put, List.setIfInBounds_toArray, List.set_cons_zero, List.set_cons_succ])
          exact (hG _ _ _ _).1 hs11110010000
      have hs11100010000 : G 7 #[true, true, true, false, false, false, true, false, false, false, false] { tmps := #[.slice A n c, undef, .slice none 0 0, .pointer (some ⟨w.heap.size + 1, 0, none⟩), .pointer (some ⟨wl.heap.size, 0, none⟩), .int .i64 (y : Int), .slice A n c, .int .i64 (n : Int), .int .i64 (n1 : Int), .slice (some ⟨w.heap.size, 0, none⟩) n1 n1, .slice A n c, .int .i64 (n : Int), .int .i64 (k : Int), .bool true, .int .i64 (k : Int), .slice A n c, .int .i64 (k : Int), .func (.func 60) #[] #[.pointer (some ⟨wl.heap.size + 1, 0, none⟩), .pointer (some ⟨wl.heap.size + 2, 0, none⟩)], .int .i64 (y : Int), .slice (some ⟨w.heap.size, 0, none⟩) n1 n1, .int .i64 (y : Int), .slice (some ⟨w.heap.size, 0, none⟩) n1 n1, u 22, u 23, u 24, .int .i64 (k : Int), u 26, u 27, u 28, u 29, undef], defers := [] } U1 := by
        refine (hG _ _ _ _).2 ?_
        refine wpAnyIn_ready (rs := [3, 7]) (by kernel_rfl) (by simp) ?_
        refine AllReadyIn.cons rfl (fun K hK => ?_) (AllReadyIn.cons rfl (fun K hK => ?_) (AllReadyIn.nil))
        · go_simp
          refine hK _ _ ?_
          clear hK K
          (try simp only [Act.put, List.setIfInBounds_toArray, List.set_cons_zero, List.set_cons_succ])
          exact (hG _ _ _ _).1 hs11110010000
        · go_simp
          refine hK _ _ ?_
          clear hK K
          (try simp only [Act.put, List.setIfInBounds_toArray, List.set_cons_zero, List.set_cons_succ])
          exact (hG _ _ _ _).1 hs11100011000
      have hs11010010000 : G 7 #[true, true, false, true, false, false, true, false, false, false, false] { tmps := #[.slice A n c, undef, .slice none 0 0, .pointer (some ⟨w.heap.size + 1, 0, none⟩), .pointer (some ⟨wl.heap.size, 0, none⟩), .int .i64 (y : Int), .slice A n c, .int .i64 (n : Int), .int .i64 (n1 : Int), .slice (some ⟨w.heap.size, 0, none⟩) n1 n1, .slice A n c, .int .i64 (n : Int), .int .i64 (k : Int), .bool true, .int .i64 (k : Int), .slice A n c, .int .i64 (k : Int), .func (.func 60) #[] #[.pointer (some ⟨wl.heap.size + 1, 0, none⟩), .pointer (some ⟨wl.heap.size + 2, 0, none⟩)], .int .i64 (y : Int), .slice (some ⟨w.heap.size, 0, none⟩) n1 n1, .int .i64 (y : Int), u 21, .int .i64 (y : Int), u 23, u 24, .int .i64 (k : Int), u 26, u 27, u 28, u 29, undef], defers := [] } U1 := by
        refine (hG _ _ _ _).2 ?_
        refine wpAnyIn_ready (rs := [2, 7]) (by kernel_rfl) (by simp) ?_
        refine AllReadyIn.cons rfl (fun K hK => ?_) (AllReadyIn.cons rfl (fun K hK => ?_) (AllReadyIn.nil))
        · go_simp
          refine hK _ _ ?_
          clear hK K
          (try simp only [Act.put, List.setIfInBounds_toArray, List.set_cons_zero, List.set_cons_succ])
          exact (hG _ _ _ _).1 hs11110010000
        · go_simp
          refine hK _ _ ?_
          clear hK K
          (try simp only [Act.put, List.setIfInBounds_toArray, List.set_cons_zero, List.set_cons_succ])
          exact (hG _ _ _ _).1 hs11010011000
      have hs11000011000 : G 7 #[true, true, false, false, false, false, true, true, false, false, false] { tmps := #[.slice A n c, undef, .slice none 0 0, .pointer (some ⟨w.heap.size + 1, 0, none⟩), .pointer (some ⟨wl.heap.size, 0, none⟩), .int .i64 (y : Int), .slice A n c, .int .i64 (n : Int), .int .i64 (n1 : Int), .slice (some ⟨w.heap.size, 0, none⟩) n1 n1, .slice A n c, .int .i64 (n : Int), .int .i64 (k : Int), .bool true, .int .i64 (k : Int), .slice A n c, .int .i64 (k : Int), .func (.func 60) #[] #[.pointer (some ⟨wl.heap.size + 1, 0, none⟩), .pointer (some ⟨wl.heap.size + 2, 0, none⟩)], .int .i64 (y : Int), .slice (some ⟨w.heap.size, 0, none⟩) n1 n1, .int .i64 (y : Int), u 21, u 22, u 23, u 24, .int .i64 (k : Int), .slice (some ⟨U1.heap.size, 0, none⟩) 1 1, u 27, u 28, u 29, undef], defers := [] } (U1.alloc (.cells #[.int .i64 (k : Int)] 3)) := by
        refine (hG _ _ _ _).2 ?_
        refine wpAnyIn_ready (rs := [2, 3]) (by kernel_rfl) (by simp) ?_
        refine AllReadyIn.cons rfl (fun K hK => ?_) (AllReadyIn.cons rfl (fun K hK => ?_) (AllReadyIn.nil))
        · go_simp
          refine hK _ _ ?_
          clear hK K
          (try simp only [Act.put, List.setIfInBounds_toArray, List.set_cons_zero, List.set_cons_succ])
          exact (hG _ _ _ _).1 hs11100011000
        · go_simp
          refine hK _ _ ?_
          clear hK K
          (try simp only [Act.put, List.setIfInBounds_toArray, List.set_cons_zero, List.set_cons_succ])
          exact (hG _ _ _ _).1 hs11010011000
      have hs10111000000 : G 7 #[true, false, true, true, true, false, false, false, false, false, false] { tmps := #[.slice A n c, undef, .slice none 0 0, .pointer (some ⟨w.heap.size + 1, 0, none⟩), .pointer (some ⟨wl.heap.size, 0, none⟩), .int .i64 (y : Int), .slice A n c, .int .i64 (n : Int), .int .i64 (n1 : Int), .slice (some ⟨w.heap.size, 0, none⟩) n1 n1, .slice A n c, .int .i64 (n : Int), .int .i64 (k : Int), .bool true, .int .i64 (k : Int), .slice A n c, .int .i64 (k : Int), .func (.func 60) #[] #[.pointer (some ⟨wl.heap.size + 1, 0, none⟩), .pointer (some ⟨wl.heap.size + 2, 0, none⟩)], .int .i64 (y : Int), .slice (some ⟨w.heap.size, 0, none⟩) n1 n1, u 20, .slice (some ⟨w.heap.size, 0, none⟩) n1 n1, .int .i64 (y : Int), .pointer (some ⟨w.heap.size, y, none⟩), u 24, u 25, u 26, u 27, u 28, u 29, undef], defers := [] } U1 := by
        refine (hG _ _ _ _).2 ?_
        refine wpAnyIn_ready (rs := [1, 5, 6]) (by kernel_rfl) (by simp) ?_
        refine AllReadyIn.cons rfl (fun K hK => ?_) (AllReadyIn.cons rfl (fun K hK => ?_) (AllReadyIn.cons rfl (fun K hK => ?_) (AllReadyIn.nil)))
        · go_simp
          refine hK _ _ ?_
          clear hK K
          (try simp only [Act.put, List.setIfInBounds_toArray, List.set_cons_zero, List.set_cons_succ])
          exact (hG _ _ _ _).1 hs11111000000
        · go_simp
          refine hK _ _ ?_
          clear hK K
          (try simp only [Act.put, List.setIfInBounds_toArray, List.set_cons_zero, List.set_cons_succ])
          exact (hG _ _ _ _).1 hs10111100000
        · go_simp
          refine hK _ _ ?_
          clear hK K
          (try simp only [Act.put, List.setIfInBounds_toArray, List.set_cons_zero, List.set_cons_succ])
          exact (hG _ _ _ _).1 hs10111010000
      have hs10110010000 : G 7 #[true, false, true, true, false, false, true, false, false, false, false] { tmps := #[.slice A n c, undef, .slice none 0 0, .pointer (some ⟨w.heap.size + 1, 0, none⟩), .pointer (some ⟨wl.heap.size, 0, none⟩), .int .i64 (y : Int), .slice A n c, .int .i64 (n : Int), .int .i64 (n1 : Int), .slice (some ⟨w.heap.size, 0, none⟩) n1 n1, .slice A n c, .int .i64 (n : Int), .int .i64 (k : Int), .bool true, .int .i64 (k : Int), .slice A n c, .int .i64 (k : Int), .func (.func 60) #[] #[.pointer (some ⟨wl.heap.size + 1, 0, none⟩), .pointer (some ⟨wl.heap.size + 2, 0, none⟩)], .int .i64 (y : Int), .slice (some ⟨w.heap.size, 0, none⟩) n1 n1, u 20, .slice (some ⟨w.heap.size, 0, none⟩) n1 n1, .int .i64 (y : Int), u 23, u 24, .int .i64 (k : Int), u 26, u 27, u 28, u 29, undef], defers := [] } U1 := by
        refine (hG _ _ _ _).2 ?_
        refine wpAnyIn_ready (rs := [1, 4, 7]) (by kernel_rfl) (by simp) ?_
        refine AllReadyIn.cons rfl (fun K hK => ?_) (AllReadyIn.cons rfl (fun K hK => ?_) (AllReadyIn.cons rfl (fun K hK => ?_) (AllReadyIn.nil)))
        · go_simp
          refine hK _ _ ?_
          clear hK K
          (try simp only [Act.put, List.setIfInBounds_toArray, List.set_cons_zero, List.set_cons_succ])
          exact (hG _ _ _ _).1 hs11110010000
        · go_simp
          refine hK _ _ ?_
          clear hK K
          (try simp only [Act.put, List.setIfInBounds_toArray, List.set_cons_zero, List.set_cons_succ])
          exact (hG _ _ _ _).1 hs10111010000
        · go_simp
          refine hK _ _ ?_
          clear hK K
          (try simp only [Act.put, List.setIfInBounds_toArray, List.set_cons_zero, List.set_cons_succ])
          exact (hG _ _ _ _).1 hs10110011000
      have hs10100011000 : G 7 #[true, false, true, false, false, false, true, true, false, false, false] { tmps := #[.slice A n c, undef, .slice none 0 0, .pointer (some ⟨w.heap.size + 1, 0, none⟩), .pointer (some ⟨wl.heap.size, 0, none⟩), .int .i64 (y : Int), .slice A n c, .int .i64 (n : Int), .int .i64 (n1 : Int), .slice (some ⟨w.heap.size, 0, none⟩) n1 n1, .slice A n c, .int .i64 (n : Int), .int .i64 (k : Int), .bool true, .int .i64 (k : Int), .slice A n c, .int .i64 (k : Int), .func (.func 60) #[] #[.pointer (some ⟨wl.heap.size + 1, 0, none⟩), .pointer (some ⟨wl.heap.size + 2, 0, none⟩)], .int .i64 (y : Int), .slice (some ⟨w.heap.size, 0, none⟩) n1 n1, u 20, .slice (some ⟨w.heap.size, 0, none⟩) n1 n1, u 22, u 23, u 24, .int .i64 (k : Int), .slice (some ⟨U1.heap.size, 0, none⟩) 1 1, u 27, u 28, u 29, undef], defers := [] } (U1.alloc (.cells #[.int .i64 (k : Int)] 3)) := by
        refine (hG _ _ _ _).2 ?_
        refine wpAnyIn_ready (rs := [1, 3]) (by kernel_rfl) (by simp) ?_
        refine AllReadyIn.cons rfl (fun K hK => ?_) (AllReadyIn.cons rfl (fun K hK => ?_) (AllReadyIn.nil))
        · go_simp
          refine hK _ _ ?_
          clear hK K
          (try simp only [Act.put, List.setIfInBounds_toArray, List.set_cons_zero, List.set_cons_succ])
          exact (hG _ _ _ _).1 hs11100011000
        · go_simp
          refine hK _ _ ?_
          clear hK K
          (try simp only [Act.put, List.setIfInBounds_toArray, List.set_cons_zero, List.set_cons_succ])
          exact (hG _ _ _ _).1 hs10110011000
      have hs10010011000 : G 7 #[true, false, false, true, false, false, true, true, false, false, false] { tmps := #[.slice A n c, undef, .slice none 0 0, .pointer (some ⟨w.heap.size + 1, 0, none⟩), .pointer (some ⟨wl.heap.size, 0, none⟩), .int .i64 (y : Int), .slice A n c, .int .i64 (n : Int), .int .i64 (n1 : Int), .slice (some ⟨w.heap.size, 0, none⟩) n1 n1, .slice A n c, .int .i64 (n : Int), .int .i64 (k : Int), .bool true, .int .i64 (k : Int), .slice A n c, .int .i64 (k : Int), .func (.func 60) #[] #[.pointer (some ⟨wl.heap.size + 1, 0, none⟩), .pointer (some ⟨wl.heap.size + 2, 0, none⟩)], .int .i64 (y : Int), .slice (some ⟨w.heap.size, 0, none⟩) n1 n1, u 20, u 21, .int .i64 (y : Int), u 23, u 24, .int .i64 (k : Int), .slice (some ⟨U1.heap.size, 0, none⟩) 1 1, u 27, u 28, u 29, undef], defers := [] } (U1.alloc (.cells #[.int .i64 (k : Int)] 3)) := by
        refine (hG _ _ _ _).2 ?_
        refine wpAnyIn_ready (rs := [1, 2]) (by kernel_rfl) (by simp) ?_
        refine AllReadyIn.cons rfl (fun K hK => ?_) (AllReadyIn.cons rfl (fun K hK => ?_) (AllReadyIn.nil))
        · go_simp
          refine hK _ _ ?_
          clear hK K
          (try simp only [Act.put, List.setIfInBounds_toArray, List.set_cons_zero, List.set_cons_succ])
          exact (hG _ _ _ _).1 hs11010011000
        · go_simp
          refine hK _ _ ?_
          clear hK K
          (try simp only [Act.put, List.setIfInBounds_toArray, List.set_cons_zero, List.set_cons_succ])
          exact (hG _ _ _ _).1 hs10110011000
      have hs01111000000 : G 7 #[false, true, true, true, true, false, false, false, false, false, false] { tmps := #[.slice A n c, undef, .slice none 0 0, .pointer (some ⟨w.heap.size + 1, 0, none⟩), .pointer (some ⟨wl.heap.size, 0, none⟩), .int .i64 (y : Int), .slice A n c, .int .i64 (n : Int), .int .i64 (n1 : Int), .slice (some ⟨w.heap.size, 0, none⟩) n1 n1, .slice A n c, .int .i64 (n : Int), .int .i64 (k : Int), .bool true, .int .i64 (k : Int), .slice A n c, .int .i64 (k : Int), .func (.func 60) #[] #[.pointer (some ⟨wl.heap.size + 1, 0, none⟩), .pointer (some ⟨wl.heap.size + 2, 0, none⟩)], .int .i64 (y : Int), u 19, .int .i64 (y : Int), .slice (some ⟨w.heap.size, 0, none⟩) n1 n1, .int .i64 (y : Int), .pointer (some ⟨w.heap.size, y, none⟩), u 24, u 25, u 26, u 27, u 28, u 29, undef], defers := [] } U1 := by
        refine (hG _ _ _ _).2 ?_
        refine wpAnyIn_ready (rs := [0, 5, 6]) (by kernel_rfl) (by simp) ?_
        refine AllReadyIn.cons rfl (fun K hK => ?_) (AllReadyIn.cons rfl (fun K hK => ?_) (AllReadyIn.cons rfl (fun K hK => ?_) (AllReadyIn.nil)))
        · go_simp
          refine hK _ _ ?_
          clear hK K
          (try simp only [Act.put, List.setIfInBounds_toArray, List.set_cons_zero, List.set_cons_succ])
          exact (hG _ _ _ _).1 hs11111000000
        · go_simp
          refine hK _ _ ?_
          clear hK K
          (try simp only [Act.put, List.setIfInBounds_toArray, List.set_cons_zero, List.set_cons_succ])
          exact (hG _ _ _ _).1 hs01111100000
        · go_simp
          refine hK _ _ ?_
          clear hK K
          (try simp only [Act.put, List.setIfInBounds_toArray, List.set_cons_zero, List.set_cons_succ])
          exact (hG _ _ _ _).1 hs01111010000
      have hs01110010000 : G 7 #[false, true, true, true, false, false, true, false, false, false, false] { tmps := #[.slice A n c, undef, .slice none 0 0, .pointer (some ⟨w.heap.size + 1, 0, none⟩), .pointer (some ⟨wl.heap.size, 0, none⟩), .int .i64 (y : Int), .slice A n c, .int .i64 (n : Int), .int .i64 (n1 : Int), .slice (some ⟨w.heap.size, 0, none⟩) n1 n1, .slice A n c, .int .i64 (n : Int), .int .i64 (k : Int), .bool true, .int .i64 (k : Int), .slice A n c, .int .i64 (k : Int), .func (.func 60) #[] #[.pointer (some ⟨wl.heap.size + 1, 0, none⟩), .pointer (some ⟨wl.heap.size + 2, 0, none⟩)], .int .i64 (y : Int), u 19, .int .i64 (y : Int), .slice (some ⟨w.heap.size, 0, none⟩) n1 n1, .int .i64 (y : Int), u 23, u 24, .int .i64 (k : Int), u 26, u 27, u 28, u 29, undef], defers := [] } U1 := by
        refine (hG _ _ _ _).2 ?_
        refine wpAnyIn_ready (rs := [0, 4, 7]) (by kernel_rfl) (by simp) ?_
        refine AllReadyIn.cons rfl (fun K hK => ?_) (AllReadyIn.cons rfl (fun K hK => ?_) (AllReadyIn.cons rfl (fun K hK => ?_) (AllReadyIn.nil)))
        · go_simp
          refine hK _ _ ?_
          clear hK K
          (try simp only [Act.put, List.setIfInBounds_toArray, List.set_cons_zero, List.set_cons_succ])
          exact (hG _ _ _ _).1 hs11110010000
        · go_simp
          refine hK _ _ ?_
          clear hK K
          (try simp only [Act.put, List.setIfInBounds_toArray, List.set_cons_zero, List.set_cons_succ])
          exact (hG _ _ _ _).1 hs01111010000
        · go_simp
          refine hK _ _ ?_
          clear hK K
          (try simp only [Act.put, List.setIfInBounds_toArray, List.set_cons_zero, List.set_cons_succ])
          exact (hG _ _ _ _).1 hs01110011000
      have hs01100011000 : G 7 #[false, true, true, false, false, false, true, true, false, false, false] { tmps := #[.slice A n c, undef, .slice none 0 0, .pointer (some ⟨w.heap.size + 1, 0, none⟩), .pointer (some ⟨wl.heap.size, 0, none⟩), .int .i64 (y : Int), .slice A n c, .int .i64 (n : Int), .int .i64 (n1 : Int), .slice (some ⟨w.heap.size, 0, none⟩) n1 n1, .slice A n c, .int .i64 (n : Int), .int .i64 (k : Int), .bool true, .int .i64 (k : Int), .slice A n c, .int .i64 (k : Int), .func (.func 60) #[] #[.pointer (some ⟨wl.heap.size + 1, 0, none⟩), .pointer (some ⟨wl.heap.size + 2, 0, none⟩)], .int .i64 (y : Int), u 19, .int .i64 (y : Int), .slice (some ⟨w.heap.size, 0, none⟩) n1 n1, u 22, u 23, u 24, .int .i64 (k : Int), .slice (some ⟨U1.heap.size, 0, none⟩) 1 1, u 27, u 28, u 29, undef], defers := [] } (U1.alloc (.cells #[.int .i64 (k : Int)] 3)) := by
        refine (hG _ _ _ _).2 ?_
        refine wpAnyIn_ready (rs := [0, 3]) (by kernel_rfl) (by simp) ?_
        refine AllReadyIn.cons rfl (fun K hK => ?_) (AllReadyIn.cons rfl (fun K hK => ?_) (AllReadyIn.nil))
        · go_simp
          refine hK _ _ ?_
          clear hK K
          (try simp only [Act.put, List.setIfInBounds_toArray, List.set_cons_zero, List.set_cons_succ])
          exact (hG _ _ _ _).1 hs11100011000
        · go_simp
          refine hK _ _ ?_
          clear hK K
          (try simp only [Act.put, List.setIfInBounds_toArray, List.set_cons_zero, List.set_cons_succ])
          exact (hG _ _ _ _).1 hs01110011000
      have hs01010011000 : G 7 #[false, true, false, true, false, false, true, true, false, false, false] { tmps := #[.slice A n c, undef, .slice none 0 0, .pointer (some ⟨w.heap.size + 1, 0, none⟩), .pointer (some ⟨wl.heap.size, 0, none⟩), .int .i64 (y : Int), .slice A n c, .int .i64 (n : Int), .int .i64 (n1 : Int), .slice (some ⟨w.heap.size, 0, none⟩) n1 n1, .slice A n c, .int .i64 (n : Int), .int .i64 (k : Int), .bool true, .int .i64 (k : Int), .slice A n c, .int .i64 (k : Int), .func (.func 60) #[] #[.pointer (some ⟨wl.heap.size + 1, 0, none⟩), .pointer (some ⟨wl.heap.size + 2, 0, none⟩)], .int .i64 (y : Int), u 19, .int .i64 (y : Int), u 21, .int .i64 (y : Int), u 23, u 24, .int .i64 (k : Int), .slice (some ⟨U1.heap.size, 0, none⟩) 1 1, u 27, u 28, u 29, undef], defers := [] } (U1.alloc (.cells #[.int .i64 (k : Int)] 3)) := by
        refine (hG _ _ _ _).2 ?_
        refine wpAnyIn_ready (rs := [0, 2]) (by kernel_rfl) (by simp) ?_
        refine AllReadyIn.cons rfl (fun K hK => ?_) (AllReadyIn.cons rfl (fun K hK => ?_) (AllReadyIn.nil))
        · go_simp
          refine hK _ _ ?_
          clear hK K
          (try simp only [Act.put, List.setIfInBounds_toArray, List.set_cons_zero, List.set_cons_succ])
          exact (hG _ _ _ _).1 hs11010011000
        · go_simp
          refine hK _ _ ?_
          clear hK K
          (try simp only [Act.put, List.setIfInBounds_toArray, List.set_cons_zero, List.set_cons_succ])
          exact (hG _ _ _ _).1 hs01110011000
      have hs00111100000 : G 7 #[false, false, true, true, true, true, false, false, false, false, false] { tmps := #[.slice A n c, undef, .slice none 0 0, .pointer (some ⟨w.heap.size + 1, 0, none⟩), .pointer (some ⟨wl.heap.size, 0, none⟩), .int .i64 (y : Int), .slice A n c, .int .i64 (n : Int), .int .i64 (n1 : Int), .slice (some ⟨w.heap.size, 0, none⟩) n1 n1, .slice A n c, .int .i64 (n : Int), .int .i64 (k : Int), .bool true, .int .i64 (k : Int), .slice A n c, .int .i64 (k : Int), .func (.func 60) #[] #[.pointer (some ⟨wl.heap.size + 1, 0, none⟩), .pointer (some ⟨wl.heap.size + 2, 0, none⟩)], .int .i64 (y : Int), u 19, u 20, .slice (some ⟨w.heap.size, 0, none⟩) n1 n1, .int .i64 (y : Int), .pointer (some ⟨w.heap.size, y, none⟩), .slice A0 m c0, u 25, u 26, u 27, u 28, u 29, undef], defers := [] } U1 := by
        refine (hG _ _ _ _).2 ?_
        refine wpAnyIn_ready (rs := [0, 1, 6]) (by kernel_rfl) (by simp) ?_
        refine AllReadyIn.cons rfl (fun K hK => ?_) (AllReadyIn.cons rfl (fun K hK => ?_) (AllReadyIn.cons rfl (fun K hK => ?_) (AllReadyIn.nil)))
        · go_simp
          refine hK _ _ ?_
          clear hK K
          (try simp only [Act.put, List.setIfInBounds_toArray, List.set_cons_zero, List.set_cons_succ])
          exact (hG _ _ _ _).1 hs10111100000
        · go_simp
          refine hK _ _ ?_
          clear hK K
          (try simp only [Act.put, List.setIfInBounds_toArray, List.set_cons_zero, List.set_cons_succ])
          exact (hG _ _ _ _).1 hs01111100000
        · go_simp
          refine hK _ _ ?_
          clear hK K
          (try simp only [Act.put, List.setIfInBounds_toArray, List.set_cons_zero, List.set_cons_succ])
          exact (hG _ _ _ _).1 hs00111110000
      have hs00111010000 : G 7 #[false, false, true, true, true, false, true, false, false, false, false] { tmps := #[.slice A n c, undef, .slice none 0 0, .pointer (some ⟨w.heap.size + 1, 0, none⟩), .pointer (some ⟨wl.heap.size, 0, none⟩), .int .i64 (y : Int), .slice A n c, .int .i64 (n : Int), .int .i64 (n1 : Int), .slice (some ⟨w.heap.size, 0, none⟩) n1 n1, .slice A n c, .int .i64 (n : Int), .int .i64 (k : Int), .bool true, .int .i64 (k : Int), .slice A n c, .int .i64 (k : Int), .func (.func 60) #[] #[.pointer (some ⟨wl.heap.size + 1, 0, none⟩), .pointer (some ⟨wl.heap.size + 2, 0, none⟩)], .int .i64 (y : Int), u 19, u 20, .slice (some ⟨w.heap.size, 0, none⟩) n1 n1, .int .i64 (y : Int), .pointer (some ⟨w.heap.size, y, none⟩), u 24, .int .i64 (k : Int), u 26, u 27, u 28, u 29, undef], defers := [] } U1 := by
        refine (hG _ _ _ _).2 ?_
        refine wpAnyIn_ready (rs := [0, 1, 5, 7]) (by kernel_rfl) (by simp) ?_
        refine AllReadyIn.cons rfl (fun K hK => ?_) (AllReadyIn.cons rfl (fun K hK => ?_) (AllReadyIn.cons rfl (fun K hK => ?_) (AllReadyIn.cons rfl (fun K hK => ?_) (AllReadyIn.nil))))
        · go_simp
          refine hK _ _ ?_
          clear hK K
          (try simp only [Act.put, List.setIfInBounds_toArray, List.set_cons_zero, List.set_cons_succ])
          exact (hG _ _ _ _).1 hs10111010000
        · go_simp
          refine hK _ _ ?_
          clear hK K
          (try simp only [Act.put, List.setIfInBounds_toArray, List.set_cons_zero, List.set_cons_succ])
          exact (hG _ _ _ _).1 hs01111010000
        · go_simp
          refine hK _ _ ?_
          clear hK K
          (try simp only [Act.put, List.setIfInBounds_toArray, List.set_cons_zero, List.set_cons_succ])
          exact (hG _ _ _ _).1 hs00111110000
        · go_simp
          refine hK _ _ ?_
          clear hK K
          (try simp only [Act.put, List.setIfInBounds_toArray, List.set_cons_zero, List.set_cons_succ])
          exact (hG _ _ _ _).1 hs00111011000
      have hs00110011000 : G 7 #[false, false, true, true, false, false, true, true, false, false, false] { tmps := #[.slice A n c, undef, .slice none 0 0, .pointer (some ⟨w.heap.size + 1, 0, none⟩), .pointer (some ⟨wl.heap.size, 0, none⟩), .int .i64 (y : Int), .slice A n c, .int .i64 (n : Int), .int .i64 (n1 : Int), .slice (some ⟨w.heap.size, 0, none⟩) n1 n1, .slice A n c, .int .i64 (n : Int), .int .i64 (k : Int), .bool true, .int .i64 (k : Int), .slice A n c, .int .i64 (k : Int), .func (.func 60) #[] #[.pointer (some ⟨wl.heap.size + 1, 0, none⟩), .pointer (some ⟨wl.heap.size + 2, 0, none⟩)], .int .i64 (y : Int), u 19, u 20, .slice (some ⟨w.heap.size, 0, none⟩) n1 n1, .int .i64 (y : Int), u 23, u 24, .int .i64 (k : Int), .slice (some ⟨U1.heap.size, 0, none⟩) 1 1, u 27, u 28, u 29, undef], defers := [] } (U1.alloc (.cells #[.int .i64 (k : Int)] 3)) := by
        refine (hG _ _ _ _).2 ?_
        refine wpAnyIn_ready (rs := [0, 1, 4]) (by kernel_rfl) (by simp) ?_
        refine AllReadyIn.cons rfl (fun K hK => ?_) (AllReadyIn.cons rfl (fun K hK => ?_) (AllReadyIn.cons rfl (fun K hK => ?_) (AllReadyIn.nil)))
        · go_simp
          refine hK _ _ ?_
          clear hK K
          (try simp only [Act.put, List.setIfInBounds_toArray, List.set_cons_zero, List.set_cons_succ])
          exact (hG _ _ _ _).1 hs10110011000
        · go_simp
          refine hK _ _ ?_
          clear hK K
          (try simp only [Act.put, List.setIfInBounds_toArray, List.set_cons_zero, List.set_cons_succ])
          exact (hG _ _ _ _).1 hs01110011000
        · go_simp
          refine hK _ _ ?_
          clear hK K
          (try simp only [Act.put, List.setIfInBounds_toArray, List.set_cons_zero, List.set_cons_succ])
          exact (hG _ _ _ _).1 hs00111011000
      have hs11100000000 : G 8 #[true, true, true, false, false, false, false, false, false, false, false] { tmps := #[.slice A n c, undef, .slice none 0 0, .pointer (some ⟨w.heap.size + 1, 0, none⟩), .pointer (some ⟨wl.heap.size, 0, none⟩), .int .i64 (y : Int), .slice A n c, .int .i64 (n : Int), .int .i64 (n1 : Int), .slice (some ⟨w.heap.size, 0, none⟩) n1 n1, .slice A n c, .int .i64 (n : Int), .int .i64 (k : Int), .bool true, .int .i64 (k : Int), .slice A n c, .int .i64 (k : Int), .func (.func 60) #[] #[.pointer (some ⟨wl.heap.size + 1, 0, none⟩), .pointer (some ⟨wl.heap.size + 2, 0, none⟩)], .int .i64 (y : Int), .slice (some ⟨w.heap.size, 0, none⟩) n1 n1, .int .i64 (y : Int), .slice (some ⟨w.heap.size, 0, none⟩) n1 n1, u 22, u 23, u 24, u 25, u 26, u 27, u 28, u 29, undef], defers := [] } U1 := by
        refine (hG _ _ _ _).2 ?_
        refine wpAnyIn_ready (rs := [3, 6]) (by kernel_rfl) (by simp) ?_
        refine AllReadyIn.cons rfl (fun K hK => ?_) (AllReadyIn.cons rfl (fun K hK => ?_) (AllReadyIn.nil))
        · go_simp
          refine hK _ _ ?_
          clear hK K
          (try simp only [Act.put, List.setIfInBounds_toArray, List.set_cons_zero, List.set_cons_succ])
          exact (hG _ _ _ _).1 hs11110000000
        · go_simp
          refine hK _ _ ?_
          clear hK K
          (try simp only [Act.put, List.setIfInBounds_toArray, List.set_cons_zero, List.set_cons_succ])
          exact (hG _ _ _ _).1 hs11100010000
      have hs11010000000 : G 8 #[true, true, false, true, false, false, false, false, false, false, false] { tmps := #[.slice A n c, undef, .slice none 0 0, .pointer (some ⟨w.heap.size + 1, 0, none⟩), .pointer (some ⟨wl.heap.size, 0, none⟩), .int .i64 (y : Int), .slice A n c, .int .i64 (n : Int), .int .i64 (n1 : Int), .slice (some ⟨w.heap.size, 0, none⟩) n1 n1, .slice A n c, .int .i64 (n : Int), .int .i64 (k : Int), .bool true, .int .i64 (k : Int), .slice A n c, .int .i64 (k : Int), .func (.func 60) #[] #[.pointer (some ⟨wl.heap.size + 1, 0, none⟩), .pointer (some ⟨wl.heap.size + 2, 0, none⟩)], .int .i64 (y : Int), .slice (some ⟨w.heap.size, 0, none⟩) n1 n1, .int .i64 (y : Int), u 21, .int .i64 (y : Int), u 23, u 24, u 25, u 26, u 27, u 28, u 29, undef], defers := [] } U1 := by
        refine (hG _ _ _ _).2 ?_
        refine wpAnyIn_ready (rs := [2, 6]) (by kernel_rfl) (by simp) ?_
        refine AllReadyIn.cons rfl (fun K hK => ?_) (AllReadyIn.cons rfl (fun K hK => ?_) (AllReadyIn.nil))
        · go_simp
          refine hK _ _ ?_
          clear hK K
          (try simp only [Act.put, List.setIfInBounds_toArray, List.set_cons_zero, List.set_cons_succ])
          exact (hG _ _ _ _).1 hs11110000000
        · go_simp
          refine hK _ _ ?_
          clear hK K
          (try simp only [Act.put, List.setIfInBounds_toArray, List.set_cons_zero, List.set_cons_succ])
          exact (hG _ _ _ _).1 hs11010010000
      have hs11000010000 : G 8 #[true, true, false, false, false, false, true, false, false, false, false] { tmps := #[.slice A n c, undef, .slice none 0 0, .pointer (some ⟨w.heap.size + 1, 0, none⟩), .pointer (some ⟨wl.heap.size, 0, none⟩), .int .i64 (y : Int), .slice A n c, .int .i64 (n : Int), .int .i64 (n1 : Int), .slice (some ⟨w.heap.size, 0, none⟩) n1 n1, .slice A n c, .int .i64 (n : Int), .int .i64 (k : Int), .bool true, .int .i64 (k : Int), .slice A n c, .int .i64 (k : Int), .func (.func 60) #[] #[.pointer (some ⟨wl.heap.size + 1, 0, none⟩), .pointer (some ⟨wl.heap.size + 2, 0, none⟩)], .int .i64 (y : Int), .slice (some ⟨w.heap.size, 0, none⟩) n1 n1, .int .i64 (y : Int), u 21, u 22, u 23, u 24, .int .i64 (k : Int), u 26, u 27, u 28, u 29, undef], defers := [] } U1 := by
        refine (hG _ _ _ _).2 ?_
        refine wpAnyIn_ready (rs := [2, 3, 7]) (by kernel_rfl) (by simp) ?_
        refine AllReadyIn.cons rfl (fun K hK => ?_) (AllReadyIn.cons rfl (fun K hK => ?_) (AllReadyIn.cons rfl (fun K hK => ?_) (AllReadyIn.nil)))
        · go_simp
          refine hK _ _ ?_
          clear hK K
          (try simp only [Act.put, List.setIfInBounds_toArray, List.set_cons_zero, List.set_cons_succ])
          exact (hG _ _ _ _).1 hs11100010000
        · go_simp
          refine hK _ _ ?_
          clear hK K
          (try simp only [Act.put, List.setIfInBounds_toArray, List.set_cons_zero, List.set_cons_succ])
          exact (hG _ _ _ _).1 hs11010010000
        · go_simp
          refine hK _ _ ?_
          clear hK K
          (try simp only [Act.put, List.setIfInBounds_toArray, List.set_cons_zero, List.set_cons_succ])
          exact (hG _ _ _ _).1 hs11000011000
      have hs10110000000 : G 8 #[true, false, true, true, false, false, false, false, false, false, false] { tmps := #[.slice A n c, undef, .slice none 0 0, .pointer (some ⟨w.heap.size + 1, 0, none⟩), .pointer (some ⟨wl.heap.size, 0, none⟩), .int .i64 (y : Int), .slice A n c, .int .i64 (n : Int), .int .i64 (n1 : Int), .slice (some ⟨w.heap.size, 0, none⟩) n1 n1, .slice A n c, .int .i64 (n : Int), .int .i64 (k : Int), .bool true, .int .i64 (k : Int), .slice A n c, .int .i64 (k : Int), .func (.func 60) #[] #[.pointer (some ⟨wl.heap.size + 1, 0, none⟩), .pointer (some ⟨wl.heap.size + 2, 0, none⟩)], .int .i64 (y : Int), .slice (some ⟨w.heap.size, 0, none⟩) n1 n1, u 20, .slice (some ⟨w.heap.size, 0, none⟩) n1 n1, .int .i64 (y : Int), u 23, u 24, u 25, u 26, u 27, u 28, u 29, undef], defers := [] } U1 := by
        refine (hG _ _ _ _).2 ?_
        refine wpAnyIn_ready (rs := [1, 4, 6]) (by kernel_rfl) (by simp) ?_
        refine AllReadyIn.cons rfl (fun K hK => ?_) (AllReadyIn.cons rfl (fun K hK => ?_) (AllReadyIn.cons rfl (fun K hK => ?_) (AllReadyIn.nil)))
        · go_simp
          refine hK _ _ ?_
          clear hK K
          (try simp only [Act.put, List.setIfInBounds_toArray, List.set_cons_zero, List.set_cons_succ])
          exact (hG _ _ _ _).1 hs11110000000
        · go_simp
          refine hK _ _ ?_
          clear hK K
          (try simp only [Act.put, List.setIfInBounds_toArray, List.set_cons_zero, List.set_cons_succ])
          exact (hG _ _ _ _).1 hs10111000000
        · go_simp
          refine hK _ _ ?_
          clear hK K
          (try simp only [Act.put, List.setIfInBounds_toArray, List.set_cons_zero, List.set_cons_succ])
          exact (hG _ _ _ _).1 hs10110010000
      have hs10100010000 : G 8 #[true, false, true, false, false, false, true, false, false, false, false] { tmps := #[.slice A n c, undef, .slice none 0 0, .pointer (some ⟨w.heap.size + 1, 0, none⟩), .pointer (some ⟨wl.heap.size, 0, none⟩), .int .i64 (y : Int), .slice A n c, .int .i64 (n : Int), .int .i64 (n1 : Int), .slice (some ⟨w.heap.size, 0, none⟩) n1 n1, .slice A n c, .int .i64 (n : Int), .int .i64 (k : Int), .bool true, .int .i64 (k : Int), .slice A n c, .int .i64 (k : Int), .func (.func 60) #[] #[.pointer (some ⟨wl.heap.size + 1, 0, none⟩), .pointer (some ⟨wl.heap.size + 2, 0, none⟩)], .int .i64 (y : Int), .slice (some ⟨w.heap.size, 0, none⟩) n1 n1, u 20, .slice (some ⟨w.heap.size, 0, none⟩) n1 n1, u 22, u 23, u 24, .int .i64 (k : Int), u 26, u 27, u 28, u 29, undef], defers := [] } U1 := by
        refine (hG _ _ _ _).2 ?_
        refine wpAnyIn_ready (rs := [1, 3, 7]) (by kernel_rfl) (by simp) ?_
        refine AllReadyIn.cons rfl (fun K hK => ?_) (AllReadyIn.cons rfl (fun K hK => ?_) (AllReadyIn.cons rfl (fun K hK => ?_) (AllReadyIn.nil)))
        · go_simp
          refine hK _ _ ?_
          clear hK K
          (try simp only [Act.put, List.setIfInBounds_toArray, List.set_cons_zero, List.set_cons_succ])
          exact (hG _ _ _ _).1 hs11100010000
        · go_simp
          refine hK _ _ ?_
          clear hK K
          (try simp only [Act.put, List.setIfInBounds_toArray, List.set_cons_zero, List.set_cons_succ])
          exact (hG _ _ _ _).1 hs10110010000
        · go_simp
          refine hK _ _ ?_
          clear hK K
          (try simp only [Act.put, List.setIfInBounds_toArray, List.set_cons_zero, List.set_cons_succ])
          exact (hG _ _ _ _).1 hs10100011000
      have hs10010010000 : G 8 #[true, false, false, true, false, false, true, false, false, false, false] { tmps := #[.slice A n c, undef, .slice none 0 0, .pointer (some ⟨w.heap.size + 1, 0, none⟩), .pointer (some ⟨wl.heap.size, 0, none⟩), .int .i64 (y : Int), .slice A n c, .int .i64 (n : Int), .int .i64 (n1 : Int), .slice (some ⟨w.heap.size, 0, none⟩) n1 n1, .slice A n c, .int .i64 (n : Int), .int .i64 (k : Int), .bool true, .int .i64 (k : Int), .slice A n c, .int .i64 (k : Int), .func (.func 60) #[] #[.pointer (some ⟨wl.heap.size + 1, 0, none⟩), .pointer (some ⟨wl.heap.size + 2, 0, none⟩)], .int .i64 (y : Int), .slice (some ⟨w.heap.size, 0, none⟩) n1 n1, u 20, u 21, .int .i64 (y : Int), u 23, u 24, .int .i64 (k : Int), u 26, u 27, u 28, u 29, undef], defers := [] } U1 := by
        refine (hG _ _ _ _).2 ?_
        refine wpAnyIn_ready (rs := [1, 2, 7]) (by kernel_rfl) (by simp) ?_
        refine AllReadyIn.cons rfl (fun K hK => ?_) (AllReadyIn.cons rfl (fun K hK => ?_) (AllReadyIn.cons rfl (fun K hK => ?_) (AllReadyIn.nil)))
        · go_simp
          refine hK _ _ ?_
          clear hK K
          (try simp only [Act.put, List.setIfInBounds_toArray, List.set_cons_zero, List.set_cons_succ])
          exact (hG _ _ _ _).1 hs11010010000
        · go_simp
          refine hK _ _ ?_
          clear hK K
          (try simp only [Act.put, List.setIfInBounds_toArray, List.set_cons_zero, List.set_cons_succ])
          exact (hG _ _ _ _).1 hs10110010000
        · go_simp
          refine hK _ _ ?_
          clear hK K
          (try simp only [Act.put, List.setIfInBounds_toArray, List.set_cons_zero, List.set_cons_succ])
          exact (hG _ _ _ _).1 hs10010011000
      have hs10000011000 : G 8 #[true, false, false, false, false, false, true, true, false, false, false] { tmps := #[.slice A n c, undef, .slice none 0 0, .pointer (some ⟨w.heap.size + 1, 0, none⟩), .pointer (some ⟨wl.heap.size, 0, none⟩), .int .i64 (y : Int), .slice A n c, .int .i64 (n : Int), .int .i64 (n1 : Int), .slice (some ⟨w.heap.size, 0, none⟩) n1 n1, .slice A n c, .int .i64 (n : Int), .int .i64 (k : Int), .bool true, .int .i64 (k : Int), .slice A n c, .int .i64 (k : Int), .func (.func 60) #[] #[.pointer (some ⟨wl.heap.size + 1, 0, none⟩), .pointer (some ⟨wl.heap.size + 2, 0, none⟩)], .int .i64 (y : Int), .slice (some ⟨w.heap.size, 0, none⟩) n1 n1, u 20, u 21, u 22, u 23, u 24, .int .i64 (k : Int), .slice (some ⟨U1.heap.size, 0, none⟩) 1 1, u 27, u 28, u 29, undef], defers := [] } (U1.alloc (.cells #[.int .i64 (k : Int)] 3)) := by
        refine (hG _ _ _ _).2 ?_
        refine wpAnyIn_ready (rs := [1, 2, 3]) (by kernel_rfl) (by simp) ?_
        refine AllReadyIn.cons rfl (fun K hK => ?_) (AllReadyIn.cons rfl (fun K hK => ?_) (AllReadyIn.cons rfl (fun K hK => ?_) (AllReadyIn.nil)))
        · go_simp
          refine hK _ _ ?_
          clear hK K
          (try simp only [Act.put, List.setIfInBounds_toArray, List.set_cons_zero, List.set_cons_succ])
          exact (hG _ _ _ _).1 hs11000011000
        · go_simp
          refine hK _ _ ?_
          clear hK K
          (try simp only [Act.put, List.setIfInBounds_toArray, List.set_cons_zero, List.set_cons_succ])
          exact (hG _ _ _ _).1 hs10100011000
        · go_simp
          refine hK _ _ ?_
          clear hK K
          (try simp only [Act.put, List.setIfInBounds_toArray, List.set_cons_zero, List.set_cons_succ])
          exact (hG _ _ _ _).1 hs10010011000
      have hs01110000000 : G 8 #[false, true, true, true, false, false, false, false, false, false, false] { tmps := #[.slice A n c, undef, .slice none 0 0, .pointer (some ⟨w.heap.size + 1, 0, none⟩), .pointer (some ⟨wl.heap.size, 0, none⟩), .int .i64 (y : Int), .slice A n c, .int .i64 (n : Int), .int .i64 (n1 : Int), .slice (some ⟨w.heap.size, 0, none⟩) n1 n1, .slice A n c, .int .i64 (n : Int), .int .i64 (k : Int), .bool true, .int .i64 (k : Int), .slice A n c, .int .i64 (k : Int), .func (.func 60) #[] #[.pointer (some ⟨wl.heap.size + 1, 0, none⟩), .pointer (some ⟨wl.heap.size + 2, 0, none⟩)], .int .i64 (y : Int), u 19, .int .i64 (y : Int), .slice (some ⟨w.heap.size, 0, none⟩) n1 n1, .int .i64 (y : Int), u 23, u 24, u 25, u 26, u 27, u 28, u 29, undef], defers := [] } U1 := by
        refine (hG _ _ _ _).2 ?_
        refine wpAnyIn_ready (rs := [0, 4, 6]) (by kernel_rfl) (by simp) ?_
        refine AllReadyIn.cons rfl (fun K hK => ?_) (AllReadyIn.cons rfl (fun K hK => ?_) (AllReadyIn.cons rfl (fun K hK => ?_) (AllReadyIn.nil)))
        · go_simp
          refine hK _ _ ?_
          clear hK K
          (try simp only [Act.put, List.setIfInBounds_toArray, List.set_cons_zero, List.set_cons_succ])
          exact (hG _ _ _ _).1 hs11110000000
        · go_simp
          refine hK _ _ ?_
          clear hK K
          (try simp only [Act.put, List.setIfInBounds_toArray, List.set_cons_zero, List.set_cons_succ])
          exact (hG _ _ _ _).1 hs01111000000
        · go_simp
          refine hK _ _ ?_
          clear hK K
          (try simp only [Act.put, List.setIfInBounds_toArray, List.set_cons_zero, List.set_cons_succ])
          exact (hG _ _ _ _).1 hs01110010000
      have hs01100010000 : G 8 #[false, true, true, false, false, false, true, false, false, false, false] { tmps := #[.slice A n c, undef, .slice none 0 0, .pointer (some ⟨w.heap.size + 1, 0, none⟩), .pointer (some ⟨wl.heap.size, 0, none⟩), .int .i64 (y : Int), .slice A n c, .int .i64 (n : Int), .int .i64 (n1 : Int), .slice (some ⟨w.heap.size, 0, none⟩) n1 n1, .slice A n c, .int .i64 (n : Int), .int .i64 (k : Int), .bool true, .int .i64 (k : Int), .slice A n c, .int .i64 (k : Int), .func (.func 60) #[] #[.pointer (some ⟨wl.heap.size + 1, 0, none⟩), .pointer (some ⟨wl.heap.size + 2, 0, none⟩)], .int .i64 (y : Int), u 19, .int .i64 (y : Int), .slice (some ⟨w.heap.size, 0, none⟩) n1 n1, u 22, u 23, u 24, .int .i64 (k : Int), u 26, u 27, u 28, u 29, undef], defers := [] } U1 := by
        refine (hG _ _ _ _).2 ?_
        refine wpAnyIn_ready (rs := [0, 3, 7]) (by kernel_rfl) (by simp) ?_
        refine AllReadyIn.cons rfl (fun K hK => ?_) (AllReadyIn.cons rfl (fun K hK => ?_) (AllReadyIn.cons rfl (fun K hK => ?_) (AllReadyIn.nil)))
        · go_simp
          refine hK _ _ ?_
          clear hK K
          (try simp only [Act.put, List.setIfInBounds_toArray, List.set_cons_zero, List.set_cons_succ])
          exact (hG _ _ _ _).1 hs11100010000
        · go_simp
          refine hK _ _ ?_
          clear hK K
          (try simp only [Act.put, List.setIfInBounds_toArray, List.set_cons_zero, List.set_cons_succ])
          exact (hG _ _ _ _).1 hs01110010000
        · go_simp
          refine hK _ _ ?_
          clear hK K
          (try simp only [Act.put, List.setIfInBounds_toArray, List.set_cons_zero, List.set_cons_succ])
          exact (hG _ _ _ _).1 hs01100011000
      have hs01010010000 : G 8 #[false, true, false, true, false, false, true, false, false, false, false] { tmps := #[.slice A n c, undef, .slice none 0 0, .pointer (some ⟨w.heap.size + 1, 0, none⟩), .pointer (some ⟨wl.heap.size, 0, none⟩), .int .i64 (y : Int), .slice A n c, .int .i64 (n : Int), .int .i64 (n1 : Int), .slice (some ⟨w.heap.size, 0, none⟩) n1 n1, .slice A n c, .int .i64 (n : Int), .int .i64 (k : Int), .bool true, .int .i64 (k : Int), .slice A n c, .int .i64 (k : Int), .func (.func 60) #[] #[.pointer (some ⟨wl.heap.size + 1, 0, none⟩), .pointer (some ⟨wl.heap.size + 2, 0, none⟩)], .int .i64 (y : Int), u 19, .int .i64 (y : Int), u 21, .int .i64 (y : Int), u 23, u 24, .int .i64 (k : Int), u 26, u 27, u 28, u 29, undef], defers := [] } U1 := by
        refine (hG _ _ _ _).2 ?_
        refine wpAnyIn_ready (rs := [0, 2, 7]) (by kernel_rfl) (by simp) ?_
        refine AllReadyIn.cons rfl (fun K hK => ?_) (AllReadyIn.cons rfl (fun K hK => ?_) (AllReadyIn.cons rfl (fun K hK => ?_) (AllReadyIn.nil)))
        · go_simp
          refine hK _ _ ?_
          clear hK K
          (try simp only [Act.put, List.setIfInBounds_toArray, List.set_cons_zero, List.set_cons_succ])
          exact (hG _ _ _ _).1 hs11010010000
        · go_simp
          refine hK _ _ ?_
          clear hK K
          (try simp only [Act.put, List.setIfInBounds_toArray, List.set_cons_zero, List.set_cons_succ])
          exact (hG _ _ _ _).1 hs01110010000
        · go_simp
          refine hK _ _ ?_
          clear hK K
          (try simp only [Act.put, List.setIfInBounds_toArray, List.set_cons_zero, List.set_cons_succ])
          exact (hG _ _ _ _).1 hs01010011000
      have hs01000011000 : G 8 #[false, true, false, false, false, false, true, true, false, false, false] { tmps := #[.slice A n c, undef, .slice none 0 0, .pointer (some ⟨w.heap.size + 1, 0, none⟩), .pointer (some ⟨wl.heap.size, 0, none⟩), .int .i64 (y : Int), .slice A n c, .int .i64 (n : Int), .int .i64 (n1 : Int), .slice (some ⟨w.heap.size, 0, none⟩) n1 n1, .slice A n c, .int .i64 (n : Int), .int .i64 (k : Int), .bool true, .int .i64 (k : Int), .slice A n c, .int .i64 (k : Int), .func (.func 60) #[] #[.pointer (some ⟨wl.heap.size + 1, 0, none⟩), .pointer (some ⟨wl.heap.size + 2, 0, none⟩)], .int .i64 (y : Int), u 19, .int .i64 (y : Int), u 21, u 22, u 23, u 24, .int .i64 (k : Int), .slice (some ⟨U1.heap.size, 0, none⟩) 1 1, u 27, u 28, u 29, undef], defers := [] } (U1.alloc (.cells #[.int .i64 (k : Int)] 3)) := by
        refine (hG _ _ _ _).2 ?_
        refine wpAnyIn_ready (rs := [0, 2, 3]) (by kernel_rfl) (by simp) ?_
        refine AllReadyIn.cons rfl (fun K hK => ?_) (AllReadyIn.cons rfl (fun K hK => ?_) (AllReadyIn.cons rfl (fun K hK => ?_) (AllReadyIn.nil)))
        · go_simp
          refine hK _ _ ?_
          clear hK K
          (try simp only [Act.put, List.setIfInBounds_toArray, List.set_cons_zero, List.set_cons_succ])
          exact (hG _ _ _ _).1 hs11000011000
        · go_simp
          refine hK _ _ ?_
          clear hK K
          (try simp only [Act.put, List.setIfInBounds_toArray, List.set_cons_zero, List.set_cons_succ])
          exact (hG _ _ _ _).1 hs01100011000
        · go_simp
          refine hK _ _ ?_
          clear hK K
          (try simp only [Act.put, List.setIfInBounds_toArray, List.set_cons_zero, List.set_cons_succ])
          exact (hG _ _ _ _).1 hs01010011000
      have hs00111000000 : G 8 #[false, false, true, true, true, false, false, false, false, false, false] { tmps := #[.slice A n c, undef, .slice none 0 0, .pointer (some ⟨w.heap.size + 1, 0, none⟩), .pointer (some ⟨wl.heap.size, 0, none⟩), .int .i64 (y : Int), .slice A n c, .int .i64 (n : Int), .int .i64 (n1 : Int), .slice (some ⟨w.heap.size, 0, none⟩) n1 n1, .slice A n c, .int .i64 (n : Int), .int .i64 (k : Int), .bool true, .int .i64 (k : Int), .slice A n c, .int .i64 (k : Int), .func (.func 60) #[] #[.pointer (some ⟨wl.heap.size + 1, 0, none⟩), .pointer (some ⟨wl.heap.size + 2, 0, none⟩)], .int .i64 (y : Int), u 19, u 20, .slice (some ⟨w.heap.size, 0, none⟩) n1 n1, .int .i64 (y : Int), .pointer (some ⟨w.heap.size, y, none⟩), u 24, u 25, u 26, u 27, u 28, u 29, undef], defers := [] } U1 := by
        refine (hG _ _ _ _).2 ?_
        refine wpAnyIn_ready (rs := [0, 1, 5, 6]) (by kernel_rfl) (by simp) ?_
        refine AllReadyIn.cons rfl (fun K hK => ?_) (AllReadyIn.cons rfl (fun K hK => ?_) (AllReadyIn.cons rfl (fun K hK => ?_) (AllReadyIn.cons rfl (fun K hK => ?_) (AllReadyIn.nil))))
        · go_simp
          refine hK _ _ ?_
          clear hK K
          (try simp only [Act.put, List.setIfInBounds_toArray, List.set_cons_zero, List.set_cons_succ])
          exact (hG _ _ _ _).1 hs10111000000
        · go_simp
          refine hK _ _ ?_
          clear hK K
          (try simp only [Act.put, List.setIfInBounds_toArray, List.set_cons_zero, List.set_cons_succ])
          exact (hG _ _ _ _).1 hs01111000000
        · go_simp
          refine hK _ _ ?_
          clear hK K
          (try simp only [Act.put, List.setIfInBounds_toArray, List.set_cons_zero, List.set_cons_succ])
          exact (hG _ _ _ _).1 hs00111100000
        · go_simp
          refine hK _ _ ?_
          clear hK K
          (try simp only [Act.put, List.setIfInBounds_toArray, List.set_cons_zero, List.set_cons_succ])
          exact (hG _ _ _ _).1 hs00111010000
      have hs00110010000 : G 8 #[false, false, true, true, false, false, true, false, false, false, false] { tmps := #[.slice A n c, undef, .slice none 0 0, .pointer (some ⟨w.heap.size + 1, 0, none⟩), .pointer (some ⟨wl.heap.size, 0, none⟩), .int .i64 (y : Int), .slice A n c, .int .i64 (n : Int), .int .i64 (n1 : Int), .slice (some ⟨w.heap.size, 0, none⟩) n1 n1, .slice A n c, .int .i64 (n : Int), .int .i64 (k : Int), .bool true, .int .i64 (k : Int), .slice A n c, .int .i64 (k : Int), .func (.func 60) #[] #[.pointer (some ⟨wl.heap.size + 1, 0, none⟩), .pointer (some ⟨wl.heap.size + 2, 0, none⟩)], .int .i64 (y : Int), u 19, u 20, .slice (some ⟨w.heap.size, 0, none⟩) n1 n1, .int .i64 (y : Int), u 23, u 24, .int .i64 (k : Int), u 26, u 27, u 28, u 29, undef], defers := [] } U1 := by
        refine (hG _ _ _ _).2 ?_
        refine wpAnyIn_ready (rs := [0, 1, 4, 7]) (by kernel_rfl) (by simp) ?_
        refine AllReadyIn.cons rfl (fun K hK => ?_) (AllReadyIn.cons rfl (fun K hK => ?_) (AllReadyIn.cons rfl (fun K hK => ?_) (AllReadyIn.cons rfl (fun K hK => ?_) (AllReadyIn.nil))))
        · go_simp
          refine hK _ _ ?_
          clear hK K
          (try simp only [Act.put, List.setIfInBounds_toArray, List.set_cons_zero, List.set_cons_succ])
          exact (hG _ _ _ _).1 hs10110010000
        · go_simp
          refine hK _ _ ?_
          clear hK K
          (try simp only [Act.put, List.setIfInBounds_toArray, List.set_cons_zero, List.set_cons_succ])
          exact (hG _ _ _ _).1 hs01110010000
        · go_simp
          refine hK _ _ ?_
          clear hK K
          (try simp only [Act.put, List.setIfInBounds_toArray, List.set_cons_zero, List.set_cons_succ])
          exact (hG _ _ _ _).1 hs00111010000
        · go_simp
          refine hK _ _ ?_
          clear hK K
          (try simp only [Act.put, List.setIfInBounds_toArray, List.set_cons_zero, List.set_cons_succ])
          exact (hG _ _ _ _).1 hs00110011000
      have hs00100011000 : G 8 #[false, false, true, false, false, false, true, true, false, false, false] { tmps := #[.slice A n c, undef, .slice none 0 0, .pointer (some ⟨w.heap.size + 1, 0, none⟩), .pointer (some ⟨wl.heap.size, 0, none⟩), .int .i64 (y : Int), .slice A n c, .int .i64 (n : Int), .int .i64 (n1 : Int), .slice (some ⟨w.heap.size, 0, none⟩) n1 n1, .slice A n c, .int .i64 (n : Int), .int .i64 (k : Int), .bool true, .int .i64 (k : Int), .slice A n c, .int .i64 (k : Int), .func (.func 60) #[] #[.pointer (some ⟨wl.heap.size + 1, 0, none⟩), .pointer (some ⟨wl.heap.size + 2, 0, none⟩)], .int .i64 (y : Int), u 19, u 20, .slice (some ⟨w.heap.size, 0, none⟩) n1 n1, u 22, u 23, u 24, .int .i64 (k : Int), .slice (some ⟨U1.heap.size, 0, none⟩) 1 1, u 27, u 28, u 29, undef], defers := [] } (U1.alloc (.cells #[.int .i64 (k : Int)] 3)) := by
        refine (hG _ _ _ _).2 ?_
        refine wpAnyIn_ready (rs := [0, 1, 3]) (by kernel_rfl) (by simp) ?_
        refine AllReadyIn.cons rfl (fun K hK => ?_) (AllReadyIn.cons rfl (fun K hK => ?_) (AllReadyIn.cons rfl (fun K hK => ?_) (AllReadyIn.nil)))
        · go_simp
          refine hK _ _ ?_
          clear hK K
          (try simp only [Act.put, List.setIfInBounds_toArray, List.set_cons_zero, List.set_cons_succ])
          exact (hG _ _ _ _).1 hs10100011000
        · go_simp
          refine hK _ _ ?_
          clear hK K
          (try simp only [Act.put, List.setIfInBounds_toArray, List.set_cons_zero, List.set_cons_succ])
          exact (hG _ _ _ _).1 hs01100011000
        · go_simp
          refine hK _ _ ?_
          clear hK K
          (try simp only [Act.put, List.setIfInBounds_toArray, List.set_cons_zero, List.set_cons_succ])
          exact (hG _ _ _ _).1 hs00110011000
      have hs00010011000 : G 8 #[false, false, false, true, false, false, true, true, false, false, false] { tmps := #[.slice A n c, undef, .slice none 0 0, .pointer (some ⟨w.heap.size + 1, 0, none⟩), .pointer (some ⟨wl.heap.size, 0, none⟩), .int .i64 (y : Int), .slice A n c, .int .i64 (n : Int), .int .i64 (n1 : Int), .slice (some ⟨w.heap.size, 0, none⟩) n1 n1, .slice A n c, .int .i64 (n : Int), .int .i64 (k : Int), .bool true, .int .i64 (k : Int), .slice A n c, .int .i64 (k : Int), .func (.func 60) #[] #[.pointer (some ⟨wl.heap.size + 1, 0, none⟩), .pointer (some ⟨wl.heap.size + 2, 0, none⟩)], .int .i64 (y : Int), u 19, u 20, u 21, .int .i64 (y : Int), u 23, u 24, .int .i64 (k : Int), .slice (some ⟨U1.heap.size, 0, none⟩) 1 1, u 27, u 28, u 29, undef], defers := [] } (U1.alloc (.cells #[.int .i64 (k : Int)] 3)) := by
        refine (hG _ _ _ _).2 ?_
        refine wpAnyIn_ready (rs := [0, 1, 2]) (by kernel_rfl) (by simp) ?_
        refine AllReadyIn.cons rfl (fun K hK => ?_) (AllReadyIn.cons rfl (fun K hK => ?_) (AllReadyIn.cons rfl (fun K hK => ?_) (AllReadyIn.nil)))
        · go_simp
          refine hK _ _ ?_
          clear hK K
          (try simp only [Act.put, List.setIfInBounds_toArray, List.set_cons_zero, List.set_cons_succ])
          exact (hG _ _ _ _).1 hs10010011000
        · go_simp
          refine hK _ _ ?_
          clear hK K
          (try simp only [Act.put, List.setIfInBounds_toArray, List.set_cons_zero, List.set_cons_succ])
          exact (hG _ _ _ _).1 hs01010011000
        · go_simp
          refine hK _ _ ?_
          clear hK K
          (try simp only [Act.put, List.setIfInBounds_toArray, List.set_cons_zero, List.set_cons_succ])
          exact (hG _ _ _ _).1 hs00110011000
      have hs11000000000 : G 9 #[true, true, false, false, false, false, false, false, false, false, false] { tmps := #[.slice A n c, undef, .slice none 0 0, .pointer (some ⟨w.heap.size + 1, 0, none⟩), .pointer (some ⟨wl.heap.size, 0, none⟩), .int .i64 (y : Int), .slice A n c, .int .i64 (n : Int), .int .i64 (n1 : Int), .slice (some ⟨w.heap.size, 0, none⟩) n1 n1, .slice A n c, .int .i64 (n : Int), .int .i64 (k : Int), .bool true, .int .i64 (k : Int), .slice A n c, .int .i64 (k : Int), .func (.func 60) #[] #[.pointer (some ⟨wl.heap.size + 1, 0, none⟩), .pointer (some ⟨wl.heap.size + 2, 0, none⟩)], .int .i64 (y : Int), .slice (some ⟨w.heap.size, 0, none⟩) n1 n1, .int .i64 (y : Int), u 21, u 22, u 23, u 24, u 25, u 26, u 27, u 28, u 29, undef], defers := [] } U1 := by
        refine (hG _ _ _ _).2 ?_
        refine wpAnyIn_ready (rs := [2, 3, 6]) (by kernel_rfl) (by simp) ?_
        refine AllReadyIn.cons rfl (fun K hK => ?_) (AllReadyIn.cons rfl (fun K hK => ?_) (AllReadyIn.cons rfl (fun K hK => ?_) (AllReadyIn.nil)))
        · go_simp
          refine hK _ _ ?_
          clear hK K
          (try simp only [Act.put, List.setIfInBounds_toArray, List.set_cons_zero, List.set_cons_succ])
          exact (hG _ _ _ _).1 hs11100000000
        · go_simp
          refine hK _ _ ?_
          clear hK K
          (try simp only [Act.put, List.setIfInBounds_toArray, List.set_cons_zero, List.set_cons_succ])
          exact (hG _ _ _ _).1 hs11010000000
        · go_simp
          refine hK _ _ ?_
          clear hK K
          (try simp only [Act.put, List.setIfInBounds_toArray, List.set_cons_zero, List.set_cons_succ])
          exact (hG _ _ _ _).1 hs11000010000
      have hs10100000000 : G 9 #[true, false, true, false, false, false, false, false, false, false, false] { tmps := #[.slice A n c, undef, .slice none 0 0, .pointer (some ⟨w.heap.size + 1, 0, none⟩), .pointer (some ⟨wl.heap.size, 0, none⟩), .int .i64 (y : Int), .slice A n c, .int .i64 (n : Int), .int .i64 (n1 : Int), .slice (some ⟨w.heap.size, 0, none⟩) n1 n1, .slice A n c, .int .i64 (n : Int), .int .i64 (k : Int), .bool true, .int .i64 (k : Int), .slice A n c, .int .i64 (k : Int), .func (.func 60) #[] #[.pointer (some ⟨wl.heap.size + 1, 0, none⟩), .pointer (some ⟨wl.heap.size + 2, 0, none⟩)], .int .i64 (y : Int), .slice (some ⟨w.heap.size, 0, none⟩) n1 n1, u 20, .slice (some ⟨w.heap.size, 0, none⟩) n1 n1, u 22, u 23, u 24, u 25, u 26, u 27, u 28, u 29, undef], defers := [] } U1 := by
        refine (hG _ _ _ _).2 ?_
        refine wpAnyIn_ready (rs := [1, 3, 6]) (by kernel_rfl) (by simp) ?_
        refine AllReadyIn.cons rfl (fun K hK => ?_) (AllReadyIn.cons rfl (fun K hK => ?_) (AllReadyIn.cons rfl (fun K hK => ?_) (AllReadyIn.nil)))
        · go_simp
          refine hK _ _ ?_
          clear hK K
          (try simp only [Act.put, List.setIfInBounds_toArray, List.set_cons_zero, List.set_cons_succ])
          exact (hG _ _ _ _).1 hs11100000000
        · go_simp
          refine hK _ _ ?_
          clear hK K
          (try simp only [Act.put, List.setIfInBounds_toArray, List.set_cons_zero, List.set_cons_succ])
          exact (hG _ _ _ _).1 hs10110000000
        · go_simp
          refine hK _ _ ?_
          clear hK K
          (try simp only [Act.put, List.setIfInBounds_toArray, List.set_cons_zero, List.set_cons_succ])
          exact (hG _ _ _ _).1 hs10100010000
      have hs10010000000 : G 9 #[true, false, false, true, false, false, false, false, false, false, false] { tmps := #[.slice A n c, undef, .slice none 0 0, .pointer (some ⟨w.heap.size + 1, 0, none⟩), .pointer (some ⟨wl.heap.size, 0, none⟩), .int .i64 (y : Int), .slice A n c, .int .i64 (n : Int), .int .i64 (n1 : Int), .slice (some ⟨w.heap.size, 0, none⟩) n1 n1, .slice A n c, .int .i64 (n : Int), .int .i64 (k : Int), .bool true, .int .i64 (k : Int), .slice A n c, .int .i64 (k : Int), .func (.func 60) #[] #[.pointer (some ⟨wl.heap.size + 1, 0, none⟩), .pointer (some ⟨wl.heap.size + 2, 0, none⟩)], .int .i64 (y : Int), .slice (some ⟨w.heap.size, 0, none⟩) n1 n1, u 20, u 21, .int .i64 (y : Int), u 23, u 24, u 25, u 26, u 27, u 28, u 29, undef], defers := [] } U1 := by
        refine (hG _ _ _ _).2 ?_
        refine wpAnyIn_ready (rs := [1, 2, 6]) (by kernel_rfl) (by simp) ?_
        refine AllReadyIn.cons rfl (fun K hK => ?_) (AllReadyIn.cons rfl (fun K hK => ?_) (AllReadyIn.cons rfl (fun K hK => ?_) (AllReadyIn.nil)))
        · go_simp
          refine hK _ _ ?_
          clear hK K
          (try simp only [Act.put, List.setIfInBounds_toArray, List.set_cons_zero, List.set_cons_succ])
          exact (hG _ _ _ _).1 hs11010000000
        · go_simp
          refine hK _ _ ?_
          clear hK K
          (try simp only [Act.put, List.setIfInBounds_toArray, List.set_cons_zero, List.set_cons_succ])
          exact (hG _ _ _ _).1 hs10110000000
        · go_simp
          refine hK _ _ ?_
          clear hK K
          (try simp only [Act.put, List.setIfInBounds_toArray, List.set_cons_zero, List.set_cons_succ])
          exact (hG _ _ _ _).1 hs10010010000
      have hs10000010000 : G 9 #[true, false, false, false, false, false, true, false, false, false, false] { tmps := #[.slice A n c, undef, .slice none 0 0, .pointer (some ⟨w.heap.size + 1, 0, none⟩), .pointer (some ⟨wl.heap.size, 0, none⟩), .int .i64 (y : Int), .slice A n c, .int .i64 (n : Int), .int .i64 (n1 : Int), .slice (some ⟨w.heap.size, 0, none⟩) n1 n1, .slice A n c, .int .i64 (n : Int), .int .i64 (k : Int), .bool true, .int .i64 (k : Int), .slice A n c, .int .i64 (k : Int), .func (.func 60) #[] #[.pointer (some ⟨wl.heap.size + 1, 0, none⟩), .pointer (some ⟨wl.heap.size + 2, 0, none⟩)], .int .i64 (y : Int), .slice (some ⟨w.heap.size, 0, none⟩) n1 n1, u 20, u 21, u 22, u 23, u 24, .int .i64 (k : Int), u 26, u 27, u 28, u 29, undef], defers := [] } U1 := by
        refine (hG _ _ _ _).2 ?_
        refine wpAnyIn_ready (rs := [1, 2, 3, 7]) (by kernel_rfl) (by simp) ?_
        refine AllReadyIn.cons rfl (fun K hK => ?_) (AllReadyIn.cons rfl (fun K hK => ?_) (AllReadyIn.cons rfl (fun K hK => ?_) (AllReadyIn.cons rfl (fun K hK => ?_) (AllReadyIn.nil))))
        · go_simp
          refine hK _ _ ?_
          clear hK K
          (try simp only [Act.put, List.setIfInBounds_toArray, List.set_cons_zero, List.set_cons_succ])
          exact (hG _ _ _ _).1 hs11000010000
        · go_simp
          refine hK _ _ ?_
          clear hK K
          (try simp only [Act.put, List.setIfInBounds_toArray, List.set_cons_zero, List.set_cons_succ])
          exact (hG _ _ _ _).1 hs10100010000
        · go_simp
          refine hK _ _ ?_
          clear hK K
          (try simp only [Act.put, List.setIfInBounds_toArray, List.set_cons_zero, List.set_cons_succ])
          exact (hG _ _ _ _).1 hs10010010000
        · go_simp
          refine hK _ _ ?_
          clear hK K
          (try simp only [Act.put, List.setIfInBounds_toArray, List.set_cons_zero, List.set_cons_succ])
          exact (hG _ _ _ _).1 hs10000011000
      have hs01100000000 : G 9 #[false, true, true, false, false, false, false, false, false, false, false] { tmps := #[.slice A n c, undef, .slice none 0 0, .pointer (some ⟨w.heap.size + 1, 0, none⟩), .pointer (some ⟨wl.heap.size, 0, none⟩), .int .i64 (y : Int), .slice A n c, .int .i64 (n : Int), .int .i64 (n1 : Int), .slice (some ⟨w.heap.size, 0, none⟩) n1 n1, .slice A n c, .int .i64 (n : Int), .int .i64 (k : Int), .bool true, .int .i64 (k : Int), .slice A n c, .int .i64 (k : Int), .func (.func 60) #[] #[.pointer (some ⟨wl.heap.size + 1, 0, none⟩), .pointer (some ⟨wl.heap.size + 2, 0, none⟩)], .int .i64 (y : Int), u 19, .int .i64 (y : Int), .slice (some ⟨w.heap.size, 0, none⟩) n1 n1, u 22, u 23, u 24, u 25, u 26, u 27, u 28, u 29, undef], defers := [] } U1 := by
        refine (hG _ _ _ _).2 ?_
        refine wpAnyIn_ready (rs := [0, 3, 6]) (by kernel_rfl) (by simp) ?_
        refine AllReadyIn.cons rfl (fun K hK => ?_) (AllReadyIn.cons rfl (fun K hK => ?_) (AllReadyIn.cons rfl (fun K hK => ?_) (AllReadyIn.nil)))
        · go_simp
          refine hK _ _ ?_
          clear hK K
          (try simp only [Act.put, List.setIfInBounds_toArray, List.set_cons_zero, List.set_cons_succ])
          exact (hG _ _ _ _).1 hs11100000000
        · go_simp
          refine hK _ _ ?_
          clear hK K
          (try simp only [Act.put, List.setIfInBounds_toArray, List.set_cons_zero, List.set_cons_succ])
          exact (hG _ _ _ _).1 hs01110000000
        · go_simp
          refine hK _ _ ?_
          clear hK K
          (try simp only [Act.put, List.setIfInBounds_toArray, List.set_cons_zero, List.set_cons_succ])
          exact (hG _ _ _ _).1 hs01100010000
      have hs01010000000 : G 9 #[false, true, false, true, false, false, false, false, false, false, false] { tmps := #[.slice A n c, undef, .slice none 0 0, .pointer (some ⟨w.heap.size + 1, 0, none⟩), .pointer (some ⟨wl.heap.size, 0, none⟩), .int .i64 (y : Int), .slice A n c, .int .i64 (n : Int), .int .i64 (n1 : Int), .slice (some ⟨w.heap.size, 0, none⟩) n1 n1, .slice A n c, .int .i64 (n : Int), .int .i64 (k : Int), .bool true, .int .i64 (k : Int), .slice A n c, .int .i64 (k : Int), .func (.func 60) #[] #[.pointer (some ⟨wl.heap.size + 1, 0, none⟩), .pointer (some ⟨wl.heap.size + 2, 0, none⟩)], .int .i64 (y : Int), u 19, .int .i64 (y : Int), u 21, .int .i64 (y : Int), u 23, u 24, u 25, u 26, u 27, u 28, u 29, undef], defers := [] } U1 := by
        refine (hG _ _ _ _).2 ?_
        refine wpAnyIn_ready (rs := [0, 2, 6]) (by kernel_rfl) (by simp) ?_
        refine AllReadyIn.cons rfl (fun K hK => ?_) (AllReadyIn.cons rfl (fun K hK => ?_) (AllReadyIn.cons rfl (fun K hK => ?_) (AllReadyIn.nil)))
        · go_simp
          refine hK _ _ ?_
          clear hK K
          (try simp only [Act.put, List.setIfInBounds_toArray, List.set_cons_zero, List.set_cons_succ])
          exact (hG _ _ _ _).1 hs11010000000
        · go_simp
          refine hK _ _ ?_
          clear hK K
          (try simp only [Act.put, List.setIfInBounds_toArray, List.set_cons_zero, List.set_cons_succ])
          exact (hG _ _ _ _).1 hs01110000000
        · go_simp
          refine hK _ _ ?_
          clear hK K
          (try simp only [Act.put, List.setIfInBounds_toArray, List.set_cons_zero, List.set_cons_succ])
          exact (hG _ _ _ _).1 hs01010010000
      have hs01000010000 : G 9 #[false, true, false, false, false, false, true, false, false, false, false] { tmps := #[.slice A n c, undef, .slice none 0 0, .pointer (some ⟨w.heap.size + 1, 0, none⟩), .pointer (some ⟨wl.heap.size, 0, none⟩), .int .i64 (y : Int), .slice A n c, .int .i64 (n : Int), .int .i64 (n1 : Int), .slice (some ⟨w.heap.size, 0, none⟩) n1 n1, .slice A n c, .int .i64 (n : Int), .int .i64 (k : Int), .bool true, .int .i64 (k : Int), .slice A n c, .int .i64 (k : Int), .func (.func 60) #[] #[.pointer (some ⟨wl.heap.size + 1, 0, none⟩), .pointer (some ⟨wl.heap.size + 2, 0, none⟩)], .int .i64 (y : Int), u 19, .int .i64 (y : Int), u 21, u 22, u 23, u 24, .int .i64 (k : Int), u 26, u 27, u 28, u 29, undef], defers := [] } U1 := by
        refine (hG _ _ _ _).2 ?_
        refine wpAnyIn_ready (rs := [0, 2, 3, 7]) (by kernel_rfl) (by simp) ?_
        refine AllReadyIn.cons rfl (fun K hK => ?_) (AllReadyIn.cons rfl (fun K hK => ?_) (AllReadyIn.cons rfl (fun K hK => ?_) (AllReadyIn.cons rfl (fun K hK => ?_) (AllReadyIn.nil))))
        · go_simp
          refine hK _ _ ?_
          clear hK K
          (try simp only [Act.put, List.setIfInBounds_toArray, List.set_cons_zero, List.set_cons_succ])
          exact (hG _ _ _ _).1 hs11000010000
        · go_simp
          refine hK _ _ ?_
          clear hK K
          (try simp only [Act.put, List.setIfInBounds_toArray, List.set_cons_zero, List.set_cons_succ])
          exact (hG _ _ _ _).1 hs01100010000
        · go_simp
          refine hK _ _ ?_
          clear hK K
          (try simp only [Act.put, List.setIfInBounds_toArray, List.set_cons_zero, List.set_cons_succ])
          exact (hG _ _ _ _).1 hs01010010000
        · go_simp
          refine hK _ _ ?_
          clear hK K
          (try simp only [Act.put, List.setIfInBounds_toArray, List.set_cons_zero, List.set_cons_succ])
          exact (hG _ _ _ _).1 hs01000011000
      have hs00110000000 : G 9 #[false, false, true, true, false, false, false, false, false, false, false] { tmps := #[.slice A n c, undef, .slice none 0 0, .pointer (some ⟨w.heap.size + 1, 0, none⟩), .pointer (some ⟨wl.heap.size, 0, none⟩), .int .i64 (y : Int), .slice A n c, .int .i64 (n : Int), .int .i64 (n1 : Int), .slice (some ⟨w.heap.size, 0, none⟩) n1 n1, .slice A n c, .int .i64 (n : Int), .int .i64 (k : Int), .bool true, .int .i64 (k : Int), .slice A n c, .int .i64 (k : Int), .func (.func 60) #[] #[.pointer (some ⟨wl.heap.size + 1, 0, none⟩), .pointer (some ⟨wl.heap.size + 2, 0, none⟩)], .int .i64 (y : Int), u 19, u 20, .slice (some ⟨w.heap.size, 0, none⟩) n1 n1, .int .i64 (y : Int), u 23, u 24, u 25, u 26, u 27, u 28, u 29, undef], defers := [] } U1 := by
        refine (hG _ _ _ _).2 ?_
        refine wpAnyIn_ready (rs := [0, 1, 4, 6]) (by kernel_rfl) (by simp) ?_
        refine AllReadyIn.cons rfl (fun K hK => ?_) (AllReadyIn.cons rfl (fun K hK => ?_) (AllReadyIn.cons rfl (fun K hK => ?_) (AllReadyIn.cons rfl (fun K hK => ?_) (AllReadyIn.nil))))
        · go_simp
          refine hK _ _ ?_
          clear hK K
          (try simp only [Act.put, List.setIfInBounds_toArray, List.set_cons_zero, List.set_cons_succ])
          exact (hG _ _ _ _).1 hs10110000000
        · go_simp
          refine hK _ _ ?_
          clear hK K
          (try simp only [Act.put, List.setIfInBounds_toArray, List.set_cons_zero, List.set_cons_succ])
          exact (hG _ _ _ _).1 hs01110000000
        · go_simp
          refine hK _ _ ?_
          clear hK K
          (try simp only [Act.put, List.setIfInBounds_toArray, List.set_cons_zero, List.set_cons_succ])
          exact (hG _ _ _ _).1 hs00111000000
        · go_simp
          refine hK _ _ ?_
          clear hK K
          (try simp only [Act.put, List.setIfInBounds_toArray, List.set_cons_zero, List.set_cons_succ])
          exact (hG _ _ _ _).1 hs00110010000
      have hs00100010000 : G 9 #[false, false, true, false, false, false, true, false, false, false, false] { tmps := #[.slice A n c, undef, .slice none 0 0, .pointer (some ⟨w.heap.size + 1, 0, none⟩), .pointer (some ⟨wl.heap.size, 0, none⟩), .int .i64 (y : Int), .slice A n c, .int .i64 (n : Int), .int .i64 (n1 : Int), .slice (some ⟨w.heap.size, 0, none⟩) n1 n1, .slice A n c, .int .i64 (n : Int), .int .i64 (k : Int), .bool true, .int .i64 (k : Int), .slice A n c, .int .i64 (k : Int), .func (.func 60) #[] #[.pointer (some ⟨wl.heap.size + 1, 0, none⟩), .pointer (some ⟨wl.heap.size + 2, 0, none⟩)], .int .i64 (y : Int), u 19, u 20, .slice (some ⟨w.heap.size, 0, none⟩) n1 n1, u 22, u 23, u 24, .int .i64 (k : Int), u 26, u 27, u 28, u 29, undef], defers := [] } U1 := by
        refine (hG _ _ _ _).2 ?_
        refine wpAnyIn_ready (rs := [0, 1, 3, 7]) (by kernel_rfl) (by simp) ?_
        refine AllReadyIn.cons rfl (fun K hK => ?_) (AllReadyIn.cons rfl (fun K hK => ?_) (AllReadyIn.cons rfl (fun K hK => ?_) (AllReadyIn.cons rfl (fun K hK => ?_) (AllReadyIn.nil))))
        · go_simp
          refine hK _ _ ?_
          clear hK K
          (try simp only [Act.put, List.setIfInBounds_toArray, List.set_cons_zero, List.set_cons_succ])
          exact (hG _ _ _ _).1 hs10100010000
        · go_simp
          refine hK _ _ ?_
          clear hK K
          (try simp only [Act.put, List.setIfInBounds_toArray, List.set_cons_zero, List.set_cons_succ])
          exact (hG _ _ _ _).1 hs01100010000
        · go_simp
          refine hK _ _ ?_
          clear hK K
          (try simp only [Act.put, List.setIfInBounds_toArray, List.set_cons_zero, List.set_cons_succ])
          exact (hG _ _ _ _).1 hs00110010000
        · go_simp
          refine hK _ _ ?_
          clear hK K
          (try simp only [Act.put, List.setIfInBounds_toArray, List.set_cons_zero, List.set_cons_succ])
          exact (hG _ _ _ _).1 hs00100011000
      have hs00010010000 : G 9 #[false, false, false, true, false, false, true, false, false, false, false] { tmps := #[.slice A n c, undef, .slice none 0 0, .pointer (some ⟨w.heap.size + 1, 0, none⟩), .pointer (some ⟨wl.heap.size, 0, none⟩), .int .i64 (y : Int), .slice A n c, .int .i64 (n : Int), .int .i64 (n1 : Int), .slice (some ⟨w.heap.size, 0, none⟩) n1 n1, .slice A n c, .int .i64 (n : Int), .int .i64 (k : Int), .bool true, .int .i64 (k : Int), .slice A n c, .int .i64 (k : Int), .func (.func 60) #[] #[.pointer (some ⟨wl.heap.size + 1, 0, none⟩), .pointer (some ⟨wl.heap.size + 2, 0, none⟩)], .int .i64 (y : Int), u 19, u 20, u 21, .int .i64 (y : Int), u 23, u 24, .int .i64 (k : Int), u 26, u 27, u 28, u 29, undef], defers := [] } U1 := by
        refine (hG _ _ _ _).2 ?_
        refine wpAnyIn_ready (rs := [0, 1, 2, 7]) (by kernel_rfl) (by simp) ?_
        refine AllReadyIn.cons rfl (fun K hK => ?_) (AllReadyIn.cons rfl (fun K hK => ?_) (AllReadyIn.cons rfl (fun K hK => ?_) (AllReadyIn.cons rfl (fun K hK => ?_) (AllReadyIn.nil))))
        · go_simp
          refine hK _ _ ?_
          clear hK K
          (try simp only [Act.put, List.setIfInBounds_toArray, List.set_cons_zero, List.set_cons_succ])
          exact (hG _ _ _ _).1 hs10010010000
        · go_simp
          refine hK _ _ ?_
          clear hK K
          (try simp only [Act.put, List.setIfInBounds_toArray, List.set_cons_zero, List.set_cons_succ])
          exact (hG _ _ _ _).1 hs01010010000
        · go_simp
          refine hK _ _ ?_
          clear hK K
          (try simp only [Act.put, List.setIfInBounds_toArray, List.set_cons_zero, List.set_cons_succ])
          exact (hG _ _ _ _).1 hs00110010000
        · go_simp
          refine hK _ _ ?_
          clear hK K
          (try simp only [Act.put, List.setIfInBounds_toArray, List.set_cons_zero, List.set_cons_succ])
          exact (hG _ _ _ _).1 hs00010011000
      have hs00000011000 : G 9 #[false, false, false, false, false, false, true, true, false, false, false] { tmps := #[.slice A n c, undef, .slice none 0 0, .pointer (some ⟨w.heap.size + 1, 0, none⟩), .pointer (some ⟨wl.heap.size, 0, none⟩), .int .i64 (y : Int), .slice A n c, .int .i64 (n : Int), .int .i64 (n1 : Int), .slice (some ⟨w.heap.size, 0, none⟩) n1 n1, .slice A n c, .int .i64 (n : Int), .int .i64 (k : Int), .bool true, .int .i64 (k : Int), .slice A n c, .int .i64 (k : Int), .func (.func 60) #[] #[.pointer (some ⟨wl.heap.size + 1, 0, none⟩), .pointer (some ⟨wl.heap.size + 2, 0, none⟩)], .int .i64 (y : Int), u 19, u 20, u 21, u 22, u 23, u 24, .int .i64 (k : Int), .slice (some ⟨U1.heap.size, 0, none⟩) 1 1, u 27, u 28, u 29, undef], defers := [] } (U1.alloc (.cells #[.int .i64 (k : Int)] 3)) := by
        refine (hG _ _ _ _).2 ?_
        refine wpAnyIn_ready (rs := [0, 1, 2, 3]) (by kernel_rfl) (by simp) ?_
        refine AllReadyIn.cons rfl (fun K hK => ?_) (AllReadyIn.cons rfl (fun K hK => ?_) (AllReadyIn.cons rfl (fun K hK => ?_) (AllReadyIn.cons rfl (fun K hK => ?_) (AllReadyIn.nil))))
        · go_simp
          refine hK _ _ ?_
          clear hK K
          (try simp only [Act.put, List.setIfInBounds_toArray, List.set_cons_zero, List.set_cons_succ])
          exact (hG _ _ _ _).1 hs10000011000
        · go_simp
          refine hK _ _ ?_
          clear hK K
          (try simp only [Act.put, List.setIfInBounds_toArray, List.set_cons_zero, List.set_cons_succ])
          exact (hG _ _ _ _).1 hs01000011000
        · go_simp
          refine hK _ _ ?_
          clear hK K
          (try simp only [Act.put, List.setIfInBounds_toArray, List.set_cons_zero, List.set_cons_succ])
          exact (hG _ _ _ _).1 hs00100011000
        · go_simp
          refine hK _ _ ?_
          clear hK K
          (try simp only [Act.put, List.setIfInBounds_toArray, List.set_cons_zero, List.set_cons_succ])
          exact (hG _ _ _ _).1 hs00010011000
      have hs10000000000 : G 10 #[true, false, false, false, false, false, false, false, false, false, false] { tmps := #[.slice A n c, undef, .slice none 0 0, .pointer (some ⟨w.heap.size + 1, 0, none⟩), .pointer (some ⟨wl.heap.size, 0, none⟩), .int .i64 (y : Int), .slice A n c, .int .i64 (n : Int), .int .i64 (n1 : Int), .slice (some ⟨w.heap.size, 0, none⟩) n1 n1, .slice A n c, .int .i64 (n : Int), .int .i64 (k : Int), .bool true, .int .i64 (k : Int), .slice A n c, .int .i64 (k : Int), .func (.func 60) #[] #[.pointer (some ⟨wl.heap.size + 1, 0, none⟩), .pointer (some ⟨wl.heap.size + 2, 0, none⟩)], .int .i64 (y : Int), .slice (some ⟨w.heap.size, 0, none⟩) n1 n1, u 20, u 21, u 22, u 23, u 24, u 25, u 26, u 27, u 28, u 29, undef], defers := [] } U1 := by
        refine (hG _ _ _ _).2 ?_
        refine wpAnyIn_ready (rs := [1, 2, 3, 6]) (by kernel_rfl) (by simp) ?_
        refine AllReadyIn.cons rfl (fun K hK => ?_) (AllReadyIn.cons rfl (fun K hK => ?_) (AllReadyIn.cons rfl (fun K hK => ?_) (AllReadyIn.cons rfl (fun K hK => ?_) (AllReadyIn.nil))))
        · go_simp
          refine hK _ _ ?_
          clear hK K
          (try simp only [Act.put, List.setIfInBounds_toArray, List.set_cons_zero, List.set_cons_succ])
          exact (hG _ _ _ _).1 hs11000000000
        · go_simp
          refine hK _ _ ?_
          clear hK K
          (try simp only [Act.put, List.setIfInBounds_toArray, List.set_cons_zero, List.set_cons_succ])
          exact (hG _ _ _ _).1 hs10100000000
        · go_simp
          refine hK _ _ ?_
          clear hK K
          (try simp only [Act.put, List.setIfInBounds_toArray, List.set_cons_zero, List.set_cons_succ])
          exact (hG _ _ _ _).1 hs10010000000
        · go_simp
          refine hK _ _ ?_
          clear hK K
          (try simp only [Act.put, List.setIfInBounds_toArray, List.set_cons_zero, List.set_cons_succ])
          exact (hG _ _ _ _).1 hs10000010000
      have hs01000000000 : G 10 #[false, true, false, false, false, false, false, false, false, false, false] { tmps := #[.slice A n c, undef, .slice none 0 0, .pointer (some ⟨w.heap.size + 1, 0, none⟩), .pointer (some ⟨wl.heap.size, 0, none⟩), .int .i64 (y : Int), .slice A n c, .int .i64 (n : Int), .int .i64 (n1 : Int), .slice (some ⟨w.heap.size, 0, none⟩) n1 n1, .slice A n c, .int .i64 (n : Int), .int .i64 (k : Int), .bool true, .int .i64 (k : Int), .slice A n c, .int .i64 (k : Int), .func (.func 60) #[] #[.pointer (some ⟨wl.heap.size + 1, 0, none⟩), .pointer (some ⟨wl.heap.size + 2, 0, none⟩)], .int .i64 (y : Int), u 19, .int .i64 (y : Int), u 21, u 22, u 23, u 24, u 25, u 26, u 27, u 28, u 29, undef], defers := [] } U1 := by
        refine (hG _ _ _ _).2 ?_
        refine wpAnyIn_ready (rs := [0, 2, 3, 6]) (by kernel_rfl) (by simp) ?_
        refine AllReadyIn.cons rfl (fun K hK => ?_) (AllReadyIn.cons rfl (fun K hK => ?_) (AllReadyIn.cons rfl (fun K hK => ?_) (AllReadyIn.cons rfl (fun K hK => ?_) (AllReadyIn.nil))))
        · go_simp
          refine hK _ _ ?_
          clear hK K
          (try simp only [Act.put, List.setIfInBounds_toArray, List.set_cons_zero, List.set_cons_succ])
          exact (hG _ _ _ _).1 hs11000000000
        · go_simp
          refine hK _ _ ?_
          clear hK K
          (try simp only [Act.put, List.setIfInBounds_toArray, List.set_cons_zero, List.set_cons_succ])
          exact (hG _ _ _ _).1 hs01100000000
        · go_simp
          refine hK _ _ ?_
          clear hK K
          (try simp only [Act.put, List.setIfInBounds_toArray, List.set_cons_zero, List.set_cons_succ])
          exact (hG _ _ _ _).1 hs01010000000
        · go_simp
          refine hK _ _ ?_
          clear hK K
          (try simp only [Act.put, List.setIfInBounds_toArray, List.set_cons_zero, List.set_cons_succ])
          exact (hG _ _ _ _).1 hs01000010000
      have hs00100000000 : G 10 #[false, false, true, false, false, false, false, false, false, false, false] { tmps := #[.slice A n c, undef, .slice none 0 0, .pointer (some ⟨w.heap.size + 1, 0, none⟩), .pointer (some ⟨wl.heap.size, 0, none⟩), .int .i64 (y : Int), .slice A n c, .int .i64 (n : Int), .int .i64 (n1 : Int), .slice (some ⟨w.heap.size, 0, none⟩) n1 n1, .slice A n c, .int .i64 (n : Int), .int .i64 (k : Int), .bool true, .int .i64 (k : Int), .slice A n c, .int .i64 (k : Int), .func (.func 60) #[] #[.pointer (some ⟨wl.heap.size + 1, 0, none⟩), .pointer (some ⟨wl.heap.size + 2, 0, none⟩)], .int .i64 (y : Int), u 19, u 20, .slice (some ⟨w.heap.size, 0, none⟩) n1 n1, u 22, u 23, u 24, u 25, u 26, u 27, u 28, u 29, undef], defers := [] } U1 := by
        refine (hG _ _ _ _).2 ?_
        refine wpAnyIn_ready (rs := [0, 1, 3, 6]) (by kernel_rfl) (by simp) ?_
        refine AllReadyIn.cons rfl (fun K hK => ?_) (AllReadyIn.cons rfl (fun K hK => ?_) (AllReadyIn.cons rfl (fun K hK => ?_) (AllReadyIn.cons rfl (fun K hK => ?_) (AllReadyIn.nil))))
        · go_simp
          refine hK _ _ ?_
          clear hK K
          (try simp only [Act.put, List.setIfInBounds_toArray, List.set_cons_zero, List.set_cons_succ])
          exact (hG _ _ _ _).1 hs10100000000
        · go_simp
          refine hK _ _ ?_
          clear hK K
          (try simp only [Act.put, List.setIfInBounds_toArray, List.set_cons_zero, List.set_cons_succ])
          exact (hG _ _ _ _).1 hs01100000000
        · go_simp
          refine hK _ _ ?_
          clear hK K
          (try simp only [Act.put, List.setIfInBounds_toArray, List.set_cons_zero, List.set_cons_succ])
          exact (hG _ _ _ _).1 hs00110000000
        · go_simp
          refine hK _ _ ?_
          clear hK K
          (try simp only [Act.put, List.setIfInBounds_toArray, List.set_cons_zero, List.set_cons_succ])
          exact (hG _ _ _ _).1 hs00100010000
      have hs00010000000 : G 10 #[false, false, false, true, false, false, false, false, false, false, false] { tmps := #[.slice A n c, undef, .slice none 0 0, .pointer (some ⟨w.heap.size + 1, 0, none⟩), .pointer (some ⟨wl.heap.size, 0, none⟩), .int .i64 (y : Int), .slice A n c, .int .i64 (n : Int), .int .i64 (n1 : Int), .slice (some ⟨w.heap.size, 0, none⟩) n1 n1, .slice A n c, .int .i64 (n : Int), .int .i64 (k : Int), .bool true, .int .i64 (k : Int), .slice A n c, .int .i64 (k : Int), .func (.func 60) #[] #[.pointer (some ⟨wl.heap.size + 1, 0, none⟩), .pointer (some ⟨wl.heap.size + 2, 0, none⟩)], .int .i64 (y : Int), u 19, u 20, u 21, .int .i64 (y : Int), u 23, u 24, u 25, u 26, u 27, u 28, u 29, undef], defers := [] } U1 := by
        refine (hG _ _ _ _).2 ?_
        refine wpAnyIn_ready (rs := [0, 1, 2, 6]) (by kernel_rfl) (by simp) ?_
        refine AllReadyIn.cons rfl (fun K hK => ?_) (AllReadyIn.cons rfl (fun K hK => ?_) (AllReadyIn.cons rfl (fun K hK => ?_) (AllReadyIn.cons rfl (fun K hK => ?_) (AllReadyIn.nil))))
        · go_simp
          refine hK _ _ ?_
          clear hK K
          (try simp only [Act.put, List.setIfInBounds_toArray, List.set_cons_zero, List.set_cons_succ])
          exact (hG _ _ _ _).1 hs10010000000
        · go_simp
          refine hK _ _ ?_
          clear hK K
          (try simp only [Act.put, List.setIfInBounds_toArray, List.set_cons_zero, List.set_cons_succ])
          exact (hG _ _ _ _).1 hs01010000000
        · go_simp
          refine hK _ _ ?_
          clear hK K
          (try simp only [Act.put, List.setIfInBounds_toArray, List.set_cons_zero, List.set_cons_succ])
          exact (hG _ _ _ _).1 hs00110000000
        · go_simp
          refine hK _ _ ?_
          clear hK K
          (try simp only [Act.put, List.setIfInBounds_toArray, List.set_cons_zero, List.set_cons_succ])
          exact (hG _ _ _ _).1 hs00010010000
      have hs00000010000 : G 10 #[false, false, false, false, false, false, true, false, false, false, false] { tmps := #[.slice A n c, undef, .slice none 0 0, .pointer (some ⟨w.heap.size + 1, 0, none⟩), .pointer (some ⟨wl.heap.size, 0, none⟩), .int .i64 (y : Int), .slice A n c, .int .i64 (n : Int), .int .i64 (n1 : Int), .slice (some ⟨w.heap.size, 0, none⟩) n1 n1, .slice A n c, .int .i64 (n : Int), .int .i64 (k : Int), .bool true, .int .i64 (k : Int), .slice A n c, .int .i64 (k : Int), .func (.func 60) #[] #[.pointer (some ⟨wl.heap.size + 1, 0, none⟩), .pointer (some ⟨wl.heap.size + 2, 0, none⟩)], .int .i64 (y : Int), u 19, u 20, u 21, u 22, u 23, u 24, .int .i64 (k : Int), u 26, u 27, u 28, u 29, undef], defers := [] } U1 := by
        refine (hG _ _ _ _).2 ?_
        refine wpAnyIn_ready (rs := [0, 1, 2, 3, 7]) (by kernel_rfl) (by simp) ?_
        refine AllReadyIn.cons rfl (fun K hK => ?_) (AllReadyIn.cons rfl (fun K hK => ?_) (AllReadyIn.cons rfl (fun K hK => ?_) (AllReadyIn.cons rfl (fun K hK => ?_) (AllReadyIn.cons rfl (fun K hK => ?_) (AllReadyIn.nil)))))
        · go_simp
          refine hK _ _ ?_
          clear hK K
          (try simp only [Act.put, List.setIfInBounds_toArray, List.set_cons_zero, List.set_cons_succ])
          exact (hG _ _ _ _).1 hs10000010000
        · go_simp
          refine hK _ _ ?_
          clear hK K
          (try simp only [Act.put, List.setIfInBounds_toArray, List.set_cons_zero, List.set_cons_succ])
          exact (hG _ _ _ _).1 hs01000010000
        · go_simp
          refine hK _ _ ?_
          clear hK K
          (try simp only [Act.put, List.setIfInBounds_toArray, List.set_cons_zero, List.set_cons_succ])
          exact (hG _ _ _ _).1 hs00100010000
        · go_simp
          refine hK _ _ ?_
          clear hK K
          (try simp only [Act.put, List.setIfInBounds_toArray, List.set_cons_zero, List.set_cons_succ])
          exact (hG _ _ _ _).1 hs00010010000
        · go_simp
          refine hK _ _ ?_
          clear hK K
          (try simp only [Act.put, List.setIfInBounds_toArray, List.set_cons_zero, List.set_cons_succ])
          exact (hG _ _ _ _).1 hs00000011000
      have hs00000000000 : G 11 #[false, false, false, false, false, false, false, false, false, false, false] { tmps := #[.slice A n c, undef, .slice none 0 0, .pointer (some ⟨w.heap.size + 1, 0, none⟩), .pointer (some ⟨wl.heap.size, 0, none⟩), .int .i64 (y : Int), .slice A n c, .int .i64 (n : Int), .int .i64 (n1 : Int), .slice (some ⟨w.heap.size, 0, none⟩) n1 n1, .slice A n c, .int .i64 (n : Int), .int .i64 (k : Int), .bool true, .int .i64 (k : Int), .slice A n c, .int .i64 (k : Int), .func (.func 60) #[] #[.pointer (some ⟨wl.heap.size + 1, 0, none⟩), .pointer (some ⟨wl.heap.size + 2, 0, none⟩)], .int .i64 (y : Int), u 19, u 20, u 21, u 22, u 23, u 24, u 25, u 26, u 27, u 28, u 29, undef], defers := [] } U1 := by
        refine (hG _ _ _ _).2 ?_
        refine wpAnyIn_ready (rs := [0, 1, 2, 3, 6]) (by kernel_rfl) (by simp) ?_
        refine AllReadyIn.cons rfl (fun K hK => ?_) (AllReadyIn.cons rfl (fun K hK => ?_) (AllReadyIn.cons rfl (fun K hK => ?_) (AllReadyIn.cons rfl (fun K hK => ?_) (AllReadyIn.cons rfl (fun K hK => ?_) (AllReadyIn.nil)))))
        · go_simp
          refine hK _ _ ?_
          clear hK K
          (try simp only [Act.put, List.setIfInBounds_toArray, List.set_cons_zero, List.set_cons_succ])
          exact (hG _ _ _ _).1 hs10000000000
        · go_simp
          refine hK _ _ ?_
          clear hK K
          (try simp only [Act.put, List.setIfInBounds_toArray, List.set_cons_zero, List.set_cons_succ])
          exact (hG _ _ _ _).1 hs01000000000
        · go_simp
          refine hK _ _ ?_
          clear hK K
          (try simp only [Act.put, List.setIfInBounds_toArray, List.set_cons_zero, List.set_cons_succ])
          exact (hG _ _ _ _).1 hs00100000000
        · go_simp
          refine hK _ _ ?_
          clear hK K
          (try simp only [Act.put, List.setIfInBounds_toArray, List.set_cons_zero, List.set_cons_succ])
          exact (hG _ _ _ _).1 hs00010000000
        · go_simp
          refine hK _ _ ?_
          clear hK K
          (try simp only [Act.put, List.setIfInBounds_toArray, List.set_cons_zero, List.set_cons_succ])
          exact (hG _ _ _ _).1 hs00000010000
      exact hs00000000000
    case done =>
      rintro R X hR h hK2
      have HS2 := Lib.hid (h.rw.to pvMEnd)
      have HG2 := Lib.hid h.gb
      have HOD : Hid (OpenR (R :: Ds) X ∧ (R :: Ds).Nodup ∧ ∀ D ∈ R :: Ds, w.heap.size + 2 ≤ D) := Lib.hid (by
        have hzy := HZY.out
        refine ⟨fun D hD => ?_, List.nodup_cons.2 ⟨fun h => ?_, HO.out.2.1⟩, fun D hD => ?_⟩
        · rcases List.mem_cons.1 hD with rfl | hD
          · exact hK2
          · exact h.op D hD
        · have := HDL.out _ h; omega
        · rcases List.mem_cons.1 hD with rfl | hD
          · omega
          · exact HO.out.2.2 D hD)
      clear h hK2
      gi_wp2
      refine ⟨?_, ?_⟩
      · rw [HINV.out]
        exact ⟨fun i => (#[undef, undef, undef, undef, .pointer (some ⟨wl.heap.size, 0, none⟩), u 5, undef, undef, undef, undef, undef, undef, undef, .bool true, .int .i64 (k : Int), .slice A n c, .int .i64 (k : Int), .func (.func 60) #[] #[.pointer (some ⟨wl.heap.size + 1, 0, none⟩), .pointer (some ⟨wl.heap.size + 1 + 1, 0, none⟩)], u 18, u 19, u 20, u 21, u 22, u 23, u 24, u 25, u 26, u 27, u 28, .int .i64 ((k + 1 : Nat) : Int), undef] : Array Value).getD i undef, R :: Ds, k + 1, rfl, HS2, HG2, HOD, hlt⟩
      · rw [HMU.out]
        show n - (intOf (.int .i64 ((k : Int) + 1))).toNat < n - (intOf (.int .i64 (k : Int))).toNat
        simp only [intOf]
        omega
  · have hkn : n = k := by omega
    subst hkn
    have t3 := HG.out.cell
    have HFN : Hid (RwSt w n1 (fun x => (pv C x).map Int.ofNat) wl) := Lib.hid (HS.out.to (by rw [pvM0]; funext x; unfold pv; rw [HN.out]))
    gi_wp2
    refine leaveR (B := w.heap.size + 2) (K := fun X => RwSt w n1 (fun x => (pv C x).map Int.ofNat) X) (fun X D hD hd hK => hK.keep (F := fun q => q ≠ D) ⟨rfl, rfl, rfl, by simp, fun q _ hq => World.putObj_heap_other hq⟩ (fun q o ho hoc e => ?_) (fun q hq => by show q ≠ D; omega)) (fun X hK => ?_) Ds wl HO.out.2.1 HO.out.2.2 HO.out.1 HFN.out
    · subst e
      rw [hd] at ho
      injection ho with ho
      subst ho
      cases hoc
    · exact ⟨_, results_tmp rfl _ _ _, _, _, rfl, hK.rdF, hK.bel⟩
end Go.Proofs.YtpkagpobobmnfaaGreatDoor
