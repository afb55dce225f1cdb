/-
  Locals.
-/
import Derived.Test.YtiaendggmamnkaaGreatDoorEAsT
import Derived.Test.YtiaendggmamnkaaGreatDoorEXe
import Derived.Laws.EntriesVeiled
namespace Go.Proofs.YtiaendggmamnkaaGreatDoor
open Go Go.RowKit Go.Shelf
attribute [local go_sem] Oper.semAt_some

/-- The table of the kinds of statements is laid. -/
structure RwA (w : World) (k : Nat) (r : Rw) : Prop where
  c0 : w.cell? ⟨0, k * 8, none⟩ = some (.bool r.nm)
  c1 : w.cell? ⟨0, k * 8 + 1, none⟩ = some (.bool r.fn)
  c2 : w.cell? ⟨0, k * 8 + 2, none⟩ = some (.bool r.od)
  c3 : w.cell? ⟨0, k * 8 + 3, none⟩ = some (.int .i64 (r.ob : Int))
  c4 : w.cell? ⟨0, k * 8 + 4, none⟩ = some (.int .i64 (r.ot : Int))
  c5 : w.cell? ⟨0, k * 8 + 5, none⟩ = some (.int .i64 (r.ex : Int))
  c6 : w.cell? ⟨0, k * 8 + 6, none⟩ = some (.bool r.bd)
  c7 : w.cell? ⟨0, k * 8 + 7, none⟩ = some (.bool r.el)
def RwsT (w : World) : Prop := ∀ k : Nat, k < 21 → RwA w k (rw16 (k : Int))
theorem RwsT.lt {w : World} (h : RwsT w) : 0 < w.heap.size := World.block_lt_of_cell? _ _ (h 0 (by omega)).c0
theorem RwsT.keep {w X : World} (h : RwsT w) (hc : X.heap[0]? = w.heap[0]?) : RwsT X := fun k hk => by
  have r := h k hk
  exact ⟨(World.cell?_of_block (by exact hc)).trans r.c0, (World.cell?_of_block (by exact hc)).trans r.c1, (World.cell?_of_block (by exact hc)).trans r.c2, (World.cell?_of_block (by exact hc)).trans r.c3, (World.cell?_of_block (by exact hc)).trans r.c4, (World.cell?_of_block (by exact hc)).trans r.c5, (World.cell?_of_block (by exact hc)).trans r.c6, (World.cell?_of_block (by exact hc)).trans r.c7⟩
theorem RwsT.below {w X : World} (h : RwsT w) (hb : Below w.heap.size w X) : RwsT X := h.keep (hb.block _ h.lt)
def fAdd (sb lb : Nat) : Value := .func (.func 58) #[] #[.pointer (some ⟨sb, 0, none⟩), .pointer (some ⟨lb, 0, none⟩)]
theorem five16 (w : World) (o1 o2 o3 o4 o5 : Obj) {Z : World} (hZ : ((((w.alloc o1).alloc o2).alloc o3).alloc o4).alloc o5 = Z) : Z.heap[w.heap.size]? = some o1 ∧ Z.heap[w.heap.size + 1]? = some o2 ∧ Z.heap[w.heap.size + 1 + 1]? = some o3 ∧ Z.heap[w.heap.size + 1 + 1 + 1]? = some o4 ∧ Z.heap[w.heap.size + 1 + 1 + 1 + 1]? = some o5 ∧ Below w.heap.size w Z ∧ Z.heap.size = w.heap.size + 5 := by
  subst hZ
  have new : ∀ (X : World) (o : Obj) (k : Nat), X.heap.size = k → (X.alloc o).heap[k]? = some o := fun X o k h => h ▸ World.alloc_heap_new X o
  have old : ∀ (X : World) (o o' : Obj) (k : Nat), X.heap[k]? = some o' → (X.alloc o).heap[k]? = some o' := fun X o o' k h => ((belowAlloc X o).block k (Array.getElem?_eq_some_iff.1 h).1).trans h
  refine ⟨old _ _ _ _ (old _ _ _ _ (old _ _ _ _ (old _ _ _ _ (new _ _ _ rfl)))), old _ _ _ _ (old _ _ _ _ (old _ _ _ _ (new _ _ _ (by simp)))), old _ _ _ _ (old _ _ _ _ (new _ _ _ (by simp))), old _ _ _ _ (new _ _ _ (by simp)), new _ _ _ (by simp), ?_, by simp⟩
  exact belowThen (belowThen (belowThen (belowThen (belowAlloc w o1) (belowAlloc _ o2)) (belowAlloc _ o3)) (belowAlloc _ o4)) (belowAlloc _ o5)
theorem mapMade {X : World} {b : Nat} (h : X.heap[b]? = some (.map #[] 0)) : MapS X b [] := by
  obtain ⟨T, ⟨es, ck, h1, h3⟩, h2⟩ := MapS.made X
  have e := (World.alloc_heap_new X (.map #[] 0)).symm.trans h1
  injection e with e
  injection e with e1 e2
  subst e1 e2
  exact ⟨T, ⟨_, _, h, h3⟩, h2⟩
theorem OwnS6.cells {w : World} {base g : Nat} {v : Value} {D : List ByteArray} (h : OwnS6 w base v D) (hg : v.ownBlock = some g) : ∃ o : Obj, w.heap[g]? = some o ∧ o.isCells = true := by
  rcases h.2 with ⟨rfl, _⟩ | ⟨k, cap, cur, rfl, _, hk, _⟩
  · simp [Value.ownBlock] at hg
  · obtain rfl : k = g := by simpa [Value.ownBlock] using hg
    exact ⟨_, hk, rfl⟩
theorem OwnS6.mono {w : World} {base b' : Nat} {v : Value} {D : List ByteArray} (h : OwnS6 w base v D) (hb : b' ≤ base) : OwnS6 w b' v D := by
  refine ⟨h.1, ?_⟩
  rcases h.2 with h2 | ⟨g, cap, cur, e, hb2, r⟩
  · exact .inl h2
  · exact .inr ⟨g, cap, cur, e, Nat.le_trans hb hb2, r⟩
theorem OwnS6.ty {w : World} {base g : Nat} {v : Value} {D : List ByteArray} (h : OwnS6 w base v D) (hg : v.ownBlock = some g) : ∃ cs fr, w.heap[g]? = some (.cells cs 9 fr) := by
  rcases h.2 with ⟨rfl, _⟩ | ⟨k, cap, cur, rfl, _, hk, _⟩
  · simp [Value.ownBlock] at hg
  · obtain rfl : k = g := by simpa [Value.ownBlock] using hg
    exact ⟨_, _, hk⟩
theorem lcFlen (D : List ByteArray) : ∀ l : List (Nat × Nat × Sm), (lcF D l).length ≤ D.length + l.length := by
  have key : ∀ (l : List (Nat × Nat × Sm)) (D : List ByteArray), (lcF D l).length ≤ D.length + l.length := by
    intro l
    induction l with
    | nil => intro D; simp [lcF]
    | cons x r ih =>
      intro D
      have h1 : (lcS D x.2.2).length ≤ D.length + 1 := by unfold lcS adL; split <;> (try split) <;> simp
      have := ih (lcS D x.2.2)
      show (lcF (lcS D x.2.2) r).length ≤ _
      rw [List.length_cons]
      omega
  exact fun l => key l D
/-- Between two rounds of Locals' range. -/
structure LcI (lb sb mb fb base B : Nat) (D : List ByteArray) (S : Nat → Prop) (v : Value) (X : World) : Prop where
  st : LcX lb sb mb base D v X
  off : ∀ g, v.ownBlock = some g → ¬ S g
  fbx : Boxed X fb 94 (fAdd sb lb)
  le : B ≤ X.heap.size
  lo : ∀ q, S q → B ≤ q ∧ q < X.heap.size
  fb_lt : fb < B
  bs : base ≤ B
theorem LcI.abides {lb sb mb fb base B : Nat} {D : List ByteArray} : AbidesS B (fun S X => ∃ v, LcI lb sb mb fb base B D S v X) := by
  rintro S A A' ⟨v, h⟩ hc
  have hl : ∀ q, q < B → ¬ S q ∧ ¬ NC A B q := fun q hq => ⟨fun e => by have := h.lo q e; omega, fun e => by have := e.1; omega⟩
  refine ⟨v, h.st.chg hc (hl _ (by have := h.st.lb_lt; have := h.bs; omega)) (hl _ (by have := h.st.sb_lt; have := h.bs; omega)) (hl _ (by have := h.st.mb_lt; have := h.bs; omega)) (fun g hg => ⟨h.off g hg, fun e => ?_⟩), fun g hg e => ?_, (hc.block _ h.fbx.lt (hl _ h.fb_lt)).trans h.fbx, Nat.le_trans h.le hc.size, fun q hq => hq.elim (fun e => by have := h.lo q e; have := hc.size; omega) fun e => by have := h.le; omega, h.fb_lt, h.bs⟩
  · obtain ⟨o, ho, hoc⟩ := h.st.row.cells hg
    obtain ⟨_, o', ho', hoc'⟩ := e
    rw [ho] at ho'
    cases ho'
    rw [hoc] at hoc'
    cases hoc'
  · rcases e with e | e
    · exact h.off g hg e
    · have := (h.st.row.lt hg).2
      omega
set_option maxRecDepth 100000 in
set_option maxHeartbeats 4000000 in
theorem iLocals16 (dx D : Nat) (p : Pc) (hp : WfP p) (Ab : Option Addr) (nb cb : Nat) (hn : p.body.length = nb) (w : World) (hT : RwsT w) (hr : RdE 9 (EM dx D) w Ab cb p.body) :
    Calls Tryz.prog 24 #[.agg #[.string p.name, .string p.param, .slice Ab nb cb]] w fun e w' => ∃ v, e = .returned v ∧ OwnS6 w' w.heap.size v (lcP p) ∧ Below w.heap.size w w' := by
  obtain ⟨W, hWd⟩ : ∃ W, ((((w.alloc (.cells #[.string p.name, .string p.param, .slice Ab nb cb] 44)).alloc (.cells #[.slice none 0 0] 23)).alloc (.map #[] 0)).alloc (.cells #[.map (some (w.heap.size + 1 + 1))] 93)).alloc (.cells #[fAdd (w.heap.size + 1 + 1 + 1) (w.heap.size + 1)] 94) = W := ⟨_, rfl⟩
  have hmm := @run_makeMap Tryz.prog
  obtain ⟨h0, h1, h2, h3, h4, hb, hz⟩ := five16 w _ _ _ _ _ hWd
  have P0 : Blk W w.heap.size 44 #[.string p.name, .string p.param, .slice Ab nb cb] := h0
  have c1 : W.cell? ⟨w.heap.size, 1, none⟩ = some (.string p.param) := P0.cell 1
  have F0 : Boxed W (w.heap.size + 1 + 1 + 1 + 1) 94 (fAdd (w.heap.size + 1 + 1 + 1) (w.heap.size + 1)) := h4
  have cf : W.cell? ⟨w.heap.size + 1 + 1 + 1 + 1, 0, none⟩ = some (fAdd (w.heap.size + 1 + 1 + 1) (w.heap.size + 1)) := F0.cell
  have L0 : LcX (w.heap.size + 1) (w.heap.size + 1 + 1 + 1) (w.heap.size + 1 + 1) W.heap.size [] (.slice none 0 0) W := ⟨h1, h3, mapMade h2, OwnS6.nil _ _, by omega, by omega, by omega, by omega, by omega, by omega⟩
  have HADD := Lib.hid (iAdd6 p.param hp.pm W L0 (by simp) (Nat.le_refl _))
  have HP := Lib.hid P0
  have HF := Lib.hid F0
  have HL := Lib.hid L0
  have HB := Lib.hid hb
  have HZ := Lib.hid hz
  have HR := Lib.hid hr
  have HT := Lib.hid hT
  have HV := Lib.hid (fun z => visSM dx D 7 (by omega) w z Ab nb cb p.body hn hr hp.body.sz (fun _ => True) (fun _ _ h => absurd trivial h))
  have HST := Lib.hid (fun X => iStatements Ab nb cb X)
  unfold fAdd at hWd cf
  have HWd := Lib.hid hWd
  clear hWd h0 h1 h2 h3 h4 hb hz P0 F0 L0 hr hT
  refine (callsIn_wide (n := 8)).1 ?_
  refine callsIn_of_wp_marks Tryz.func24 rfl trivial ?_ rfl
  simp only [Tryz.ntmps24, List.size_toArray, List.length_cons, List.length_nil, Nat.reduceAdd, Nat.reduceSub, Array.replicate_succ, Array.replicate_zero, List.push_toArray, List.append_toArray, List.nil_append, List.cons_append]
  by_cases hpe : p.param.toList = []
  · have hpm : pmL p = [] := by unfold pmL; rw [if_pos (by have := szDec p.param; rw [decide_eq_true hpe] at this; simpa using this)]
    obtain ⟨vp, hvp⟩ : ∃ vp : Value, Value.slice none 0 0 = vp := ⟨_, rfl⟩
    have LY : Hid (LcX (w.heap.size + 1) (w.heap.size + 1 + 1 + 1) (w.heap.size + 1 + 1) W.heap.size (pmL p) vp W) := by rw [hpm, ← hvp]; exact HL
    have HFY : Hid (Boxed W (w.heap.size + 1 + 1 + 1 + 1) 94 (fAdd (w.heap.size + 1 + 1 + 1) (w.heap.size + 1))) := HF
    have HBY : Hid (W.heap.size ≤ W.heap.size) := Lib.hid (Nat.le_refl _)
    have HBYw : Hid (Below w.heap.size w W) := HB
    have c2 : W.cell? ⟨w.heap.size, 2, none⟩ = some (.slice Ab nb cb) := HP.out.cell 2
    clear hpm hvp
    gi_upto_region 4 with fail
    rw [HWd.out]
    gi_wp2_with fail
    refine ⟨trivial, (callsIn_wide.2 (HST.out W)).mono ?_⟩
    rintro e V ⟨rfl, hI, hbv⟩
    have HI := Lib.hid hI
    have HVB := Lib.hid hbv
    have HVL := Lib.hid (show LcI (w.heap.size + 1) (w.heap.size + 1 + 1 + 1) (w.heap.size + 1 + 1) (w.heap.size + 1 + 1 + 1 + 1) W.heap.size V.heap.size (pmL p) (fun _ => False) vp V from ⟨LY.out.chg (Chg.ofBelow hbv fun _ => True) trivial trivial trivial (fun _ _ => trivial), fun _ _ h => h.elim, (hbv.block _ (HFY.out).lt).trans HFY.out, Nat.le_refl _, fun _ h => h.elim, by have := (HFY.out).lt; have := hbv.size; omega, by have := HBY.out; have := hbv.size; omega⟩)
    have HVW := Lib.hid (show Below w.heap.size w V from belowThen HBYw.out hbv)
    have HZV := Lib.hid (show W.heap.size + 1 < V.heap.size ∧ W.heap.size ≤ W.heap.size from ⟨hI.f.lt, HBY.out⟩)
    unfold itrM
    clear hI hbv
    gi_wp2_with fail
    refine rangeClosSA (F := Fence.wide) (n := 8) (w := V) (w0 := w) rfl (by omega) (gf := 170) (lb := #[.pointer (some ⟨W.heap.size, 0, none⟩), .pointer (some ⟨W.heap.size + 1, 0, none⟩)]) rfl trivial entVisM (Arg := fun x args _ => ArgM dx D w x args) (G := fun X => Chg w X (fun _ => True) ∧ ItrM X W.heap.size Ab nb cb) (HV.out W.heap.size) HVW.out (fun x args _ h => by obtain ⟨_, _, _, _, _, _, rfl, _⟩ := h; rfl)
      (fun A A' h hc => lowG (B := V.heap.size) (by have := HVW.out.size; omega) HZV.out.1 _ _ h (hc.mono fun q hq hn => by have := hn.1; omega)) (fun x args A A' h _ => h)
      (fun pre S X => ∃ v, LcI (w.heap.size + 1) (w.heap.size + 1 + 1 + 1) (w.heap.size + 1 + 1) (w.heap.size + 1 + 1 + 1 + 1) W.heap.size V.heap.size (lcF (pmL p) pre) S v X) (fun _ _ _ _ => False) (fun _ => LcI.abides) (fun _ _ _ _ _ h => h.elim) ⟨vp, HVL.out⟩ ⟨Chg.ofBelow HVW.out _, HI.out⟩
      (fun X args => { tmps := #[.agg #[.string p.name, .string p.param, .slice Ab nb cb], .pointer (some ⟨w.heap.size, 0, none⟩), .slice none 0 0, .pointer (some ⟨w.heap.size + 1, 0, none⟩), .pointer (some ⟨w.heap.size + 1 + 1 + 1, 0, none⟩), .pointer (some ⟨w.heap.size + 1 + 1 + 1 + 1, 0, none⟩), undef, .pointer (some ⟨X.heap.size, 0, none⟩), .map (some (w.heap.size + 1 + 1)), .func (.func 58) #[] #[.pointer (some ⟨w.heap.size + 1 + 1 + 1, 0, none⟩), .pointer (some ⟨w.heap.size + 1, 0, none⟩)], .pointer (some ⟨w.heap.size, 1, none⟩), .string p.param, .bool false, undef, undef, undef, undef, .pointer (some ⟨w.heap.size, 2, none⟩), .slice Ab nb cb, .func (.func 170) #[] #[.pointer (some ⟨W.heap.size, 0, none⟩), .pointer (some ⟨W.heap.size + 1, 0, none⟩)], args.getD 0 undef, args.getD 1 undef, undef, undef, undef, undef, undef, undef, undef, undef, undef, undef, undef, undef, undef, undef, undef], defers := [] }) (fun args X => X.alloc (.cells (agC (args.getD 1 undef)) 54)) (fun _ _ => belowAlloc _ _)
      (fun pre S args X h => ?hIa) (fun args X h => keepG h (Chg.ofBelow (belowAlloc _ _) (fun _ => True)) (fun _ _ _ => trivial) trivial trivial) (fun _ _ _ h => h) ?assign ?body ?done ?stop
    case stop => exact fun _ _ _ _ _ _ h _ _ => h.elim
    case hIa =>
      obtain ⟨v, h⟩ := h
      have hb9 := belowAlloc X (.cells (agC (args.getD 1 undef)) 54)
      exact ⟨v, h.st.chg (Chg.ofBelow hb9 fun _ => True) trivial trivial trivial (fun _ _ => trivial), h.off, (hb9.block _ h.fbx.lt).trans h.fbx, Nat.le_trans h.le hb9.size, fun q hq => by have := h.lo q hq; have := hb9.size; omega, h.fb_lt, h.bs⟩
    case assign =>
      intro lr x args X K ha hK
      obtain ⟨_, _, _, _, _, _, rfl, _⟩ := ha
      rw [zip2]
      gi_wp2
      exact hK
    case body =>
      rintro lr pre x post S args X U hL ⟨v, hI⟩ hG hA hlow ⟨o, hU⟩ hlX hlV
      obtain ⟨A6, c6, A7, c7, A8, c8, rfl, -⟩ := hA
      have hnm := hp.body.nm x (by rw [hL]; simp)
      have hlen : (lcF (pmL p) pre).length ≤ 4000001 := by
        have h9 := congrArg List.length hL
        rw [numbLen, Tr.ndsLLen, List.length_append, List.length_cons] at h9
        have h8 := lcFlen (pmL p) pre
        have h7 : (pmL p).length ≤ 1 := by unfold pmL; split <;> simp
        have := hp.body.sz
        omega
      have hsn := lcFsnoc (pmL p) pre x
      obtain ⟨num, lv, y⟩ := x
      dsimp only at hnm hsn
      have hpl : Blk U X.heap.size 54 #[.int .i64 y.val.kind, .string y.val.name, .string y.val.obj, .string y.val.other, .int .i64 y.val.fn, .int .i64 y.val.ord, .slice A6 y.val.exprs.length c6, .slice A7 y.fst.length c7, .slice A8 y.snd.length c8] := by
        rw [hU]
        exact (World.putObj_heap_other (show X.heap.size ≠ lr by omega)).trans (Blk.new X _ _)
      have p0 : U.cell? ⟨X.heap.size, 0, none⟩ = some (.int .i64 y.val.kind) := hpl.cell 0
      have p1 : U.cell? ⟨X.heap.size, 1, none⟩ = some (.string y.val.name) := hpl.cell 1
      have HKD := Lib.hid (iKind16 y.val.kind U)
      have hTU : RwsT U := HT.out.keep (hG.1.block _ HT.out.lt trivial)
      have HAD := Lib.hid (iAdd6 y.val.name hnm U hI.st hlen (Nat.le_trans hI.bs hI.le))
      have qf : U.cell? ⟨w.heap.size + 1 + 1 + 1 + 1, 0, none⟩ = some (fAdd (w.heap.size + 1 + 1 + 1) (w.heap.size + 1)) := hI.fbx.cell
      have HII := Lib.hid hI
      have HGG := Lib.hid hG
      have HSN := Lib.hid hsn
      have HLW := Lib.hid hlow
      unfold fAdd at qf
      have HEND : Hid ((lcF (pmL p) (pre ++ [(num, lv, y)]) = lcF (pmL p) pre) → ownPostG V.heap.size (fun A B => (Chg w B (fun _ => True) ∧ ItrM B W.heap.size Ab nb cb) ∧ Chg A B S) (fun q X => ∃ v, LcI (w.heap.size + 1) (w.heap.size + 1 + 1 + 1) (w.heap.size + 1 + 1) (w.heap.size + 1 + 1 + 1 + 1) W.heap.size V.heap.size (lcF (pmL p) q) S v X) (fun c q W' => False ∧ (Chg w W' (fun _ => True) ∧ ItrM W' W.heap.size Ab nb cb) ∧ Chg U W' S) (pre ++ [(num, lv, y)]) U .normal { tmps := #[], defers := [] } U) := Lib.hid fun h => ⟨KeepsFrom.refl _ _, ⟨HGG.out, Chg.refl _ _⟩, v, by rw [h]; exact HII.out⟩
      cases hk : kdOk y.val.kind
      · have hno : lcF (pmL p) (pre ++ [(num, lv, y)]) = lcF (pmL p) pre := by rw [hsn]; unfold lcS asg; rw [hk]; rfl
        have HE := Lib.hid (HEND.out hno)
        rw [hk] at HKD
        clear hI hG hsn hlow hpl hU hL hnm hlen hTU hno hk
        gi_wp2_with fail
        refine ⟨trivial, (CallsIn.inRound lr (callsIn_wide.2 HKD.out)).mono ?_⟩
        rintro e U' ⟨rfl, rfl⟩
        gi_wp2_with fail
        exact HE.out
      · obtain ⟨m, hm, hm1, hm2⟩ : ∃ m : Nat, y.val.kind = (m : Int) ∧ 1 ≤ m ∧ m ≤ 20 := by
          unfold kdOk at hk
          simp only [Bool.and_eq_true, decide_eq_true_eq] at hk
          exact ⟨y.val.kind.toNat, by omega, by omega, by omega⟩
        have hrow := (hTU m (by omega)).c0
        rw [hm] at p0 HKD
        rw [hm] at hk
        rw [hk] at HKD
        have hasg : asg y = (rw16 (m : Int)).nm := by unfold asg; rw [hm, hk]; rfl
        have hm3 : (m : Int) < 21 := by omega
        have hm4 : (0 : Int) ≤ m := by omega
        cases hnmr : (rw16 (m : Int)).nm
        · rw [hnmr] at hrow
          have hno : lcF (pmL p) (pre ++ [(num, lv, y)]) = lcF (pmL p) pre := by rw [hsn]; unfold lcS; rw [hasg, hnmr]; rfl
          have HE := Lib.hid (HEND.out hno)
          clear hI hG hsn hlow hpl hU hL hnm hlen hTU hno hk hasg hnmr hm hm1 hm2
          gi_wp2_with fail
          refine ⟨trivial, (CallsIn.inRound lr (callsIn_wide.2 HKD.out)).mono ?_⟩
          rintro e U' ⟨rfl, rfl⟩
          gi_wp2_with fail
          exact HE.out
        · rw [hnmr] at hrow
          have hyes : lcF (pmL p) (pre ++ [(num, lv, y)]) = adL y.val.name (lcF (pmL p) pre) := by rw [hsn]; unfold lcS; rw [hasg, hnmr]; rfl
          have HE := Lib.hid hyes
          clear hI hG hsn hlow hpl hU hL hnm hlen hTU hyes hk hasg hnmr hm hm1 hm2
          gi_wp2_with fail
          refine ⟨trivial, (CallsIn.inRound lr (callsIn_wide.2 HKD.out)).mono ?_⟩
          rintro e U' ⟨rfl, rfl⟩
          gi_wp2_with fail
          refine ⟨trivial, (CallsIn.inRound lr (callsIn_wide.2 HAD.out)).mono ?_⟩
          rintro e U2 ⟨rfl, v2, hL2, hC2, hO2⟩
          have hi := HII.out
          have hF : Boxed U2 (w.heap.size + 1 + 1 + 1 + 1) 94 (fAdd (w.heap.size + 1 + 1 + 1) (w.heap.size + 1)) := (hC2.block _ hi.fbx.lt ⟨by omega, by omega, fun e => by have := (hi.st.row.lt e).1; have := HZ.out; omega⟩).trans hi.fbx
          have HFIN := Lib.hid (show KeepsFrom V.heap.size U' U2 ∧ ((Chg w U2 (fun _ => True) ∧ ItrM U2 W.heap.size Ab nb cb) ∧ Chg U' U2 S) ∧ LcI (w.heap.size + 1) (w.heap.size + 1 + 1 + 1) (w.heap.size + 1 + 1) (w.heap.size + 1 + 1 + 1 + 1) W.heap.size V.heap.size (adL y.val.name (lcF (pmL p) pre)) S v2 U2 from by
            have hvz := HZV.out
            have hzz := HZ.out
            have hne1 : v.ownBlock ≠ some W.heap.size := fun e => by
              obtain ⟨cs, fr, h1⟩ := hi.st.row.ty e
              have h2 : _ = some (Obj.cells _ _ _) := HGG.out.2.l
              rw [h1] at h2
              injection h2 with h2
              injection h2 with _ h3
              exact absurd h3 (by decide)
            have hne2 : v.ownBlock ≠ some (W.heap.size + 1) := fun e => by
              obtain ⟨cs, fr, h1⟩ := hi.st.row.ty e
              have h2 : _ = some (Obj.cells _ _ _) := HGG.out.2.f
              rw [h1] at h2
              injection h2 with h2
              injection h2 with _ h3
              exact absurd h3 (by decide)
            have hvb : ∀ q, q < V.heap.size → q ≠ w.heap.size + 1 → q ≠ w.heap.size + 1 + 1 → v.ownBlock ≠ some q → U2.heap[q]? = U'.heap[q]? := fun q hq h1 h2 h3 => hC2.block q (Nat.lt_of_lt_of_le hq hi.le) ⟨h1, h2, h3⟩
            refine ⟨⟨hC2.size, fun k o hk ho hoc => (hC2.block k (Array.getElem?_eq_some_iff.1 ho).1 ⟨by omega, by omega, fun e => ?_⟩).trans ho⟩, ⟨?_, hC2.mono fun q hq => ⟨fun e => by have := HLW.out q hq; omega, fun e => by have := HLW.out q hq; omega, fun e => hi.off q e hq⟩⟩, ⟨hL2, fun g hg hs => ?_, hF, Nat.le_trans hi.le hC2.size, fun q hq => by have := hi.lo q hq; have := hC2.size; omega, hi.fb_lt, hi.bs⟩⟩
            · obtain ⟨o', ho', hoc'⟩ := hi.st.row.cells e
              rw [ho] at ho'
              cases ho'
              rw [hoc] at hoc'
              cases hoc'
            · exact keepG HGG.out hC2 (fun q hq _ => ⟨by omega, by omega, fun e => by have := (hi.st.row.lt e).1; have := HB.out.size; omega⟩) ⟨by omega, by omega, fun e => hne1 e⟩ ⟨by omega, by omega, fun e => hne2 e⟩
            · rcases hO2 g hg with e | e
              · exact hi.off g e hs
              · have := hi.lo g hs
                omega)
          clear hL2 hC2 hO2 hi hF
          gi_wp2_with fail
          exact ⟨HFIN.out.1, HFIN.out.2.1, v2, by rw [HE.out]; exact HFIN.out.2.2⟩
    case done =>
      rintro R S X hR ⟨v, hI⟩ hG hK
      obtain ⟨A1, q1, rfl⟩ := hI.st.row.sl
      have kb := hI.st.bl.cell
      have hne : ∀ g, (Value.slice A1 (lcF (pmL p) (numb 0 (Tr.ndsL 1 p.body))).length q1).ownBlock = some g → g ≠ R := fun g hg e => by
        obtain ⟨o, ho, hoc⟩ := hI.st.row.cells hg
        rw [e, hK] at ho
        cases ho
        cases hoc
      have hput : ∀ o', Chg X (X.putObj R o') (fun q => q ≠ R) := fun o' => ⟨rfl, rfl, rfl, by simp, fun q _ hq => World.putObj_heap_other hq⟩
      have HFIN := Lib.hid (fun o' => show OwnS6 (X.putObj R o') w.heap.size (.slice A1 (lcF (pmL p) (numb 0 (Tr.ndsL 1 p.body))).length q1) (lcP p) ∧ Below w.heap.size w (X.putObj R o') from
        ⟨(hI.st.row.chg (hput o') hne).mono (by have := HB.out.size; omega), (hG.1.trans (hput o') fun q hq _ => by have := HVW.out.size; omega).below fun _ _ => trivial⟩)
      clear hI hG hne hput
      gi_wp2
      refine ⟨by simp, .inl ⟨_, _, rfl, run_takeDeferred hK, ?_⟩⟩
      exact ⟨_, results_tmp rfl _ _ _, _, rfl, HFIN.out _⟩
  · have hpm : pmL p = [p.param] := by unfold pmL; rw [if_neg (by have := szDec p.param; rw [decide_eq_false hpe] at this; simpa using this)]
    have hpe2 : p.param.toList.isEmpty = false := by cases h9 : p.param.toList with
      | nil => exact absurd h9 hpe
      | cons => rfl
    have hpe3 : (!p.param.toList.isEmpty) = true := by rw [hpe2]; rfl
    have hpe4 : (p.param.toList == []) = false := by simpa using hpe
    gi_upto_region 4 with fail
    rw [HWd.out]
    gi_wp2_with fail
    refine ⟨trivial, (callsIn_wide.2 HADD.out).mono ?_⟩
    rintro e Y ⟨rfl, vp, hLY, hCY, hOY⟩
    have LY : Hid (LcX (w.heap.size + 1) (w.heap.size + 1 + 1 + 1) (w.heap.size + 1 + 1) W.heap.size (pmL p) vp Y) := by rw [hpm]; exact Lib.hid hLY
    have HFY : Hid (Boxed Y (w.heap.size + 1 + 1 + 1 + 1) 94 (fAdd (w.heap.size + 1 + 1 + 1) (w.heap.size + 1))) := Lib.hid ((hCY.block _ HF.out.lt ⟨by omega, by omega, by simp [Value.ownBlock]⟩).trans HF.out)
    have HBYw : Hid (Below w.heap.size w Y) := Lib.hid (by
      have hb := HB.out
      exact ⟨hCY.os.trans hb.os, hCY.tape.trans hb.tape, hCY.output.trans hb.output, Nat.le_trans hb.size hCY.size, fun q hq => (hCY.block q (Nat.lt_of_lt_of_le hq hb.size) ⟨by omega, by omega, by simp [Value.ownBlock]⟩).trans (hb.block q hq)⟩)
    have HBY : Hid (W.heap.size ≤ Y.heap.size) := Lib.hid hCY.size
    have c2 : Y.cell? ⟨w.heap.size, 2, none⟩ = some (.slice Ab nb cb) := (World.cell?_of_block (show Y.heap[w.heap.size]? = W.heap[w.heap.size]? from hCY.block _ HP.out.lt ⟨by omega, by omega, by simp [Value.ownBlock]⟩)).trans (HP.out.cell 2)
    clear hLY hCY hOY hpm
    gi_wp2_with fail
    refine ⟨trivial, (callsIn_wide.2 (HST.out Y)).mono ?_⟩
    rintro e V ⟨rfl, hI, hbv⟩
    have HI := Lib.hid hI
    have HVB := Lib.hid hbv
    have HVL := Lib.hid (show LcI (w.heap.size + 1) (w.heap.size + 1 + 1 + 1) (w.heap.size + 1 + 1) (w.heap.size + 1 + 1 + 1 + 1) W.heap.size V.heap.size (pmL p) (fun _ => False) vp V from ⟨LY.out.chg (Chg.ofBelow hbv fun _ => True) trivial trivial trivial (fun _ _ => trivial), fun _ _ h => h.elim, (hbv.block _ (HFY.out).lt).trans HFY.out, Nat.le_refl _, fun _ h => h.elim, by have := (HFY.out).lt; have := hbv.size; omega, by have := HBY.out; have := hbv.size; omega⟩)
    have HVW := Lib.hid (show Below w.heap.size w V from belowThen HBYw.out hbv)
    have HZV := Lib.hid (show Y.heap.size + 1 < V.heap.size ∧ W.heap.size ≤ Y.heap.size from ⟨hI.f.lt, HBY.out⟩)
    unfold itrM
    clear hI hbv
    gi_wp2_with fail
    refine rangeClosSA (F := Fence.wide) (n := 8) (w := V) (w0 := w) rfl (by omega) (gf := 170) (lb := #[.pointer (some ⟨Y.heap.size, 0, none⟩), .pointer (some ⟨Y.heap.size + 1, 0, none⟩)]) rfl trivial entVisM (Arg := fun x args _ => ArgM dx D w x args) (G := fun X => Chg w X (fun _ => True) ∧ ItrM X Y.heap.size Ab nb cb) (HV.out Y.heap.size) HVW.out (fun x args _ h => by obtain ⟨_, _, _, _, _, _, rfl, _⟩ := h; rfl)
      (fun A A' h hc => lowG (B := V.heap.size) (by have := HVW.out.size; omega) HZV.out.1 _ _ h (hc.mono fun q hq hn => by have := hn.1; omega)) (fun x args A A' h _ => h)
      (fun pre S X => ∃ v, LcI (w.heap.size + 1) (w.heap.size + 1 + 1 + 1) (w.heap.size + 1 + 1) (w.heap.size + 1 + 1 + 1 + 1) W.heap.size V.heap.size (lcF (pmL p) pre) S v X) (fun _ _ _ _ => False) (fun _ => LcI.abides) (fun _ _ _ _ _ h => h.elim) ⟨vp, HVL.out⟩ ⟨Chg.ofBelow HVW.out _, HI.out⟩
      (fun X args => { tmps := #[.agg #[.string p.name, .string p.param, .slice Ab nb cb], .pointer (some ⟨w.heap.size, 0, none⟩), .slice none 0 0, .pointer (some ⟨w.heap.size + 1, 0, none⟩), .pointer (some ⟨w.heap.size + 1 + 1 + 1, 0, none⟩), .pointer (some ⟨w.heap.size + 1 + 1 + 1 + 1, 0, none⟩), undef, .pointer (some ⟨X.heap.size, 0, none⟩), .map (some (w.heap.size + 1 + 1)), .func (.func 58) #[] #[.pointer (some ⟨w.heap.size + 1 + 1 + 1, 0, none⟩), .pointer (some ⟨w.heap.size + 1, 0, none⟩)], .pointer (some ⟨w.heap.size, 1, none⟩), .string p.param, .bool true, .func (.func 58) #[] #[.pointer (some ⟨w.heap.size + 1 + 1 + 1, 0, none⟩), .pointer (some ⟨w.heap.size + 1, 0, none⟩)], .pointer (some ⟨w.heap.size, 1, none⟩), .string p.param, .tuple #[], .pointer (some ⟨w.heap.size, 2, none⟩), .slice Ab nb cb, .func (.func 170) #[] #[.pointer (some ⟨Y.heap.size, 0, none⟩), .pointer (some ⟨Y.heap.size + 1, 0, none⟩)], args.getD 0 undef, args.getD 1 undef, undef, undef, undef, undef, undef, undef, undef, undef, undef, undef, undef, undef, undef, undef, undef], defers := [] }) (fun args X => X.alloc (.cells (agC (args.getD 1 undef)) 54)) (fun _ _ => belowAlloc _ _)
      (fun pre S args X h => ?hIa) (fun args X h => keepG h (Chg.ofBelow (belowAlloc _ _) (fun _ => True)) (fun _ _ _ => trivial) trivial trivial) (fun _ _ _ h => h) ?assign ?body ?done ?stop
    case stop => exact fun _ _ _ _ _ _ h _ _ => h.elim
    case hIa =>
      obtain ⟨v, h⟩ := h
      have hb9 := belowAlloc X (.cells (agC (args.getD 1 undef)) 54)
      exact ⟨v, h.st.chg (Chg.ofBelow hb9 fun _ => True) trivial trivial trivial (fun _ _ => trivial), h.off, (hb9.block _ h.fbx.lt).trans h.fbx, Nat.le_trans h.le hb9.size, fun q hq => by have := h.lo q hq; have := hb9.size; omega, h.fb_lt, h.bs⟩
    case assign =>
      intro lr x args X K ha hK
      obtain ⟨_, _, _, _, _, _, rfl, _⟩ := ha
      rw [zip2]
      gi_wp2
      exact hK
    case body =>
      rintro lr pre x post S args X U hL ⟨v, hI⟩ hG hA hlow ⟨o, hU⟩ hlX hlV
      obtain ⟨A6, c6, A7, c7, A8, c8, rfl, -⟩ := hA
      have hnm := hp.body.nm x (by rw [hL]; simp)
      have hlen : (lcF (pmL p) pre).length ≤ 4000001 := by
        have h9 := congrArg List.length hL
        rw [numbLen, Tr.ndsLLen, List.length_append, List.length_cons] at h9
        have h8 := lcFlen (pmL p) pre
        have h7 : (pmL p).length ≤ 1 := by unfold pmL; split <;> simp
        have := hp.body.sz
        omega
      have hsn := lcFsnoc (pmL p) pre x
      obtain ⟨num, lv, y⟩ := x
      dsimp only at hnm hsn
      have hpl : Blk U X.heap.size 54 #[.int .i64 y.val.kind, .string y.val.name, .string y.val.obj, .string y.val.other, .int .i64 y.val.fn, .int .i64 y.val.ord, .slice A6 y.val.exprs.length c6, .slice A7 y.fst.length c7, .slice A8 y.snd.length c8] := by
        rw [hU]
        exact (World.putObj_heap_other (show X.heap.size ≠ lr by omega)).trans (Blk.new X _ _)
      have p0 : U.cell? ⟨X.heap.size, 0, none⟩ = some (.int .i64 y.val.kind) := hpl.cell 0
      have p1 : U.cell? ⟨X.heap.size, 1, none⟩ = some (.string y.val.name) := hpl.cell 1
      have HKD := Lib.hid (iKind16 y.val.kind U)
      have hTU : RwsT U := HT.out.keep (hG.1.block _ HT.out.lt trivial)
      have HAD := Lib.hid (iAdd6 y.val.name hnm U hI.st hlen (Nat.le_trans hI.bs hI.le))
      have qf : U.cell? ⟨w.heap.size + 1 + 1 + 1 + 1, 0, none⟩ = some (fAdd (w.heap.size + 1 + 1 + 1) (w.heap.size + 1)) := hI.fbx.cell
      have HII := Lib.hid hI
      have HGG := Lib.hid hG
      have HSN := Lib.hid hsn
      have HLW := Lib.hid hlow
      unfold fAdd at qf
      have HEND : Hid ((lcF (pmL p) (pre ++ [(num, lv, y)]) = lcF (pmL p) pre) → ownPostG V.heap.size (fun A B => (Chg w B (fun _ => True) ∧ ItrM B Y.heap.size Ab nb cb) ∧ Chg A B S) (fun q X => ∃ v, LcI (w.heap.size + 1) (w.heap.size + 1 + 1 + 1) (w.heap.size + 1 + 1) (w.heap.size + 1 + 1 + 1 + 1) W.heap.size V.heap.size (lcF (pmL p) q) S v X) (fun c q W' => False ∧ (Chg w W' (fun _ => True) ∧ ItrM W' Y.heap.size Ab nb cb) ∧ Chg U W' S) (pre ++ [(num, lv, y)]) U .normal { tmps := #[], defers := [] } U) := Lib.hid fun h => ⟨KeepsFrom.refl _ _, ⟨HGG.out, Chg.refl _ _⟩, v, by rw [h]; exact HII.out⟩
      cases hk : kdOk y.val.kind
      · have hno : lcF (pmL p) (pre ++ [(num, lv, y)]) = lcF (pmL p) pre := by rw [hsn]; unfold lcS asg; rw [hk]; rfl
        have HE := Lib.hid (HEND.out hno)
        rw [hk] at HKD
        clear hI hG hsn hlow hpl hU hL hnm hlen hTU hno hk
        gi_wp2_with fail
        refine ⟨trivial, (CallsIn.inRound lr (callsIn_wide.2 HKD.out)).mono ?_⟩
        rintro e U' ⟨rfl, rfl⟩
        gi_wp2_with fail
        exact HE.out
      · obtain ⟨m, hm, hm1, hm2⟩ : ∃ m : Nat, y.val.kind = (m : Int) ∧ 1 ≤ m ∧ m ≤ 20 := by
          unfold kdOk at hk
          simp only [Bool.and_eq_true, decide_eq_true_eq] at hk
          exact ⟨y.val.kind.toNat, by omega, by omega, by omega⟩
        have hrow := (hTU m (by omega)).c0
        rw [hm] at p0 HKD
        rw [hm] at hk
        rw [hk] at HKD
        have hasg : asg y = (rw16 (m : Int)).nm := by unfold asg; rw [hm, hk]; rfl
        have hm3 : (m : Int) < 21 := by omega
        have hm4 : (0 : Int) ≤ m := by omega
        cases hnmr : (rw16 (m : Int)).nm
        · rw [hnmr] at hrow
          have hno : lcF (pmL p) (pre ++ [(num, lv, y)]) = lcF (pmL p) pre := by rw [hsn]; unfold lcS; rw [hasg, hnmr]; rfl
          have HE := Lib.hid (HEND.out hno)
          clear hI hG hsn hlow hpl hU hL hnm hlen hTU hno hk hasg hnmr hm hm1 hm2
          gi_wp2_with fail
          refine ⟨trivial, (CallsIn.inRound lr (callsIn_wide.2 HKD.out)).mono ?_⟩
          rintro e U' ⟨rfl, rfl⟩
          gi_wp2_with fail
          exact HE.out
        · rw [hnmr] at hrow
          have hyes : lcF (pmL p) (pre ++ [(num, lv, y)]) = adL y.val.name (lcF (pmL p) pre) := by rw [hsn]; unfold lcS; rw [hasg, hnmr]; rfl
          have HE := Lib.hid hyes
          clear hI hG hsn hlow hpl hU hL hnm hlen hTU hyes hk hasg hnmr hm hm1 hm2
          gi_wp2_with fail
          refine ⟨trivial, (CallsIn.inRound lr (callsIn_wide.2 HKD.out)).mono ?_⟩
          rintro e U' ⟨rfl, rfl⟩
          gi_wp2_with fail
          refine ⟨trivial, (CallsIn.inRound lr (callsIn_wide.2 HAD.out)).mono ?_⟩
          rintro e U2 ⟨rfl, v2, hL2, hC2, hO2⟩
          have hi := HII.out
          have hF : Boxed U2 (w.heap.size + 1 + 1 + 1 + 1) 94 (fAdd (w.heap.size + 1 + 1 + 1) (w.heap.size + 1)) := (hC2.block _ hi.fbx.lt ⟨by omega, by omega, fun e => by have := (hi.st.row.lt e).1; have := HZ.out; omega⟩).trans hi.fbx
          have HFIN := Lib.hid (show KeepsFrom V.heap.size U' U2 ∧ ((Chg w U2 (fun _ => True) ∧ ItrM U2 Y.heap.size Ab nb cb) ∧ Chg U' U2 S) ∧ LcI (w.heap.size + 1) (w.heap.size + 1 + 1 + 1) (w.heap.size + 1 + 1) (w.heap.size + 1 + 1 + 1 + 1) W.heap.size V.heap.size (adL y.val.name (lcF (pmL p) pre)) S v2 U2 from by
            have hvz := HZV.out
            have hzz := HZ.out
            have hne1 : v.ownBlock ≠ some Y.heap.size := fun e => by
              obtain ⟨cs, fr, h1⟩ := hi.st.row.ty e
              have h2 : _ = some (Obj.cells _ _ _) := HGG.out.2.l
              rw [h1] at h2
              injection h2 with h2
              injection h2 with _ h3
              exact absurd h3 (by decide)
            have hne2 : v.ownBlock ≠ some (Y.heap.size + 1) := fun e => by
              obtain ⟨cs, fr, h1⟩ := hi.st.row.ty e
              have h2 : _ = some (Obj.cells _ _ _) := HGG.out.2.f
              rw [h1] at h2
              injection h2 with h2
              injection h2 with _ h3
              exact absurd h3 (by decide)
            have hvb : ∀ q, q < V.heap.size → q ≠ w.heap.size + 1 → q ≠ w.heap.size + 1 + 1 → v.ownBlock ≠ some q → U2.heap[q]? = U'.heap[q]? := fun q hq h1 h2 h3 => hC2.block q (Nat.lt_of_lt_of_le hq hi.le) ⟨h1, h2, h3⟩
            refine ⟨⟨hC2.size, fun k o hk ho hoc => (hC2.block k (Array.getElem?_eq_some_iff.1 ho).1 ⟨by omega, by omega, fun e => ?_⟩).trans ho⟩, ⟨?_, hC2.mono fun q hq => ⟨fun e => by have := HLW.out q hq; omega, fun e => by have := HLW.out q hq; omega, fun e => hi.off q e hq⟩⟩, ⟨hL2, fun g hg hs => ?_, hF, Nat.le_trans hi.le hC2.size, fun q hq => by have := hi.lo q hq; have := hC2.size; omega, hi.fb_lt, hi.bs⟩⟩
            · obtain ⟨o', ho', hoc'⟩ := hi.st.row.cells e
              rw [ho] at ho'
              cases ho'
              rw [hoc] at hoc'
              cases hoc'
            · exact keepG HGG.out hC2 (fun q hq _ => ⟨by omega, by omega, fun e => by have := (hi.st.row.lt e).1; have := HB.out.size; omega⟩) ⟨by omega, by omega, fun e => hne1 e⟩ ⟨by omega, by omega, fun e => hne2 e⟩
            · rcases hO2 g hg with e | e
              · exact hi.off g e hs
              · have := hi.lo g hs
                omega)
          clear hL2 hC2 hO2 hi hF
          gi_wp2_with fail
          exact ⟨HFIN.out.1, HFIN.out.2.1, v2, by rw [HE.out]; exact HFIN.out.2.2⟩
    case done =>
      rintro R S X hR ⟨v, hI⟩ hG hK
      obtain ⟨A1, q1, rfl⟩ := hI.st.row.sl
      have kb := hI.st.bl.cell
      have hne : ∀ g, (Value.slice A1 (lcF (pmL p) (numb 0 (Tr.ndsL 1 p.body))).length q1).ownBlock = some g → g ≠ R := fun g hg e => by
        obtain ⟨o, ho, hoc⟩ := hI.st.row.cells hg
        rw [e, hK] at ho
        cases ho
        cases hoc
      have hput : ∀ o', Chg X (X.putObj R o') (fun q => q ≠ R) := fun o' => ⟨rfl, rfl, rfl, by simp, fun q _ hq => World.putObj_heap_other hq⟩
      have HFIN := Lib.hid (fun o' => show OwnS6 (X.putObj R o') w.heap.size (.slice A1 (lcF (pmL p) (numb 0 (Tr.ndsL 1 p.body))).length q1) (lcP p) ∧ Below w.heap.size w (X.putObj R o') from
        ⟨(hI.st.row.chg (hput o') hne).mono (by have := HB.out.size; omega), (hG.1.trans (hput o') fun q hq _ => by have := HVW.out.size; omega).below fun _ _ => trivial⟩)
      clear hI hG hne hput
      gi_wp2
      refine ⟨by simp, .inl ⟨_, _, rfl, run_takeDeferred hK, ?_⟩⟩
      exact ⟨_, results_tmp rfl _ _ _, _, rfl, HFIN.out _⟩
end Go.Proofs.YtiaendggmamnkaaGreatDoor
