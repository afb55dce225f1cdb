/-
  visit, the closure of continuations: what lies in memory while it works.
-/
import Derived.Test.YtjioiaeiggjneaaDoorKTabO
import Derived.Test.YtjioiaeiggjneaaDoorKLinE
namespace Go.Proofs.YtjioiaeiggjneaaDoor
open Go Go.RowKit Go.Shelf
attribute [local go_sem] Oper.semAt_some
theorem resVis {tmps : Array Value} {b : Nat} {r : Bool} {W : World} (hp : tmps.getD 5 undef = .pointer (some ⟨b, 0, none⟩)) (hB : Boxed W b 4 (.bool r)) : (results Tryd.f42 tmps).run Tryd.prog W = .ok (.bool r) W := by
  have hc := hB.cell
  have hp' : tmps[5]?.getD undef = .pointer (some ⟨b, 0, none⟩) := by simpa using hp
  simp [results, hp', asAddr, loadVar, isAgg, run_underlying Tryd.underlying4, go_sem, hc]
/-- What lies in memory while visit works: the table (block g) and the variables that the closure sees. -/
structure VisSt (wb bb vb g N : Nat) (f : Nat → Nat → Bool) (A : Option Addr) (c : Nat) (D : List Nat) (W : World) : Prop where
  hw : Boxed W wb 47 (.map (some g))
  hb : Boxed W bb 43 (.slice A N c)
  hv : Boxed W vb 73 (.func (.func 42) #[] #[.pointer (some ⟨wb, 0, none⟩), .pointer (some ⟨bb, 0, none⟩), .pointer (some ⟨vb, 0, none⟩)])
  tab : MapT W g D (valM N f)
  vis : VisT N f D
  full : fullS N ∈ D
  fix : FixG N f A c W
theorem VisSt.chg {wb bb vb g N : Nat} {f : Nat → Nat → Bool} {A : Option Addr} {c : Nat} {D : List Nat} {W0 W W' : World} (h : VisSt wb bb vb g N f A c D W) (h0 : FixG N f A c W0) {F : Nat → Prop} (hc : Chg W W' F) (h1 : F wb) (h2 : F bb) (h3 : F vb) (h4 : F g) (h5 : ∀ q, q < W0.heap.size → F q) : VisSt wb bb vb g N f A c D W' :=
  ⟨(hc.block _ h.hw.lt h1).trans h.hw, (hc.block _ h.hb.lt h2).trans h.hb, (hc.block _ h.hv.lt h3).trans h.hv, h.tab.chg hc h4, h.vis, h.full, h0.keep h.fix (hc.mono fun q hq => h5 q hq)⟩
/-- visit's contract, by the number of those that are still to come. -/
def VisSaid (wb bb vb g N : Nat) (f : Nat → Nat → Bool) (A : Option Addr) (c : Nat) (k : Nat) : Prop :=
  ∀ (s : Nat) (D : List Nat) (W : World), outS N s = k → s < B64 → RchS N f 0 s → VisSt wb bb vb g N f A c D W →
    Calls Tryd.prog 42 #[.int .u64 s, .pointer (some ⟨wb, 0, none⟩), .pointer (some ⟨bb, 0, none⟩), .pointer (some ⟨vb, 0, none⟩)] W fun e W' =>
      e = .returned (.bool true) ∧ Chg W W' (fun q => q ≠ g) ∧ ∃ D', (∀ x ∈ D, x ∈ D') ∧ (∀ x ∈ D', x ∈ D ∨ RchS N f s x) ∧ s ∈ D' ∧ VisSt wb bb vb g N f A c D' W'
/-- What lies in memory in a round of visit's loop. -/
structure VisIn (wb bb vb g N : Nat) (f : Nat → Nat → Bool) (A : Option Addr) (c s tb : Nat) (D : List Nat) (W : World) (ps D' : List Nat) (X : World) : Prop where
  sub : ∀ x ∈ D, x ∈ D'
  got : ∀ x ∈ D', x ∈ D ∨ ∃ a ∈ nxtL N f s, RchS N f (addS s a) x
  all : ∀ a ∈ ps, addS s a ∈ D'
  st : VisSt wb bb vb g N f A c D' X
  bd : Boxed X W.heap.size 51 (.int .u64 s)
  br : Boxed X (W.heap.size + 1) 4 (.bool false)
  bt : Boxed X tb 3 (.int .i64 (ps.foldl (fun t a => addW t (valM N f (addS s a))) 0))
  chg : Chg W X (fun q => q ≠ g)
set_option maxRecDepth 100000 in
set_option maxHeartbeats 2000000 in
theorem visStep {wb bb vb g N : Nat} {f : Nat → Nat → Bool} {A : Option Addr} {c : Nat} {W00 : World} (h00 : FixG N f A c W00) (hg0 : W00.heap.size ≤ g) (hN : N ≤ 64) (hK : ∀ D, VisT N f D → D.length ≤ 65536) {k : Nat} (ih : ∀ j, j < k → VisSaid wb bb vb g N f A c j) : VisSaid wb bb vb g N f A c k := by
  intro s D W ho hs hr hst
  obtain ⟨V, hV⟩ : ∃ V, (W.alloc (.cells #[.int .u64 s] 51)).alloc (.cells #[.bool false] 4) = V := ⟨_, rfl⟩
  have hbV : Below W.heap.size W V := by rw [← hV]; exact (belowAlloc W _).alloc (by simp) _
  have b0 : Boxed V W.heap.size 51 (.int .u64 s) := by rw [← hV]; exact (Boxed.new W _ _).alloc _
  have b1 : Boxed V (W.heap.size + 1) 4 (.bool false) := by rw [← hV]; have h := Boxed.new (W.alloc (.cells #[.int .u64 s] 51)) 4 (.bool false); rwa [World.size_alloc] at h
  have hsv : VisSt wb bb vb g N f A c D V := hst.chg hst.fix (Chg.ofBelow hbV fun _ => True) trivial trivial trivial trivial fun _ _ => trivial
  have HST := Lib.hid hst
  have HSV := Lib.hid hsv
  have kw := hsv.hw.cell
  have kb := hsv.hb.cell
  have kv := hsv.hv.cell
  have k0 := b0.cell
  have k1 := b1.cell
  have hrun := hsv.tab.look hs
  clear hst hsv
  by_cases hd : s ∈ D
  all_goals simp only [hd, if_true, if_false, decide_true, decide_false] at hrun
  all_goals refine (callsIn_wide (n := 8)).1 ?_
  all_goals refine callsIn_of_wp_marks Tryd.func42 rfl trivial ?_ rfl
  all_goals simp only [Tryd.ntmps42, List.size_toArray, List.length_cons, List.length_nil, Nat.reduceAdd, Nat.reduceSub, Array.replicate_succ, Array.replicate_zero, List.push_toArray, List.append_toArray, List.nil_append, List.cons_append]
  · have fr1 := b1.frozen
    have HFIN := Lib.hid (show Boxed (V.setCell ⟨W.heap.size + 1, 0, none⟩ (.bool true)) (W.heap.size + 1) 4 (.bool true) ∧ Chg W (V.setCell ⟨W.heap.size + 1, 0, none⟩ (.bool true)) (fun q => q ≠ g) ∧ ∃ D', (∀ x ∈ D, x ∈ D') ∧ (∀ x ∈ D', x ∈ D ∨ RchS N f s x) ∧ s ∈ D' ∧ VisSt wb bb vb g N f A c D' (V.setCell ⟨W.heap.size + 1, 0, none⟩ (.bool true)) from by
      have c1 : Chg W (V.setCell ⟨W.heap.size + 1, 0, none⟩ (.bool true)) (fun q => q < W.heap.size) := (Chg.ofBelow hbV _).trans (Chg.setCell V ⟨W.heap.size + 1, 0, none⟩ (.bool true)) fun i _ h => by show i ≠ W.heap.size + 1; omega
      refine ⟨b1.set _, ⟨c1.os, c1.tape, c1.output, c1.size, fun q hq _ => c1.block q hq hq⟩, D, fun _ h => h, fun _ h => .inl h, hd, HST.out.chg HST.out.fix c1 HST.out.hw.lt HST.out.hb.lt HST.out.hv.lt HST.out.tab.lt fun q hq => hq⟩)
    gi_wp2
    exact ⟨_, resVis rfl HFIN.out.1, rfl, HFIN.out.2⟩
  · obtain ⟨U0, hU0⟩ : ∃ U0, V.alloc (.cells #[.int .i64 0] 3) = U0 := ⟨_, rfl⟩
    have hbU0 : Below V.heap.size V U0 := by rw [← hU0]; exact belowAlloc V _
    have hzU0 : V.heap.size < U0.heap.size := by rw [← hU0]; simp
    have bt0 : Boxed U0 V.heap.size 3 (.int .i64 0) := by rw [← hU0]; exact Boxed.new V _ _
    have kt0 := bt0.cell
    have ft0 := bt0.frozen
    obtain ⟨U, hU⟩ : ∃ U, U0.setCell ⟨V.heap.size, 0, none⟩ (.int .i64 0) = U := ⟨_, rfl⟩
    have cU : Chg V U (fun q => q < V.heap.size) := by rw [← hU]; exact (Chg.ofBelow hbU0 _).trans (Chg.setCell U0 ⟨V.heap.size, 0, none⟩ (.int .i64 0)) fun i _ h => by show i ≠ V.heap.size; omega
    have hbU : Below V.heap.size V U := cU.below fun q hq => hq
    have hzU : V.heap.size < U.heap.size := by rw [← hU]; simpa using hzU0
    have bt : Boxed U V.heap.size 3 (.int .i64 0) := by rw [← hU]; exact bt0.set _
    have d0 : Boxed U W.heap.size 51 (.int .u64 s) := (hbU.block _ b0.lt).trans b0
    have d1 : Boxed U (W.heap.size + 1) 4 (.bool false) := (hbU.block _ b1.lt).trans b1
    have HSU := Lib.hid (HSV.out.chg HST.out.fix (Chg.ofBelow hbU fun _ => True) trivial trivial trivial trivial fun _ _ => trivial)
    have kw2 := HSU.out.hw.cell
    have kb2 := HSU.out.hb.cell
    have kv2 := HSU.out.hv.cell
    have kd0 := d0.cell
    have kd1 := d1.cell
    have kt := bt.cell
    have HNX := Lib.hid (iNext N hN f A c s U HSU.out.fix.bef HSU.out.fix.tbl)
    gi_wp2_with fail
    refine ⟨trivial, (callsIn_wide.2 HNX.out).mono ?_⟩
    rintro e W2 ⟨rfl, hb2⟩
    have HSW := Lib.hid (HSU.out.chg HST.out.fix (Chg.ofBelow hb2 fun _ => True) trivial trivial trivial trivial fun _ _ => trivial)
    have g0 : Boxed W2 W.heap.size 51 (.int .u64 s) := (hb2.block _ d0.lt).trans d0
    have g1 : Boxed W2 (W.heap.size + 1) 4 (.bool false) := (hb2.block _ d1.lt).trans d1
    have gt : Boxed W2 V.heap.size 3 (.int .i64 0) := (hb2.block _ bt.lt).trans bt
    have hz2 := hb2.size
    have cW2 : Chg W W2 (fun q => q ≠ g) := ((Chg.ofBelow hbV _).trans (Chg.ofBelow hbU _) fun _ _ h => h).trans (Chg.ofBelow hb2 _) fun _ _ h => h
    have hseq := numsB 7 (by omega) (nxtS N f s) (nxtSLt hN f s) W2 HSW.out.fix.tbl
    rw [nxtSBits hN] at hseq
    have HSQ := Lib.hid hseq
    have HIN := Lib.hid (show VisIn wb bb vb g N f A c s V.heap.size D W [] D W2 from ⟨fun _ h => h, fun _ h => .inl h, (fun _ h => by cases h), HSW.out, g0, g1, gt, cW2⟩)
    clear hseq
    gi_wp2
    refine rangeBound (F := Fence.wide) (n := 8) rfl (by omega) (gf := 19) (bd := #[.int .u64 (nxtS N f s)]) rfl trivial enters47 HSQ.out (fun h k hT => k (h hT)) keepT_b (Below.refl _ _) (fun _ => rfl)
      (fun ps X => ∃ D', VisIn wb bb vb g N f A c s V.heap.size D W ps D' X) (fun _ _ _ => False) ?hI (fun _ _ _ _ _ h => h.elim) ⟨D, HIN.out⟩
      (fun x => { tmps := #[.int .u64 s, .pointer (some ⟨wb, 0, none⟩), .pointer (some ⟨bb, 0, none⟩), .pointer (some ⟨vb, 0, none⟩), .pointer (some ⟨W.heap.size, 0, none⟩), .pointer (some ⟨W.heap.size + 1, 0, none⟩), .int .i64 0, .bool false, .pointer (some ⟨V.heap.size, 0, none⟩), .int .i64 x, undef, .tuple #[.int .i64 0, .bool false], .map (some g), .int .u64 s, .tuple #[.int .i64 0, .bool false], .int .i64 0, .bool false, .bool false, .slice A N c, .int .u64 s, .int .u64 (nxtS N f s), .func (.func 19) #[.int .u64 (nxtS N f s)] #[], .int .i64 x, undef, undef, undef, undef, undef, undef, undef, undef, undef, undef, undef, undef, undef, undef, undef, undef, undef, undef], defers := [] }) ?assign ?body ?done (fun _ _ _ _ _ h _ => h.elim)
    case assign =>
      intro lr x X K hK
      gi_wp2
      exact hK
    case hI =>
      rintro ps X Y row ⟨D', h⟩ hgr hr
      have hc : Chg X Y (fun q => row ≠ some q) := Chg.ofGrown hgr fun _ h => h
      have hlo : ∀ q, q < W2.heap.size → row ≠ some q := fun q hq e => by have := (hr q e).1; omega
      have hzW := hbV.size
      have l1 := HST.out.hw.lt
      have l2 := HST.out.hb.lt
      have l3 := HST.out.hv.lt
      have l4 := HST.out.tab.lt
      have l5 := g1.lt
      have hzW2 : W.heap.size ≤ W2.heap.size := cW2.size
      refine ⟨D', h.sub, h.got, h.all, h.st.chg HST.out.fix hc (hlo _ (by omega)) (hlo _ (by omega)) (hlo _ (by omega)) (hlo _ (by omega)) fun q hq => hlo q (by omega), (hc.block _ h.bd.lt (hlo _ (by omega))).trans h.bd, (hc.block _ h.br.lt (hlo _ (by omega))).trans h.br, (hc.block _ h.bt.lt (hlo _ (by omega))).trans h.bt, ?_⟩
      exact ⟨hc.os.trans h.chg.os, hc.tape.trans h.chg.tape, hc.output.trans h.chg.output, Nat.le_trans h.chg.size hc.size, fun q hq hg => (hc.block q (Nat.lt_of_lt_of_le hq h.chg.size) (hlo q (by omega))).trans (h.chg.block q hq hg)⟩
    case body =>
      rintro lr ps x rest X hLL ⟨D', h⟩
      have hx : x ∈ nxtL N f s := by rw [hLL]; simp
      obtain ⟨hxN, hxc⟩ := nxtMem.1 hx
      have hxo := outAdd hxN (canIff.1 hxc).1
      have hsx := addLt hs (show x < 64 by omega)
      have HIH := Lib.hid (ih (outS N (addS s x)) (by omega) (addS s x) D' X rfl hsx (rchNext hr hx) h.st)
      have HW := Lib.hid (iWith s x hs (by omega) X)
      have kb3 := h.bd.cell
      have kv3 := h.st.hv.cell
      have HH := Lib.hid h
      clear h
      gi_wp2_with fail
      refine ⟨trivial, (CallsIn.inRound lr (callsIn_wide.2 HW.out)).mono ?_⟩
      rintro e w' ⟨rfl, rfl⟩
      gi_wp2_with fail
      refine ⟨trivial, (CallsIn.inRound lr (callsIn_wide.2 HIH.out)).mono ?_⟩
      rintro e Y ⟨rfl, hcY, D2, hsub, hgot, hin, hstY⟩
      have h := HH.out
      have nb : ∀ {q : Nat} {T : TypeId} {v : Value}, Boxed X q T v → q ≠ g := fun {q T v} hq e => by
        obtain ⟨_, ⟨es, clock, hb, _⟩, _⟩ := h.st.tab
        have h3 : X.heap[q]? = some (Obj.cells #[v] T (0, 0)) := hq
        rw [e, hb] at h3
        cases h3
      have tY := (hcY.block _ h.bt.lt (nb h.bt)).trans h.bt
      have dY : Boxed Y W.heap.size 51 (.int .u64 s) := (hcY.block _ h.bd.lt (nb h.bd)).trans h.bd
      have rY : Boxed Y (W.heap.size + 1) 4 (.bool false) := (hcY.block _ h.br.lt (nb h.br)).trans h.br
      have ktY : Y.cell? ⟨V.heap.size, 0, none⟩ = _ := Boxed.cell tY
      have ftY : Y.frozen? ⟨V.heap.size, 0, none⟩ = false := Boxed.frozen tY
      have kwY := hstY.hw.cell
      have hlk := hstY.tab.look1 hsx
      rw [if_pos hin] at hlk
      have hfold : ∃ m, ps.foldl (fun t a => addW t (valM N f (addS s a))) 0 = capW m := ⟨_, foldAdd (fun a => ways N f (outS N (addS s a)) (addS s a)) ps 0⟩
      obtain ⟨m, hm⟩ := hfold
      have HA := Lib.hid (iAdd (ps.foldl (fun t a => addW t (valM N f (addS s a))) 0) (valM N f (addS s x)) (hm ▸ (capLow m).1) (hm ▸ (capLow m).2) (capLow _).1 (capLow _).2 Y)
      have l1 := HST.out.hw.lt
      have l2 := HST.out.hb.lt
      have l3 := HST.out.hv.lt
      have l4 := HST.out.tab.lt
      have l5 := g1.lt
      have l6 := gt.lt
      have hzV := hbV.size
      obtain ⟨Z, hZ⟩ : ∃ Z, Y.setCell ⟨V.heap.size, 0, none⟩ (.int .i64 (addW (ps.foldl (fun t a => addW t (valM N f (addS s a))) 0) (valM N f (addS s x)))) = Z := ⟨_, rfl⟩
      have cZ : Chg Y Z (fun q => q ≠ V.heap.size) := by rw [← hZ]; exact Chg.setCell Y ⟨V.heap.size, 0, none⟩ _
      have lb0 := b0.lt
      have lb1 := b1.lt
      have HFIN := Lib.hid (show KeepsFrom W2.heap.size X Z ∧ VisIn wb bb vb g N f A c s V.heap.size D W (ps ++ [x]) D2 Z from by
        refine ⟨⟨Nat.le_trans hcY.size cZ.size, fun k o hB hk hoc => ?_⟩, fun y hy => hsub y (h.sub y hy), fun y hy => (hgot y hy).elim (fun h1 => h.got y h1) fun h2 => .inr ⟨x, hx, h2⟩, fun a ha => ?_, hstY.chg h00 cZ (by omega) (by omega) (by omega) (by omega) fun q hq => by omega, (cZ.block _ dY.lt (by omega)).trans dY, (cZ.block _ rY.lt (by omega)).trans rY, ?_, (h.chg.trans hcY fun _ _ h => h).trans cZ fun q hq _ => by omega⟩
        · have lk := (Array.getElem?_eq_some_iff.1 hk).1
          exact (cZ.block k (Nat.lt_of_lt_of_le lk hcY.size) (by omega)).trans ((hcY.block k lk (by omega)).trans hk)
        · rcases List.mem_append.1 ha with ha | ha
          · exact hsub _ (h.all a ha)
          · rw [List.mem_singleton] at ha
            exact ha ▸ hin
        · rw [List.foldl_append, ← hZ]
          exact (show Boxed Y V.heap.size 3 (.int .i64 (ps.foldl (fun t a => addW t (valM N f (addS s a))) 0)) from tY).set _)
      have HZ := Lib.hid hZ
      clear h hZ hm
      gi_wp2_with fail
      refine ⟨trivial, (CallsIn.inRound lr (callsIn_wide.2 HA.out)).mono ?_⟩
      rintro e w' ⟨rfl, rfl⟩
      gi_wp2
      rw [HZ.out]
      exact ⟨HFIN.out.1, fun _ => HFIN.out.2.st.fix.tbl, D2, HFIN.out.2⟩
    case done =>
      rintro R X hR ⟨D', h⟩ hK2
      have hsn : s ∉ D' := fun hs2 => (h.got s hs2).elim hd fun ⟨a, ha, h2⟩ => rchNot ha h2
      have hbt := h.bt
      rw [valSum (VisT.out h.st.full hsn hr)] at hbt
      have kt3 := hbt.cell
      have kw3 := h.st.hw.cell
      have kd3 := h.bd.cell
      have hlt : D'.length < maxLen := by have := hK D' h.st.vis; unfold maxLen; omega
      obtain ⟨Y, hput, tabY, hturn⟩ := h.st.tab.put hlt hsn hs (valM N f s) rfl
      have cY : Chg X Y (fun q => q ≠ g) := Chg.ofGrown hturn.grown fun q hq e => hq (Option.some.inj e).symm
      have visY : VisT N f (D' ++ [s]) := h.st.vis.put hsn hr fun a ha => h.all a ha
      have hlen := hK _ visY
      have hle : decide (((D' ++ [s]).length : Int) ≤ 65536) = true := by rw [decide_eq_true_iff]; omega
      have hlenY := tabY.len 3
      have nb : ∀ {q : Nat} {T : TypeId} {v : Value}, Boxed X q T v → q ≠ g := fun {q T v} hq e => by
        obtain ⟨_, ⟨es, clock, hb, _⟩, _⟩ := h.st.tab
        have h3 : X.heap[q]? = some (Obj.cells #[v] T (0, 0)) := hq
        rw [e, hb] at h3
        cases h3
      have wY := (cY.block _ h.st.hw.lt (nb h.st.hw)).trans h.st.hw
      have rY : Boxed Y (W.heap.size + 1) 4 (.bool false) := (cY.block _ h.br.lt (nb h.br)).trans h.br
      have kwY : Y.cell? ⟨wb, 0, none⟩ = some (.map (some g)) := Boxed.cell wY
      have krY := rY.cell
      have frY := rY.frozen
      have l1 := HST.out.hw.lt
      have l2 := HST.out.hb.lt
      have l3 := HST.out.hv.lt
      have l4 := HST.out.tab.lt
      have lR := (Array.getElem?_eq_some_iff.1 hK2).1
      have l5 := g1.lt
      have hzW2 : W.heap.size ≤ W2.heap.size := cW2.size
      have hRg : R ≠ g := by omega
      obtain ⟨Z, hZ⟩ : ∃ Z, Y.setCell ⟨W.heap.size + 1, 0, none⟩ (.bool true) = Z := ⟨_, rfl⟩
      have cZ : Chg Y Z (fun q => q ≠ W.heap.size + 1) := by rw [← hZ]; exact Chg.setCell Y ⟨W.heap.size + 1, 0, none⟩ (.bool true)
      have rZ : Boxed Z (W.heap.size + 1) 4 (.bool true) := by rw [← hZ]; exact rY.set _
      have hzY := cY.size
      have hzZ := cZ.size
      have dR : Z.heap[R]? = some (.deferred (some [])) := (cZ.block R (by omega) (by omega)).trans ((cY.block R lR hRg).trans hK2)
      have HFIN := Lib.hid (show Boxed (Z.putObj R (.deferred none)) (W.heap.size + 1) 4 (.bool true) ∧ Chg W (Z.putObj R (.deferred none)) (fun q => q ≠ g) ∧ ∃ D'', (∀ x ∈ D, x ∈ D'') ∧ (∀ x ∈ D'', x ∈ D ∨ RchS N f s x) ∧ s ∈ D'' ∧ VisSt wb bb vb g N f A c D'' (Z.putObj R (.deferred none)) from by
        have cT : Chg Y (Z.putObj R (.deferred none)) (fun q => q < W.heap.size) := ⟨cZ.os, cZ.tape, cZ.output, by simpa using cZ.size, fun q hq hl => (World.putObj_heap_other (by omega)).trans (cZ.block q hq (by omega))⟩
        have cXT : Chg X (Z.putObj R (.deferred none)) (fun q => q < W.heap.size ∧ q ≠ g) := (cY.mono fun _ h => h.2).trans cT fun _ _ h => h.1
        refine ⟨(World.putObj_heap_other (by omega)).trans rZ, h.chg.trans cXT (fun q hq hg => ⟨hq, hg⟩), D' ++ [s], fun x hx => List.mem_append.2 (.inl (h.sub x hx)), fun x hx => ?_, by simp, ?_⟩
        · rcases List.mem_append.1 hx with hx | hx
          · exact (h.got x hx).imp id fun ⟨a, ha, h2⟩ => rchStep ha h2
          · rw [List.mem_singleton] at hx
            exact .inr (hx ▸ rchRefl)
        · refine ⟨(cXT.block _ h.st.hw.lt ⟨l1, nb h.st.hw⟩).trans h.st.hw, (cXT.block _ h.st.hb.lt ⟨l2, nb h.st.hb⟩).trans h.st.hb, (cXT.block _ h.st.hv.lt ⟨l3, nb h.st.hv⟩).trans h.st.hv, tabY.chg cT l4, visY, List.mem_append.2 (.inl h.st.full), ?_⟩
          exact h00.keep h.st.fix (cXT.mono fun q hq => ⟨by omega, by omega⟩))
      clear h
      rw [List.length_append, List.length_singleton] at hlen
      have hle2 : decide ((D'.length : Int) + 1 ≤ 65536) = true := by rw [decide_eq_true_iff]; omega
      have HL2 := Lib.hid hle2
      have HZ := Lib.hid hZ
      clear hle2 hle hZ
      gi_wp2
      rw [HL2.out, HZ.out]
      refine ⟨by simp, .inl ⟨_, _, rfl, run_takeDeferred dR, ?_⟩⟩
      exact ⟨_, resVis rfl HFIN.out.1, rfl, HFIN.out.2⟩
end Go.Proofs.YtjioiaeiggjneaaDoor
