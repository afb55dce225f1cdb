/-
  Locals' closure: the set of names that have come and the row of them.
-/
import Derived.Test.YtiaendggmamnkaaGreatDoorEQn
import Derived.Test.YtiaendggmamnkaaGreatDoorEOp
import Derived.Test.YtiaendggmamnkaaGreatDoorENk
import Derived.RangeFuncNested
import Derived.RangeFuncBound
import Derived.RangeFuncCalls
import Derived.RangeFuncLeaves
namespace Go.Proofs.YtiaendggmamnkaaGreatDoor
open Go Go.RowKit

def sv6 (l : List ByteArray) : List Value := l.map Value.string
theorem infoS6 : (Tryz.prog.info? 9).map (fun i => (i.zero, i.size, i.bytes)) = some (some (.string ⟨#[]⟩), 1, 16) := by kernel_rfl
/-- The strings D in a row of the call's own. -/
def OwnS6 (w : World) (base : Nat) (v : Value) (D : List ByteArray) : Prop := w.ownsRow base 9 1 v D.length (sv6 D)
section
variable {w X : World} {base : Nat} {v : Value} {D : List ByteArray}
theorem OwnS6.nil (w : World) (base : Nat) : OwnS6 w base (.slice none 0 0) [] := World.ownsRow_nil _ _ _ _
theorem OwnS6.chg {F : Nat → Prop} (h : OwnS6 w base v D) (hc : Chg w X F) (hF : ∀ g, v.ownBlock = some g → F g) : OwnS6 X base v D := by
  refine ⟨h.1, ?_⟩
  rcases h.2 with h2 | ⟨g, cap, cur, rfl, hb, hg, r⟩
  · exact .inl h2
  · exact .inr ⟨g, cap, cur, rfl, hb, (hc.block g (World.ownsRow.lt h g rfl).2 (hF g rfl)).trans hg, r⟩
theorem OwnS6.below (h : OwnS6 w base v D) (hb : Below w.heap.size w X) : OwnS6 X base v D := h.chg (Chg.ofBelow hb fun _ => True) fun _ _ => trivial
theorem OwnS6.lt (h : OwnS6 w base v D) {g : Nat} (hg : v.ownBlock = some g) : base ≤ g ∧ g < w.heap.size := World.ownsRow.lt h g hg
theorem OwnS6.sl (h : OwnS6 w base v D) : ∃ A c, v = .slice A D.length c := by
  rcases h.2 with ⟨rfl, h0⟩ | ⟨g, cap, cur, rfl, _⟩
  · exact ⟨none, 0, by rw [h0]⟩
  · exact ⟨_, _, rfl⟩
theorem OwnS6.rd (h : OwnS6 w base v D) : ∃ A c, v = .slice A D.length c ∧ RdE 1 ES w A c D := by
  have hown := h
  rcases h.2 with ⟨rfl, h0⟩ | ⟨g, cap, cur, rfl, hb, hg, hcp, hm, hs, ht⟩
  · have : D = [] := List.eq_nil_of_length_eq_zero h0
    subst this
    exact ⟨none, 0, rfl, RdE.nil⟩
  · refine ⟨_, _, rfl, hcp, hm, fun hn => ⟨g, 0, rfl, (World.ownsRow.lt hown g rfl).2, fun j hj => ?_⟩⟩
    have := World.ownsRow.cells hown (g := g) rfl j (.string D[j]) (by unfold sv6; rw [List.getElem?_map, List.getElem?_eq_getElem hj]; rfl)
    rw [Addr.add_lit] at this
    unfold ES
    rw [Nat.mul_one]
    exact this
theorem OwnS6.push (h : OwnS6 w base v D) (hL : D.length ≤ 10000000) (hbase : base ≤ w.heap.size) {s : ByteArray} {g : Nat} (hg : Blk w g 9 #[.string s]) (ty : TypeId) :
    ∃ v' w', (Builtin.append_ #[23, 23] ty #[v, .slice (some ⟨g, 0, none⟩) 1 1]).run Tryz.prog w = .ok v' w' ∧ OwnS6 w' base v' (D ++ [s]) ∧ w.grownBy w' v.ownBlock ∧ (v'.ownBlock = v.ownBlock ∨ v'.ownBlock = some w.heap.size) := by
  obtain ⟨i0, hi, hz0, hz1, hz2⟩ := info_parts infoS6
  have hnews : ∀ j u, (sv6 [s])[j]? = some u → w.cell? ((⟨g, 0, none⟩ : Addr).add j) = some u := by
    intro j u hu
    have hj : j < 1 := by have := (List.getElem?_eq_some_iff.1 hu).1; simpa [sv6] using this
    have : j = 0 := by omega
    subst this
    rw [Addr.add_lit, Nat.zero_add, hg.cell 0]
    exact hu
  obtain ⟨v', w', hrun, k1, hgr, _, hblk⟩ := run_append_own_at (P := Tryz.prog) w base 23 ty 9 i0 _ 1 16 Tryz.underlying23 hi hz0 hz1 hz2 rfl (by decide) v D.length (sv6 D) h ⟨g, 0, none⟩ 1 1 (sv6 [s]) (by simp [sv6]) hnews (fun u hu => by obtain ⟨_, _, rfl⟩ := List.mem_map.1 hu; rfl) (by unfold maxLen; omega) (by omega) hbase
  exact ⟨v', w', hrun, by unfold OwnS6 sv6; rw [List.map_append, List.length_append]; exact k1, hgr, hblk⟩
end
/-- What Locals holds: the box of its result, the box of the set, the set, the row. -/
structure LcX (lb sb mb base : Nat) (D : List ByteArray) (v : Value) (X : World) : Prop where
  bl : Boxed X lb 23 v
  bs : Boxed X sb 93 (.map (some mb))
  mp : MapS X mb D
  row : OwnS6 X base v D
  lb_lt : lb < base
  sb_lt : sb < base
  mb_lt : mb < base
  ne : lb ≠ mb ∧ sb ≠ mb ∧ lb ≠ sb
theorem MapS.keep {w X : World} {b : Nat} {D : List ByteArray} (h : MapS w b D) (hc : X.heap[b]? = w.heap[b]?) : MapS X b D := by
  obtain ⟨T, ⟨es, clock, h1, h3⟩, h2⟩ := h
  exact ⟨T, ⟨es, clock, hc.trans h1, h3⟩, h2⟩
theorem LcX.chg {lb sb mb base : Nat} {D : List ByteArray} {v : Value} {X Y : World} {F : Nat → Prop} (h : LcX lb sb mb base D v X) (hc : Chg X Y F) (h1 : F lb) (h2 : F sb) (h3 : F mb) (h4 : ∀ g, v.ownBlock = some g → F g) : LcX lb sb mb base D v Y :=
  ⟨(hc.block _ h.bl.lt h1).trans h.bl, (hc.block _ h.bs.lt h2).trans h.bs, h.mp.keep (hc.block _ h.mp.lt h3), h.row.chg hc h4, h.lb_lt, h.sb_lt, h.mb_lt, h.ne⟩
set_option maxRecDepth 100000 in
theorem iAdd6 {lb sb mb base : Nat} {D : List ByteArray} {v : Value} (s : ByteArray) (hs : s.size ≤ maxLen) (w : World) (h : LcX lb sb mb base D v w) (hD : D.length ≤ 4000001) (hbs : base ≤ w.heap.size) :
    Calls Tryz.prog 58 #[.string s, .pointer (some ⟨sb, 0, none⟩), .pointer (some ⟨lb, 0, none⟩)] w fun e w' => e = .returned (.tuple #[]) ∧ ∃ v', LcX lb sb mb base (adL s D) v' w' ∧ Chg w w' (fun q => q ≠ lb ∧ q ≠ mb ∧ v.ownBlock ≠ some q) ∧ ∀ g, v'.ownBlock = some g → v.ownBlock = some g ∨ w.heap.size ≤ g := by
  have hlk := h.mp.look hs
  have k1 := h.bs.cell
  obtain ⟨Dv, hDv⟩ : ∃ x, adL s D = x := ⟨_, rfl⟩
  rw [hDv]
  unfold adL at hDv
  cases hin : inS s D
  · rw [hin] at hlk
    rw [hin, if_neg (by decide)] at hDv
    subst hDv
    obtain ⟨w1, hput, hm1, hg1⟩ := h.mp.put (by unfold maxLen; omega) hs
    have c1 : Chg w w1 (fun q => q ≠ mb) := Chg.ofGrown hg1 fun k hk e => hk (by injection e with e; exact e.symm)
    have L1 : Boxed w1 lb 23 v := (c1.block _ h.bl.lt h.ne.1).trans h.bl
    have S1 : Boxed w1 sb 93 (.map (some mb)) := (c1.block _ h.bs.lt h.ne.2.1).trans h.bs
    have R1 : OwnS6 w1 base v D := h.row.chg c1 fun g hg e => by have := (h.row.lt hg).1; have := h.mb_lt; omega
    obtain ⟨U, hU⟩ : ∃ U, w1.alloc (.cells #[.string s] 9) = U := ⟨_, rfl⟩
    have hbU : Below w1.heap.size w1 U := by rw [← hU]; exact belowAlloc _ _
    have hBU : Blk U w1.heap.size 9 #[.string s] := by rw [← hU]; exact Blk.new _ _ _
    have hz1 := c1.size
    have hzU : U.heap.size = w1.heap.size + 1 := by rw [← hU]; simp
    obtain ⟨v', w2, hrun, ho2, hg2, hblk⟩ := (R1.below hbU).push (by omega) (by omega) hBU 23
    have c2 : Chg U w2 (fun q => v.ownBlock ≠ some q) := Chg.ofGrown hg2 fun _ h => h
    have hvl : ∀ g, v.ownBlock = some g → base ≤ g := fun g hg => (h.row.lt hg).1
    have hlow : ∀ q, q < base → v.ownBlock ≠ some q := fun q hq e => by have := hvl q e; omega
    have L2 : Boxed w2 lb 23 v := (c2.block _ (by have := L1.lt; omega) (hlow _ h.lb_lt)).trans ((hbU.block _ L1.lt).trans L1)
    have c3 := chgSet16 w2 lb 0 v'
    have hv' : ∀ g, v'.ownBlock = some g → base ≤ g := fun g hg => (ho2.lt hg).1
    have hcU : Chg w U (fun q => q ≠ mb) := c1.trans (Chg.ofBelow hbU (fun q => q ≠ mb)) fun _ _ h => h
    have hall : Chg w (w2.setCell ⟨lb, 0, none⟩ v') (fun q => q ≠ lb ∧ q ≠ mb ∧ v.ownBlock ≠ some q) :=
      ((hcU.mono fun q hq => hq.2.1).trans c2 fun q _ hq => hq.2.2).trans c3 fun q _ hq => hq.1
    have HF := Lib.hid (show LcX lb sb mb base (D ++ [s]) v' (w2.setCell ⟨lb, 0, none⟩ v') ∧ Chg w (w2.setCell ⟨lb, 0, none⟩ v') (fun q => q ≠ lb ∧ q ≠ mb ∧ v.ownBlock ≠ some q) ∧ ∀ g, v'.ownBlock = some g → v.ownBlock = some g ∨ w.heap.size ≤ g from
      ⟨⟨L2.set v', (hall.block _ h.bs.lt ⟨fun e => h.ne.2.2 e.symm, h.ne.2.1, hlow _ h.sb_lt⟩).trans h.bs,
        hm1.keep ((c3.block _ (by have := c2.size; have := hm1.lt; omega) (fun e => h.ne.1 e.symm)).trans ((c2.block _ (by have := hm1.lt; omega) (hlow _ h.mb_lt)).trans (hbU.block _ hm1.lt))), ho2.chg c3 fun g hg e => by have := hv' g hg; have := h.lb_lt; omega, h.lb_lt, h.sb_lt, h.mb_lt, h.ne⟩, hall, fun g hg => by
        rcases hblk with e | e
        · exact .inl (e ▸ hg)
        · rw [e] at hg
          injection hg with hg
          exact .inr (by omega)⟩)
    obtain ⟨A0, q0, rfl⟩ := h.row.sl
    obtain ⟨A1, q1, rfl⟩ := ho2.sl
    obtain ⟨n0, hn0⟩ : ∃ n, D.length = n := ⟨_, rfl⟩
    obtain ⟨n1, hn1⟩ : ∃ n, (D ++ [s]).length = n := ⟨_, rfl⟩
    rw [hn0] at hrun L1 L2 HF ⊢
    rw [hn1] at hrun HF
    have k2 := S1.cell
    have k3 := L1.cell
    have k4 := L2.cell
    have k5 := L2.frozen
    have hl := h.row.sl
    clear h hm1 hg1 c1 R1 ho2 hg2 c2 hvl hlow c3 hv' hcU hall hbU hBU hblk L1 L2 S1 hz1 hzU hn0 hn1 hl
    subst hU
    go_enter Tryz.func58, Tryz.ntmps58
    go_wp2_with (at_builtin; refine Lib.wpList_append_run _ rfl _ _ _ _ rfl _ _ rfl rfl _ _ hrun ?_)
    go_end0
    exact ⟨rfl, _, HF.out⟩
  · rw [hin] at hlk
    rw [hin, if_pos rfl] at hDv
    subst hDv
    have HF := Lib.hid h
    clear h
    go_enter Tryz.func58, Tryz.ntmps58
    go_wp2_with fail
    go_end0
    exact ⟨rfl, v, HF.out, Chg.refl _ _, fun g h => .inl h⟩
end Go.Proofs.YtiaendggmamnkaaGreatDoor
