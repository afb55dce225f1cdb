/-
  The contracts of the library's AppendSeq and Collect at pairs: what the iterator gives, as a row of the call's own.
-/
import Derived.Test.YtpfdhjmhoggioaaRKeys
import Derived.RangeFuncBox
namespace Go.Proofs.Ytpfdhjmhoggioaa
open Go.RowKit Go.Maps Go.Sort Go.Shelf
attribute [local go_sem] Oper.semAt_some

/-- Block B holds the pair (x, y). -/
def Box2 (W : World) (B : Nat) (x y : Int) : Prop := W.heap[B]? = some (.cells #[.int .i64 x, .int .i64 y] 38 (0, 0))
theorem Box2.cells {W : World} {B : Nat} {x y : Int} (h : Box2 W B x y) : W.cell? ⟨B, 0, none⟩ = some (.int .i64 x) ∧ W.cell? ⟨B, 1, none⟩ = some (.int .i64 y) := by
  constructor <;> simp [World.cell?, show W.heap[B]? = _ from h]
theorem Box2.kept {X Y : World} {row : Option Nat} {B : Nat} {x y : Int} (h : Box2 X B x y) (hg : X.grownBy Y row) (hr : ∀ r, row = some r → ∃ o : Obj, X.heap[r]? = some o ∧ o.isCells = false) : Box2 Y B x y :=
  (hg.block B (Array.getElem?_eq_some_iff.1 h).1 (fun e => by
    obtain ⟨o, ho, hc⟩ := hr B e.symm
    rw [show X.heap[B]? = _ from h] at ho
    cases ho; cases hc)).trans h
theorem ctSnoc (l : Prs) (p : Int × Int) : ct (l ++ [p]) = ct l ++ ct [p] := ctApp l [p]

set_option maxRecDepth 100000 in
set_option maxHeartbeats 2000000 in
theorem appendSeqIn (F : Fence) (n : Nat) (hf : F.fn 61) (hro : F.round = none) (hn : 2 ≤ n) (g : Nat) (lb : Array Value) (hFg : F.fn g) (eg : ∀ args w, (callFunc g args).run Try.prog w = .ok (.enter g args) w)
    (S Sp : Prs → Prop) (N : Nat) (hN : N ≤ 10000000) (w : World) (hseq : SeqStopsK F (n - 1) Try.prog g lb (fun p : Int × Int => #[pairV p.1 p.2]) KeepsWalks S Sp N w) :
    CallsIn F n Try.prog 61 #[.slice none 0 0, .func (.func g) #[] lb] w fun e w' => ∃ (v : Value) (ss : Prs), e = .returned v ∧ S ss ∧ ss.length ≤ N ∧ OwnP w' w.heap.size v ss ∧ (v = .slice none 0 0 ↔ ss = []) ∧ Below w.heap.size w w' := by
  have h1 : 1 ≤ n := by omega
  obtain ⟨i0, hi, hz0, hz1, hz2⟩ := info_parts infoPair
  refine callsIn_of_wp_marks Try.func61 rfl hf ?_ hro
  simp only [Try.ntmps61, List.size_toArray, List.length_cons, List.length_nil, Nat.reduceAdd, Nat.reduceSub, Array.replicate_succ, Array.replicate_zero, List.push_toArray, List.append_toArray, List.nil_append, List.cons_append]
  gi_wp2
  have bO := Boxed.new w 22 (.slice none 0 0)
  have hB0 : Below w.heap.size w (w.alloc (.cells #[.slice none 0 0] 22)) := belowAlloc _ _
  have hseq0 := hseq
  obtain ⟨W0, hW0⟩ : ∃ W0, w.alloc (.cells #[.slice none 0 0] 22) = W0 := ⟨_, rfl⟩
  have hsz0 : W0.heap.size = w.heap.size + 1 := by rw [← hW0]; simp
  rw [hW0] at bO hB0 ⊢
  clear hW0
  refine wpIn_rangeFunc_ownH hro h1 (gf := g) (lb := lb) rfl hFg eg hseq0 walksK_t walksK_b hB0 (fun _ => rfl)
    (fun pre W => ((∃ v, Boxed W w.heap.size 22 v ∧ W.ownsRow w.heap.size 38 2 v pre.length (ct pre) ∧ (v = .slice none 0 0 ↔ pre = [])) ∧ pre.length ≤ N) ∧ Below w.heap.size w W)
    (fun _ _ _ => False)
    (OwnFrom.and (OwnFrom.and (Own.from (holdsRow_own w.heap.size w.heap.size 22 38 2 (fun pre : Prs => pre.length) (fun pre => ct pre) (fun pre v => v = .slice none 0 0 ↔ pre = [])) _) (ownFrom_pure _ _)) (ownFrom_below (Nat.le_refl _) (by omega)))
    (fun _ _ _ _ _ hs _ _ => hs)
    ⟨⟨⟨_, bO, World.ownsRow_nil _ _ _ _, by simp⟩, by simp⟩, hB0⟩
    (fun p a' W => ∃ Bx, w.heap.size < Bx ∧ Box2 W Bx p.1 p.2 ∧ a' = { tmps := #[.slice none 0 0, .func (.func g) #[] lb, .pointer (some ⟨w.heap.size, 0, none⟩), undef, .slice none 0 0, .pointer (some ⟨Bx, 0, none⟩), .func (.func g) #[] lb, pairV p.1 p.2, undef, undef, undef, undef, undef], defers := [] })
    (fun p a' _ X Y row hs hg hr => by obtain ⟨Bx, h1, h2, h3⟩ := hs; exact ⟨Bx, h1, h2.kept hg (fun r e => (hr r e).2), h3⟩)
    ?assign ?body ?done ?stop
  case assign =>
    rintro l pre p W K ⟨⟨⟨v, hv, hrow, hnil⟩, hl⟩, hB⟩ hK
    have hnew : Box2 (W.alloc (.cells #[.int .i64 p.1, .int .i64 p.2] 38)) W.heap.size p.1 p.2 := World.alloc_heap_new W _
    gi_wp2
    exact hK _ _ ((KeepsOthers.alloc _ _).from _) (KeepsWalks.alloc _ _) ⟨⟨⟨v, hv.alloc _, hrow.alloc _, hnil⟩, hl⟩, hB.alloc hB.size _⟩ ⟨W.heap.size, hv.lt, hnew, rfl⟩
  case body =>
    rintro l pre p a' W hl ⟨r, hr⟩ ⟨⟨⟨v, hv, hrow, hnil⟩, hle⟩, hB⟩ ⟨Bx, hBx, bX, rfl⟩ hlt
    have hc := hv.cell
    obtain ⟨hx, hy⟩ := bX.cells
    obtain ⟨x, y⟩ := p
    gi_wp2_with (gi_at_builtin; refine wpListIn_append_own _ rfl _ _ 22 rfl w.heap.size 38 i0 (.agg #[.int .i64 0, .int .i64 0]) 2 16 Try.underlying22 hi hz0 hz1 hz2 rfl (by decide) _ _ _ rfl (hrow.alloc _) ⟨W.heap.size, 0, none⟩ 1 1 (ct [(x, y)]) rfl rfl (ctCells (cellPair _ _ _ _) rfl) (ctOne _) (by unfold maxLen; omega) (by omega) (by have := hB.size; simp; omega) ?_; intro v' w1 hown' hgrow _; obtain ⟨g', cap', rfl⟩ := ownsRow_succ hown'; obtain ⟨hv1, hv2, hr2, hk2, hb2⟩ := hv.appended (by decide) hrow hB.size (Nat.le_refl _) hown' hgrow; have hc1 := hv1.cell; have hf1 := hv1.frozen)
    exact ⟨hk2.from _, hk2.walks, ⟨⟨_, hv2, by rw [ctSnoc]; simpa using hr2, by simp⟩, by simp; omega⟩, hB.trans hb2⟩
  case done =>
    rintro D ss W hD hS ⟨⟨⟨v, hv, hrow, hnil⟩, hle⟩, hB⟩ hK
    have hc := hv.cell
    gi_wp2
    refine ⟨by simp, .inl ⟨_, _, rfl, run_takeDeferred hK, ?_⟩⟩
    exact ⟨_, results_tmp rfl _ _ _, v, ss, rfl, hS, hle, ownsRow_putObj hrow _ hK rfl, hnil, hB.trans (belowK_b (w := w) (Nat.le_refl _) W D _ _ (by omega) hK rfl rfl)⟩
  case stop =>
    rintro D c pre W _ _ h _
    exact h.elim

set_option maxHeartbeats 1000000 in
theorem collectIn (F : Fence) (n : Nat) (hf : F.fn 56) (hf' : F.fn 61) (hro : F.round = none) (hn : 3 ≤ n) (g : Nat) (lb : Array Value) (hFg : F.fn g) (eg : ∀ args w, (callFunc g args).run Try.prog w = .ok (.enter g args) w)
    (S Sp : Prs → Prop) (N : Nat) (hN : N ≤ 10000000) (w : World) (hseq : SeqStopsK F (n - 1 - 1) Try.prog g lb (fun p : Int × Int => #[pairV p.1 p.2]) KeepsWalks S Sp N w) :
    CallsIn F n Try.prog 56 #[.func (.func g) #[] lb] w fun e w' => ∃ (v : Value) (ss : Prs), e = .returned v ∧ S ss ∧ ss.length ≤ N ∧ OwnP w' w.heap.size v ss ∧ (v = .slice none 0 0 ↔ ss = []) ∧ Below w.heap.size w w' := by
  have h1 : 1 ≤ n := by omega
  refine callsIn_of_wp Try.func56 rfl hf ?_ hro
  simp only [Try.ntmps56, List.size_toArray, List.length_cons, List.length_nil, Nat.reduceAdd, Nat.reduceSub, Array.replicate_succ, Array.replicate_zero, List.push_toArray, List.append_toArray, List.nil_append, List.cons_append]
  gi_wp2_with (gi_at_call 61; refine (appendSeqIn F (n - 1) hf' hro (by omega) g lb hFg eg S Sp N hN _ hseq).mono ?_; rintro e w' ⟨v, ss, rfl, hS, hl, hrow, hnil, hb⟩)
  go_ret
  exact ⟨v, ss, rfl, hS, hl, hrow, hnil, hb⟩
end Go.Proofs.Ytpfdhjmhoggioaa
