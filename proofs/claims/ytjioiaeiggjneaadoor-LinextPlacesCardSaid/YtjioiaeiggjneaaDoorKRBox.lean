/-
  Words for relations in memory: which pairs a list holds, a relation's own block, results that are relations.
-/
import Derived.Test.YtjioiaeiggjneaaDoorKRVal
import Derived.Maps.OwnOps
import Derived.Maps.Views
namespace Go.Proofs.YtjioiaeiggjneaaDoor
open Go.RowKit

/-- Which pairs a list contains. -/
def memP (l : Prs) (x y : Int) : Bool := decide ((x, y) ∈ l)
theorem memPSucc {l : Prs} {k : Nat} (hk : k < l.length) (x y : Int) : (memP (l.take k) x y || decide (x = l[k].1 ∧ y = l[k].2)) = memP (l.take (k + 1)) x y := by
  unfold memP
  rw [List.take_succ_eq_append_getElem hk, Bool.eq_iff_iff, Bool.or_eq_true, decide_eq_true_iff, decide_eq_true_iff, decide_eq_true_iff, List.mem_append, List.mem_singleton]
  constructor
  · rintro (h | ⟨h1, h2⟩)
    · exact .inl h
    · exact .inr (by rw [h1, h2])
  · rintro (h | h)
    · exact .inl h
    · exact .inr (by rw [← h]; exact ⟨rfl, rfl⟩)
/-- All numbers of the pairs are of the kind. -/
def wfL (l : Prs) : Prop := ∀ p ∈ l, wfP p.1 p.2
theorem wfAt {l : Prs} {k : Nat} (h : wfL l) (hk : k < l.length) : wfP l[k].1 l[k].2 := h _ (List.getElem_mem hk)
theorem okWf {n : Int} {l : Prs} (h : okR n l = true) : wfL l := fun p hp => by
  obtain ⟨_, h2, h3⟩ := okIff.1 h
  have := h3 p hp
  unfold inR at this
  exact ⟨wfSmall (by omega) (by omega), wfSmall (by omega) (by omega)⟩
/-- Block B holds a relation. -/
def BoxR (W : World) (B : Nat) (N : Int) (v : Value) : Prop := W.heap[B]? = some (.cells #[.int .i64 N, v] 24 (0, 0))
theorem BoxR.new (W : World) (N : Int) (v : Value) : BoxR (W.alloc (.cells #[.int .i64 N, v] 24)) W.heap.size N v := heap_alloc_new W _
theorem BoxR.lt {W : World} {B : Nat} {N : Int} {v : Value} (h : BoxR W B N v) : B < W.heap.size := (Array.getElem?_eq_some_iff.1 h).1
theorem BoxR.facts {W : World} {B : Nat} {N : Int} {v : Value} (h : BoxR W B N v) : W.cell? ⟨B, 0, none⟩ = some (.int .i64 N) ∧ W.cell? ⟨B, 1, none⟩ = some v ∧ W.frozen? ⟨B, 0, none⟩ = false ∧ W.frozen? ⟨B, 1, none⟩ = false := by
  refine ⟨?_, ?_, ?_, ?_⟩ <;> simp [World.cell?, World.frozen?, show W.heap[B]? = _ from h]
theorem BoxR.below {W W' : World} {B : Nat} {N : Int} {v : Value} (h : BoxR W B N v) (hb : Below W.heap.size W W') : BoxR W' B N v := (hb.block B h.lt).trans h
theorem BoxR.alloc {W : World} {B : Nat} {N : Int} {v : Value} (h : BoxR W B N v) (o : Obj) : BoxR (W.alloc o) B N v := h.below (belowAlloc W o)
theorem BoxR.stored {W : World} {B : Nat} {N : Int} {v : Value} (h : BoxR W B N v) (N' : Int) (v' : Value) : BoxR ((W.setCell ⟨B, 0, none⟩ (.int .i64 N')).setCell ⟨B, 1, none⟩ v') B N' v' := by
  have hlt : B < W.heap.size := h.lt
  have h' : W.heap[B]? = some (.cells #[.int .i64 N, v] 24 (0, 0)) := h
  show ((W.setCell ⟨B, 0, none⟩ (.int .i64 N')).setCell ⟨B, 1, none⟩ v').heap[B]? = _
  simp [World.setCell, Array.getElem?_modify, h']
theorem BoxR.stored1 {W : World} {B : Nat} {N : Int} {v : Value} (h : BoxR W B N v) (v' : Value) : BoxR (W.setCell ⟨B, 1, none⟩ v') B N v' := by
  have h' : W.heap[B]? = some (.cells #[.int .i64 N, v] 24 (0, 0)) := h
  show (W.setCell ⟨B, 1, none⟩ v').heap[B]? = _
  simp [World.setCell, Array.getElem?_modify, h']
/-- A slice of pairs does not lie in a relation's own block. -/
theorem Rp.apart {W : World} {A : Option Addr} {c : Nat} {l : Prs} (h : Rp W A c l) {B : Nat} {N : Int} {A' : Option Addr} {n c' : Nat} (hB : BoxR W B N (.slice A' n c')) : ∀ ad, A = some ad → 0 < l.length → ad.block ≠ B := by
  intro ad e hl hb
  obtain ⟨b, off, e', _, hc⟩ := h.at_ hl
  rw [e] at e'
  injection e' with e'
  subst e'
  have hb : b = B := hb
  subst hb
  obtain ⟨h0, h1⟩ := hc 0 hl
  have h' : W.heap[b]? = some (.cells #[.int .i64 N, .slice A' n c'] 24 (0, 0)) := hB
  simp only [World.cell?, h', Nat.zero_mul, Nat.add_zero] at h0 h1
  rcases (show off = 0 ∨ off = 1 ∨ 2 ≤ off by omega) with rfl | rfl | ho
  · simp at h1
  · simp at h0
  · simp [ho] at h0
theorem Chg.setCell (w : World) (p : Addr) (v : Value) : Chg w (w.setCell p v) (fun g => g ≠ p.block) :=
  ⟨rfl, rfl, rfl, by simp, fun k _ hk => heap_setCell_other w p k v hk⟩
/-- A slice of pairs outlives the store of a result. -/
theorem Rp.stored {W : World} {A : Option Addr} {c : Nat} {l : Prs} (h : Rp W A c l) {B : Nat} {N : Int} {A' : Option Addr} {n c' : Nat} (hB : BoxR W B N (.slice A' n c')) (u v : Value) : Rp ((W.setCell ⟨B, 0, none⟩ u).setCell ⟨B, 1, none⟩ v) A c l :=
  h.chg ((Chg.setCell W ⟨B, 0, none⟩ u).trans (Chg.setCell _ ⟨B, 1, none⟩ v) fun _ _ h => h) (h.apart hB)
theorem Rp.stored1 {W : World} {A : Option Addr} {c : Nat} {l : Prs} (h : Rp W A c l) {B : Nat} {N : Int} {A' : Option Addr} {n c' : Nat} (hB : BoxR W B N (.slice A' n c')) (v : Value) : Rp (W.setCell ⟨B, 1, none⟩ v) A c l :=
  h.chg (Chg.setCell W ⟨B, 1, none⟩ v) (h.apart hB)
theorem infoRel : (Tryd.prog.info? 24).map (·.size) = some 2 := by kernel_rfl
theorem ResR {W : World} {B : Nat} {N : Int} {v : Value} (h : BoxR W B N v) {fn : Func} {p : Tmp} (hf : fn.results = #[.cell p 24]) (tmps : Array Value) (hp : tmps.getD p undef = .pointer (some ⟨B, 0, none⟩)) : (results fn tmps).run Tryd.prog W = .ok (.agg #[.int .i64 N, v]) W :=
  results_cell_row hf tmps W B 24 _ (0, 0) _ hp h Tryd.underlying24 rfl infoRel
theorem ResE {W : World} {B : Nat} {N : Int} {v : Value} (h : BoxR W B N v) {fn : Func} {p u : Tmp} (hf : fn.results = #[.cell p 24, .tmp u]) (tmps : Array Value) (hp : tmps.getD p undef = .pointer (some ⟨B, 0, none⟩)) : (results fn tmps).run Tryd.prog W = .ok (.tuple #[.agg #[.int .i64 N, v], tmps.getD u undef]) W := by
  have hp' : tmps[p]?.getD undef = .pointer (some ⟨B, 0, none⟩) := by simpa using hp
  rw [results_cell_tmp hf]
  simp [hp', asAddr, run_loadVar_row W B 24 24 _ (0, 0) _ h Tryd.underlying24 rfl infoRel]
theorem twoBoxes (w : World) (N M : Int) (u v : Value) : ∃ W, (w.alloc (.cells #[.int .i64 N, u] 24)).alloc (.cells #[.int .i64 M, v] 24) = W ∧ BoxR W w.heap.size N u ∧ BoxR W (w.heap.size + 1) M v ∧ Below w.heap.size w W ∧ W.heap.size = w.heap.size + 2 := by
  refine ⟨_, rfl, (BoxR.new w N u).alloc _, ?_, (belowAlloc w _).alloc (by simp) _, by simp⟩
  have h := BoxR.new (w.alloc (.cells #[.int .i64 N, u] 24)) M v
  rwa [World.size_alloc] at h

theorem belowSet {B : Nat} {a b : World} (h : Below B a b) (p : Addr) (v : Value) (hp : B ≤ p.block) : Below B a (b.setCell p v) :=
  ⟨h.os, h.tape, h.output, by simpa using h.size, fun k hk => (heap_setCell_other b p k v (by omega)).trans (h.block k hk)⟩
/-- A slice of integers, cell by cell at a written-out address. -/
theorem Rd.flat {w : World} {A : Option Addr} {c : Nat} {l : List Int} (h : Rd w A c l) (hl : 0 < l.length) : ∃ b off, A = some ⟨b, off, none⟩ ∧ b < w.heap.size ∧ ∀ j (hj : j < l.length), w.cell? ⟨b, off + j, none⟩ = some (.int .i64 l[j]) := by
  obtain ⟨⟨b, off, spot⟩, e, hb, hc⟩ := Rds.at_ h (by simpa using hl)
  have h0 := hc 0 (.int .i64 l[0]) (by simp [List.getElem?_eq_getElem hl])
  have hspot : spot = none := by simpa [Addr.add] using World.cell?_spot h0
  subst hspot
  refine ⟨b, off, e, hb, fun j hj => ?_⟩
  have := hc j (.int .i64 l[j]) (by simp [List.getElem?_eq_getElem hj])
  rwa [Addr.add_lit] at this
end Go.Proofs.YtjioiaeiggjneaaDoor
