/-
  The contract of pairsOf: a map of the call's own that holds just the pairs of the relation.
-/
import Derived.Test.YtpfdhjmhoggioaaRVal
namespace Go.Proofs.Ytpfdhjmhoggioaa
open Go.RowKit Go.Maps

/-- Which pairs a list contains. -/
def memP (l : Prs) (x y : Int) : Bool := decide ((x, y) ∈ l)
theorem memPSucc {l : Prs} {k : Nat} (hk : k < l.length) (x y : Int) : (memP (l.take k) x y || decide (x = l[k].1 ∧ y = l[k].2)) = memP (l.take (k + 1)) x y := by
  unfold memP
  rw [List.take_succ_eq_append_getElem hk, Bool.eq_iff_iff, Bool.or_eq_true, decide_eq_true_iff, decide_eq_true_iff, decide_eq_true_iff, List.mem_append, List.mem_singleton]
  constructor
  · rintro (h | ⟨h1, h2⟩)
    · exact .inl h
    · exact .inr (by rw [h1, h2])
  · rintro (h | h)
    · exact .inl h
    · exact .inr (by rw [← h]; exact ⟨rfl, rfl⟩)
/-- All numbers of the pairs are of the kind. -/
def wfL (l : Prs) : Prop := ∀ p ∈ l, wfP p.1 p.2
theorem wfAt {l : Prs} {k : Nat} (h : wfL l) (hk : k < l.length) : wfP l[k].1 l[k].2 := h _ (List.getElem_mem hk)
theorem okWf {n : Int} {l : Prs} (h : okR n l = true) : wfL l := fun p hp => by
  obtain ⟨_, h2, h3⟩ := okIff.1 h
  have := h3 p hp
  unfold inR at this
  exact ⟨wfSmall (by omega) (by omega), wfSmall (by omega) (by omega)⟩
/-- Block B holds a relation. -/
def BoxR (W : World) (B : Nat) (N : Int) (v : Value) : Prop := W.heap[B]? = some (.cells #[.int .i64 N, v] 24 (0, 0))
theorem BoxR.new (W : World) (N : Int) (v : Value) : BoxR (W.alloc (.cells #[.int .i64 N, v] 24)) W.heap.size N v := heap_alloc_new W _
theorem BoxR.lt {W : World} {B : Nat} {N : Int} {v : Value} (h : BoxR W B N v) : B < W.heap.size := (Array.getElem?_eq_some_iff.1 h).1
theorem BoxR.facts {W : World} {B : Nat} {N : Int} {v : Value} (h : BoxR W B N v) : W.cell? ⟨B, 0, none⟩ = some (.int .i64 N) ∧ W.cell? ⟨B, 1, none⟩ = some v ∧ W.frozen? ⟨B, 0, none⟩ = false ∧ W.frozen? ⟨B, 1, none⟩ = false := by
  refine ⟨?_, ?_, ?_, ?_⟩ <;> simp [World.cell?, World.frozen?, show W.heap[B]? = _ from h]
theorem BoxR.below {W W' : World} {B : Nat} {N : Int} {v : Value} (h : BoxR W B N v) (hb : Below W.heap.size W W') : BoxR W' B N v := (hb.block B h.lt).trans h
theorem BoxR.alloc {W : World} {B : Nat} {N : Int} {v : Value} (h : BoxR W B N v) (o : Obj) : BoxR (W.alloc o) B N v := h.below (belowAlloc W o)
theorem BoxR.stored {W : World} {B : Nat} {N : Int} {v : Value} (h : BoxR W B N v) (N' : Int) (v' : Value) : BoxR ((W.setCell ⟨B, 0, none⟩ (.int .i64 N')).setCell ⟨B, 1, none⟩ v') B N' v' := by
  have hlt : B < W.heap.size := h.lt
  have h' : W.heap[B]? = some (.cells #[.int .i64 N, v] 24 (0, 0)) := h
  show ((W.setCell ⟨B, 0, none⟩ (.int .i64 N')).setCell ⟨B, 1, none⟩ v').heap[B]? = _
  simp [World.setCell, Array.getElem?_modify, h']
theorem BoxR.stored1 {W : World} {B : Nat} {N : Int} {v : Value} (h : BoxR W B N v) (v' : Value) : BoxR (W.setCell ⟨B, 1, none⟩ v') B N v' := by
  have h' : W.heap[B]? = some (.cells #[.int .i64 N, v] 24 (0, 0)) := h
  show (W.setCell ⟨B, 1, none⟩ v').heap[B]? = _
  simp [World.setCell, Array.getElem?_modify, h']
/-- A slice of pairs does not lie in a relation's own block. -/
theorem Rp.apart {W : World} {A : Option Addr} {c : Nat} {l : Prs} (h : Rp W A c l) {B : Nat} {N : Int} {A' : Option Addr} {n c' : Nat} (hB : BoxR W B N (.slice A' n c')) : ∀ ad, A = some ad → 0 < l.length → ad.block ≠ B := by
  intro ad e hl hb
  obtain ⟨b, off, e', _, hc⟩ := h.at_ hl
  rw [e] at e'
  injection e' with e'
  subst e'
  have hb : b = B := hb
  subst hb
  obtain ⟨h0, h1⟩ := hc 0 hl
  have h' : W.heap[b]? = some (.cells #[.int .i64 N, .slice A' n c'] 24 (0, 0)) := hB
  simp only [World.cell?, h', Nat.zero_mul, Nat.add_zero] at h0 h1
  rcases (show off = 0 ∨ off = 1 ∨ 2 ≤ off by omega) with rfl | rfl | ho
  · simp at h1
  · simp at h0
  · simp [ho] at h0
theorem Chg.setCell (w : World) (p : Addr) (v : Value) : Chg w (w.setCell p v) (fun g => g ≠ p.block) :=
  ⟨rfl, rfl, rfl, by simp, fun k _ hk => heap_setCell_other w p k v hk⟩
/-- A slice of pairs outlives the store of a result. -/
theorem Rp.stored {W : World} {A : Option Addr} {c : Nat} {l : Prs} (h : Rp W A c l) {B : Nat} {N : Int} {A' : Option Addr} {n c' : Nat} (hB : BoxR W B N (.slice A' n c')) (u v : Value) : Rp ((W.setCell ⟨B, 0, none⟩ u).setCell ⟨B, 1, none⟩ v) A c l :=
  h.chg ((Chg.setCell W ⟨B, 0, none⟩ u).trans (Chg.setCell _ ⟨B, 1, none⟩ v) fun _ _ h => h) (h.apart hB)
theorem Rp.stored1 {W : World} {A : Option Addr} {c : Nat} {l : Prs} (h : Rp W A c l) {B : Nat} {N : Int} {A' : Option Addr} {n c' : Nat} (hB : BoxR W B N (.slice A' n c')) (v : Value) : Rp (W.setCell ⟨B, 1, none⟩ v) A c l :=
  h.chg (Chg.setCell W ⟨B, 1, none⟩ v) (h.apart hB)
theorem infoRel : (Try.prog.info? 24).map (·.size) = some 2 := by kernel_rfl
theorem ResR {W : World} {B : Nat} {N : Int} {v : Value} (h : BoxR W B N v) {fn : Func} {p : Tmp} (hf : fn.results = #[.cell p 24]) (tmps : Array Value) (hp : tmps.getD p undef = .pointer (some ⟨B, 0, none⟩)) : (results fn tmps).run Try.prog W = .ok (.agg #[.int .i64 N, v]) W :=
  results_cell_row hf tmps W B 24 _ (0, 0) _ hp h Try.underlying24 rfl infoRel
theorem ResE {W : World} {B : Nat} {N : Int} {v : Value} (h : BoxR W B N v) {fn : Func} {p u : Tmp} (hf : fn.results = #[.cell p 24, .tmp u]) (tmps : Array Value) (hp : tmps.getD p undef = .pointer (some ⟨B, 0, none⟩)) : (results fn tmps).run Try.prog W = .ok (.tuple #[.agg #[.int .i64 N, v], tmps.getD u undef]) W := by
  have hp' : tmps[p]?.getD undef = .pointer (some ⟨B, 0, none⟩) := by simpa using hp
  rw [results_cell_tmp hf]
  simp [hp', asAddr, run_loadVar_row W B 24 24 _ (0, 0) _ h Try.underlying24 rfl infoRel]
theorem twoBoxes (w : World) (N M : Int) (u v : Value) : ∃ W, (w.alloc (.cells #[.int .i64 N, u] 24)).alloc (.cells #[.int .i64 M, v] 24) = W ∧ BoxR W w.heap.size N u ∧ BoxR W (w.heap.size + 1) M v ∧ Below w.heap.size w W ∧ W.heap.size = w.heap.size + 2 := by
  refine ⟨_, rfl, (BoxR.new w N u).alloc _, ?_, (belowAlloc w _).alloc (by simp) _, by simp⟩
  have h := BoxR.new (w.alloc (.cells #[.int .i64 N, u] 24)) M v
  rwa [World.size_alloc] at h

/-- The call returns a map of its own that holds just the pairs of S. -/
def GivesM (S : Int → Int → Bool) (m : Nat) (w : World) (e : Ending) (w' : World) : Prop := ∃ b, e = .returned (.map (some b)) ∧ MapP w' b m S ∧ w.heap.size ≤ b ∧ Below w.heap.size w w'

set_option maxHeartbeats 1000000 in
theorem iPairs (N : Int) (l : Prs) (n : Nat) (hn : l.length = n) (hwf : wfL l) (hs : n ≤ 65536) (A : Option Addr) (c : Nat) (w : World) (ha : Rp w A c l) :
    Calls Try.prog 34 #[relV N A n c] w (GivesM (memP l) n w) := by
  have hla := ha.le
  have hca := ha.max
  unfold maxLen at hca
  have HA := Lib.hid ha; clear ha
  have HN := Lib.hid hn; clear hn
  have HW := Lib.hid hwf; clear hwf
  have hmm := @run_makeMap Try.prog
  go_enter Try.func34, Try.ntmps34
  go_wp2
  clear hmm
  have HM0 : Hid (MapP ((w.alloc (.cells #[.int .i64 N, .slice A n c] 24)).alloc (.map #[] 0)) (w.heap.size + 1) 0 (memP (l.take 0))) := by
    have h := MapP.made (w.alloc (.cells #[.int .i64 N, .slice A n c] 24))
    rw [World.size_alloc] at h
    exact Lib.hid (h.congr fun x y _ => by simp [memP])
  go_loopw [10] (fun i wr => ∃ k : Nat, k ≤ n ∧ i = .int .i64 k ∧ Hid (MapP wr (w.heap.size + 1) k (memP (l.take k))) ∧ Below w.heap.size w wr ∧ w.heap.size + 1 < wr.heap.size) (fun i _ => n - (intOf i).toNat)
  case atStart => exact ⟨0, Nat.zero_le _, rfl, HM0, (belowAlloc _ _).alloc (by simp) _, by simp⟩
  case round =>
    clear HM0
    obtain ⟨k, hk, rfl, HM, hb, hsz⟩ := hrel
    by_cases hlt : k < n
    · have hkl : k < l.length := by have := HN.out; omega
      obtain ⟨b, off, rfl, had, hc1, hc2⟩ := (HA.out.below hb).one hkl
      have HK := Lib.hid (wfAt HW.out hkl)
      have HS := Lib.hid (memPSucc hkl)
      generalize l[k].1 = x at *
      generalize l[k].2 = y at *
      go_wp2_with (at_mapUpdate; refine wpList_putP _ rfl (.tmp 14) (.tmp 15) (.const (.bool true)) rfl (w.heap.size + 1) k _ (HM.out.alloc _) (by unfold maxLen; omega) rfl x y rfl HK.out rfl ?_; intro w4 m4 g4; have HM4 := Lib.hid (m4.congr fun u v _ => HS.out u v); have G4 := Lib.hid g4; clear m4 g4)
      go_roundw
      case rel => exact ⟨k + 1, by omega, by go_num, HM4, (hb.alloc hb.size _).grown G4.out (by simp; omega) (fun i hi => by injection hi with hi; omega), by have := G4.out.size; simp at this; omega⟩
      case measure => simp [intOf]; omega
    · obtain rfl : k = n := by omega
      have HM2 : Hid (MapP wr (w.heap.size + 1) k (memP l)) := by
        have h := HM.out
        rw [List.take_of_length_le (by have := HN.out; omega)] at h
        exact Lib.hid h
      go_wp2
      go_ret
      exact ⟨_, rfl, HM2.out, by omega, hb⟩
end Go.Proofs.Ytpfdhjmhoggioaa
