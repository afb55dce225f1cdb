/-
  The marks that ranges over a function leave behind in a loop. Without any program.
-/
import Derived.Test.YtjioiaeiggjneaaDoorKRange
import Derived.Test.YtjioiaeiggjneaaDoorKChg
import Derived.Test.YtjioiaeiggjneaaDoorKLinW
import Derived.Test.YtjioiaeiggjneaaDoorKLinY
import Derived.Test.YtjioiaeiggjneaaDoorKLinF
import Derived.Test.YtjioiaeiggjneaaDoorKCnt
namespace Go.Proofs.YtjioiaeiggjneaaDoor
open Go Go.RowKit

/-- The mark of a range over a function. -/
def markR (D : Nat) : Deferred := { target := .collected D, args := #[] }
/-- The blocks of the marks: each holds no call. -/
def OpenR (Ds : List Nat) (W : World) : Prop := ∀ D ∈ Ds, W.heap[D]? = some (.deferred (some []))
theorem OpenR.keep {Ds : List Nat} {W W' : World} (h : OpenR Ds W) (hk : ∀ D ∈ Ds, W'.heap[D]? = W.heap[D]?) : OpenR Ds W' := fun D hD => (hk D hD).trans (h D hD)
theorem OpenR.lt {Ds : List Nat} {W : World} (h : OpenR Ds W) {D : Nat} (hD : D ∈ Ds) : D < W.heap.size := (Array.getElem?_eq_some_iff.1 (h D hD)).1
theorem OpenR.chg {Ds : List Nat} {W W' : World} {F : Nat → Prop} (h : OpenR Ds W) (hc : Chg W W' F) (hF : ∀ D ∈ Ds, F D) : OpenR Ds W' := h.keep fun D hD => hc.block D (h.lt hD) (hF D hD)
/-- A function that leaves with marks alone: each block is shut, then it returns. -/
theorem leaveR {F : Fence} {n : Nat} {P : Program} {fn : Func} {tmps : Array Value} {R : Ending → World → Prop} {K : World → Prop} {B : Nat} (hK : ∀ (W : World) (D : Nat), B ≤ D → W.heap[D]? = some (.deferred (some [])) → K W → K (W.putObj D (.deferred none)))
    (hfin : ∀ W, K W → LeavesIn F n P fn tmps R [] .returning W) : ∀ (Ds : List Nat) (W : World), Ds.Nodup → (∀ D ∈ Ds, B ≤ D) → OpenR Ds W → K W → LeavesInM F n P fn tmps R (Ds.map markR) .returning W
  | [], W, _, _, _, h => hfin W h
  | D :: Ds, W, hn, hB, ho, h => by
    rw [List.nodup_cons] at hn
    have hd := ho D (by simp)
    refine ⟨by simp, .inl ⟨D, W.putObj D (.deferred none), rfl, run_takeDeferred hd, ?_⟩⟩
    refine leaveR hK hfin Ds _ hn.2 (fun D' h' => hB D' (by simp [h'])) (fun D' h' => ?_) (hK W D (hB D (by simp)) hd h)
    have hne : D' ≠ D := fun e => hn.1 (e ▸ h')
    exact (World.putObj_heap_other hne).trans (ho D' (by simp [h']))
theorem belowPutR {w W : World} {D : Nat} {o : Obj} (h : Below w.heap.size w W) (hD : w.heap.size ≤ D) : Below w.heap.size w (W.putObj D o) :=
  ⟨h.os, h.tape, h.output, by simpa using h.size, fun k hk => (World.putObj_heap_other (by omega)).trans (h.block k hk)⟩
end Go.Proofs.YtjioiaeiggjneaaDoor

namespace Go.Proofs.YtjioiaeiggjneaaDoor

theorem memSum {g : Nat → Nat} {a : Nat} : ∀ {L : List Nat}, a ∈ L → g a ≤ (L.map g).sum
  | b :: L, h => by
    rw [List.map_cons, List.sum_cons]
    rcases List.mem_cons.1 h with rfl | h
    · omega
    · have := memSum (g := g) h; omega
theorem waysNext {N : Nat} {f : Nat → Nat → Bool} {k s a : Nat} (ha : a ∈ nxtL N f s) : ways N f k (addS s a) ≤ ways N f (k + 1) s := by
  rw [waysSucc]
  exact memSum (g := fun b => ways N f k (addS s b)) ha
theorem twPre {a : Nat} : ∀ {pre post : List Nat}, a ∉ pre → (pre ++ a :: post).takeWhile (fun b => b != a) = pre
  | [], post, _ => by simp
  | b :: pre, post, h => by
    have hb : b ≠ a := fun e => h (by simp [e])
    rw [List.cons_append, List.takeWhile_cons, if_pos (by simpa using hb), twPre fun h' => h (by simp [h'])]
/-- What is known when k numbers have been placed. -/
structure Plc (N : Nat) (f : Nat → Nat → Bool) (k s : Nat) : Prop where
  bit : ∀ i, s.testBit i = true → i < N
  out : outS N s = N - k
  rch : RchS N f 0 s
  wl : ways N f (N - k) s ≤ ways N f N 0
  le : k ≤ N
theorem Plc.start (N : Nat) (f : Nat → Nat → Bool) : Plc N f 0 0 := ⟨fun i h => by simp at h, outZero, rchRefl, Nat.le_refl _, Nat.zero_le _⟩
theorem Plc.lt {N : Nat} {f : Nat → Nat → Bool} {k s : Nat} (h : Plc N f k s) (hN : N ≤ 64) : s < B64 := maskBound fun i hi => by have := h.bit i hi; omega
theorem Plc.next {N : Nat} {f : Nat → Nat → Bool} {k s a : Nat} (h : Plc N f k s) (hk : k < N) (ha : a ∈ nxtL N f s) : Plc N f (k + 1) (addS s a) := by
  obtain ⟨h1, h2⟩ := nxtMem.1 ha
  have h3 := outAdd h1 (canIff.1 h2).1
  refine ⟨fun i hi => ?_, by have := h.out; omega, rchNext h.rch ha, Nat.le_trans ?_ h.wl, hk⟩
  · rw [addSBit, Bool.or_eq_true, decide_eq_true_iff] at hi
    rcases hi with hi | rfl
    · exact h.bit i hi
    · exact h1
  · have := waysNext (k := N - (k + 1)) ha
    rwa [show N - (k + 1) + 1 = N - k by omega] at this
theorem Plc.val {N : Nat} {f : Nat → Nat → Bool} {k s a : Nat} (h : Plc N f k s) (hk : k < N) (ha : a ∈ nxtL N f s) (hw : ways N f N 0 ≤ 9223372036854775807) : valM N f (addS s a) = (ways N f (N - (k + 1)) (addS s a) : Int) := by
  have hn := h.next hk ha
  unfold valM capW
  rw [hn.out, if_pos (Nat.le_trans hn.wl hw)]
/-! Rank. -/
def nats (o : List Int) : List Nat := o.map Int.toNat
structure RkTo (N : Nat) (f : Nat → Nat → Bool) (o : List Int) (k s r : Nat) : Prop extends Plc N f k s where
  ok : okI N f s (o.drop k) = true
  sum : r + rnk N f (N - k) s (nats (o.drop k)) = rnk N f N 0 (nats o)
theorem rkStart {N : Nat} {f : Nat → Nat → Bool} {o : List Int} (h : okI N f 0 o = true) : RkTo N f o 0 0 0 := ⟨Plc.start N f, h, by simp⟩
theorem rkGet {N : Nat} {f : Nat → Nat → Bool} {o : List Int} {k s r : Nat} (h : RkTo N f o k s r) (hk : k < o.length) : ∃ a : Nat, o[k] = (a : Int) ∧ a ∈ nxtL N f s ∧ okI N f (addS s a) (o.drop (k + 1)) = true := by
  have h1 := h.ok
  rw [okIDrop hk, Bool.and_eq_true, Bool.and_eq_true, decide_eq_true_iff] at h1
  refine ⟨o[k].toNat, by omega, ?_, h1.2⟩
  have := h1.1.2
  rwa [nxtSBit, decide_eq_true_iff] at this
theorem natsDrop {o : List Int} {k a : Nat} (hk : k < o.length) (ha : o[k] = (a : Int)) : nats (o.drop k) = a :: nats (o.drop (k + 1)) := by
  rw [List.drop_eq_getElem_cons hk, nats, List.map_cons, ha]
  rfl
/-- What the inner loop knows: those in pre are not a, and the ranks of what begins with them have been added. -/
structure RkIn (N : Nat) (f : Nat → Nat → Bool) (k s r a : Nat) (pre : List Nat) (r' : Nat) : Prop where
  no : a ∉ pre
  sum : r' = r + (pre.map fun b => ways N f (N - (k + 1)) (addS s b)).sum
theorem rkIn0 {N : Nat} {f : Nat → Nat → Bool} {k s r a : Nat} : RkIn N f k s r a [] r := ⟨by simp, by simp⟩
theorem rkSucc {N : Nat} {f : Nat → Nat → Bool} {o : List Int} {k s r a : Nat} (h : RkTo N f o k s r) (hk : k < o.length) (hkN : k < N) (ha : o[k] = (a : Int)) :
    rnk N f N 0 (nats o) = r + (skp (fun b => ways N f (N - (k + 1)) (addS s b)) (nxtL N f s) a + rnk N f (N - (k + 1)) (addS s a) (nats (o.drop (k + 1)))) := by
  rw [← h.sum, natsDrop hk ha, show N - k = N - (k + 1) + 1 by omega, rnk]
theorem rkHit {N : Nat} {f : Nat → Nat → Bool} {o : List Int} {k s r a : Nat} (h : RkTo N f o k s r) (hk : k < o.length) (hkN : k < N) (ha : o[k] = (a : Int)) (hm : a ∈ nxtL N f s) (hok : okI N f (addS s a) (o.drop (k + 1)) = true)
    {pre post : List Nat} {r' : Nat} (hL : nxtL N f s = pre ++ a :: post) (hi : RkIn N f k s r a pre r') : RkTo N f o (k + 1) (addS s a) r' := by
  refine ⟨h.toPlc.next hkN hm, hok, ?_⟩
  rw [rkSucc h hk hkN ha, hi.sum, skp, hL, twPre hi.no]
  omega
theorem twSub {a b : Nat} (hb : b ≠ a) {pre post : List Nat} (hp : a ∉ pre) {g : Nat → Nat} : ((pre ++ [b]).map g).sum ≤ (((pre ++ b :: post).takeWhile fun x => x != a).map g).sum := by
  have e : (pre ++ b :: post).takeWhile (fun x => x != a) = pre ++ [b] ++ post.takeWhile (fun x => x != a) := by
    rw [List.append_assoc]
    induction pre with
    | nil => simp [hb]
    | cons c pre ih =>
      have hc : c ≠ a := fun e => hp (by simp [e])
      rw [List.cons_append, List.takeWhile_cons, if_pos (by simpa using hc), ih fun h => hp (by simp [h])]
      rfl
  rw [e]
  generalize pre ++ [b] = q
  rw [List.map_append, List.sum_append]
  omega
theorem rkMiss {N : Nat} {f : Nat → Nat → Bool} {o : List Int} {k s r a b : Nat} (h : RkTo N f o k s r) (hk : k < o.length) (hkN : k < N) (ha : o[k] = (a : Int)) (hb : b ≠ a)
    {pre post : List Nat} {r' : Nat} (hL : nxtL N f s = pre ++ b :: post) (hi : RkIn N f k s r a pre r') :
    RkIn N f k s r a (pre ++ [b]) (r' + ways N f (N - (k + 1)) (addS s b)) ∧ r' + ways N f (N - (k + 1)) (addS s b) ≤ rnk N f N 0 (nats o) := by
  have e : (((pre ++ [b]).map fun b => ways N f (N - (k + 1)) (addS s b)).sum) = (pre.map fun b => ways N f (N - (k + 1)) (addS s b)).sum + ways N f (N - (k + 1)) (addS s b) := by
    rw [List.map_append, List.sum_append]; simp
  refine ⟨⟨?_, by rw [e, hi.sum]; omega⟩, ?_⟩
  · rw [List.mem_append, List.mem_singleton]
    rintro (h' | h')
    · exact hi.no h'
    · exact hb h'.symm
  · have h1 := twSub hb hi.no (post := post) (g := fun b => ways N f (N - (k + 1)) (addS s b))
    rw [e] at h1
    rw [rkSucc h hk hkN ha, skp, hL, hi.sum]
    omega
theorem rkLt {N : Nat} {f : Nat → Nat → Bool} {l : List Nat} (hl : l.length = N) (ho : okL N f 0 l = true) : rnk N f N 0 l < ways N f N 0 := by
  have hm : l ∈ exts N f N 0 := extsMem.2 ⟨hl, ho⟩
  obtain ⟨i, hi, e⟩ := List.getElem_of_mem hm
  have := rnkGet (show (exts N f N 0)[i]? = some l by rw [List.getElem?_eq_getElem hi, e])
  unfold ways
  omega
theorem okNats {N : Nat} {f : Nat → Nat → Bool} : ∀ {o : List Int} {s : Nat}, okI N f s o = true → okL N f s (nats o) = true ∧ o = (nats o).map Int.ofNat
  | [], _, _ => ⟨rfl, rfl⟩
  | a :: o, s, h => by
    rw [okI, Bool.and_eq_true, Bool.and_eq_true, decide_eq_true_iff, nxtSBit, decide_eq_true_iff] at h
    obtain ⟨⟨h0, h1⟩, h2⟩ := h
    obtain ⟨h3, h4⟩ := okNats h2
    obtain ⟨h5, h6⟩ := nxtMem.1 h1
    refine ⟨?_, ?_⟩
    · rw [nats, List.map_cons, okL, h6, decide_eq_true h5]
      exact h3
    · rw [nats, List.map_cons, List.map_cons]
      have e : a = Int.ofNat a.toNat := by simp; omega
      rw [← e]
      congr 1
theorem rkDone {N : Nat} {f : Nat → Nat → Bool} {o : List Int} {k s r : Nat} (h : RkTo N f o k s r) (hk : o.length ≤ k) : r = rnk N f N 0 (nats o) := by
  rw [← h.sum, List.drop_eq_nil_of_le hk]
  cases N - k <;> simp [nats, rnk]
/-! Nth. -/
structure NtTo (N : Nat) (f : Nat → Nat → Bool) (i0 k s i : Nat) (pre : List Nat) : Prop extends Plc N f k s where
  len : pre.length = k
  lt : i < ways N f (N - k) s
  eq : nthL N f N 0 i0 = pre ++ nthL N f (N - k) s i
theorem ntStart {N : Nat} {f : Nat → Nat → Bool} {i0 : Nat} (h : i0 < ways N f N 0) : NtTo N f i0 0 0 i0 [] := ⟨Plc.start N f, rfl, h, rfl⟩
/-- What the inner loop knows: those ahead of 'rest' have been passed. -/
structure NtIn (N : Nat) (f : Nat → Nat → Bool) (k s i : Nat) (rest : List Nat) (i' : Nat) : Prop where
  eq : pck (fun a => ways N f (N - (k + 1)) (addS s a)) (nxtL N f s) i = pck (fun a => ways N f (N - (k + 1)) (addS s a)) rest i'
  lt : i' < (rest.map fun a => ways N f (N - (k + 1)) (addS s a)).sum
theorem ntIn0 {N : Nat} {f : Nat → Nat → Bool} {i0 k s i : Nat} {pre : List Nat} (h : NtTo N f i0 k s i pre) (hk : k < N) : NtIn N f k s i (nxtL N f s) i := ⟨rfl, by
  have := h.lt
  rwa [show N - k = N - (k + 1) + 1 by omega, waysSucc] at this⟩
theorem ntMiss {N : Nat} {f : Nat → Nat → Bool} {k s i b i' : Nat} {rest : List Nat} (h : NtIn N f k s i (b :: rest) i') (hb : ¬ i' < ways N f (N - (k + 1)) (addS s b)) : NtIn N f k s i rest (i' - ways N f (N - (k + 1)) (addS s b)) := by
  refine ⟨?_, ?_⟩
  · rw [h.eq, pck, if_neg hb]
  · have := h.lt
    rw [List.map_cons, List.sum_cons] at this
    omega
theorem ntHit {N : Nat} {f : Nat → Nat → Bool} {i0 k s i b i' : Nat} {pre rest : List Nat} (h : NtTo N f i0 k s i pre) (hk : k < N) (hm : b ∈ nxtL N f s) (hi : NtIn N f k s i (b :: rest) i') (hb : i' < ways N f (N - (k + 1)) (addS s b)) : NtTo N f i0 (k + 1) (addS s b) i' (pre ++ [b]) := by
  refine ⟨h.toPlc.next hk hm, by rw [List.length_append, h.len]; rfl, hb, ?_⟩
  rw [h.eq, show N - k = N - (k + 1) + 1 by omega, nthL, hi.eq, pck, if_pos hb, List.append_assoc]
  rfl
theorem ntEnd {N : Nat} {f : Nat → Nat → Bool} {k s i i' : Nat} : ¬ NtIn N f k s i [] i' := fun h => by
  have := h.lt
  simp at this
theorem ntDone {N : Nat} {f : Nat → Nat → Bool} {i0 s i : Nat} {pre : List Nat} (h : NtTo N f i0 N s i pre) : pre = nthL N f N 0 i0 := by
  rw [h.eq, Nat.sub_self, nthL, List.append_nil]
end Go.Proofs.YtjioiaeiggjneaaDoor

namespace Go.Proofs.YtjioiaeiggjneaaDoor
open Go Go.RowKit

/-- The boxes of ways, rank and done lie behind w3. -/
structure RkB (w3 : World) (q s r : Nat) (W : World) : Prop where
  bel : Below w3.heap.size w3 W
  bm : Boxed W w3.heap.size 47 (.map (some q))
  br : Boxed W (w3.heap.size + 1) 3 (.int .i64 (r : Int))
  bd : Boxed W (w3.heap.size + 1 + 1) 51 (.int .u64 (s : Int))
theorem RkB.chg {w3 W W' : World} {q s r : Nat} {F : Nat → Prop} (h : RkB w3 q s r W) (hc : Chg W W' F) (hF : ∀ b, b < w3.heap.size + 1 + 1 + 1 → F b) : RkB w3 q s r W' :=
  ⟨⟨hc.os.trans h.bel.os, hc.tape.trans h.bel.tape, hc.output.trans h.bel.output, Nat.le_trans h.bel.size hc.size, fun k hk => (hc.block k (Nat.lt_of_lt_of_le hk h.bel.size) (hF k (by omega))).trans (h.bel.block k hk)⟩,
    (hc.block _ h.bm.lt (hF _ (by omega))).trans h.bm, (hc.block _ h.br.lt (hF _ (by omega))).trans h.br, (hc.block _ h.bd.lt (hF _ (by omega))).trans h.bd⟩
theorem RkB.below {w3 W W' : World} {q s r : Nat} (h : RkB w3 q s r W) (hb : Below W.heap.size W W') : RkB w3 q s r W' := h.chg (Chg.ofBelow hb fun _ => True) fun _ _ => trivial
theorem RkB.lt {w3 W : World} {q s r : Nat} (h : RkB w3 q s r W) : w3.heap.size + 1 + 1 < W.heap.size := h.bd.lt
theorem RkB.drew {w3 W : World} {q s r : Nat} (h : RkB w3 q s r W) : RkB w3 q s r W.drew := h.chg (Chg.ofBelow ((Below.refl W.heap.size W).drew) fun _ => True) fun _ _ => trivial
theorem RkB.setR {w3 W : World} {q s r : Nat} (h : RkB w3 q s r W) (r' : Nat) : RkB w3 q s r' (W.setCell ⟨w3.heap.size + 1, 0, none⟩ (.int .i64 (r' : Int))) :=
  ⟨h.bel.setCell (by show w3.heap.size ≤ w3.heap.size + 1; omega) _, h.bm.other (by omega) _, h.br.set _, h.bd.other (by omega) _⟩
theorem RkB.setD {w3 W : World} {q s r : Nat} (h : RkB w3 q s r W) (s' : Nat) : RkB w3 q s' r (W.setCell ⟨w3.heap.size + 1 + 1, 0, none⟩ (.int .u64 (s' : Int))) :=
  ⟨h.bel.setCell (by show w3.heap.size ≤ w3.heap.size + 1 + 1; omega) _, h.bm.other (by omega) _, h.br.other (by omega) _, h.bd.set _⟩
theorem rkNew (w3 : World) (q : Nat) : RkB w3 q 0 0 (((w3.alloc (.cells #[.map (some q)] 47)).alloc (.cells #[.int .i64 0] 3)).alloc (.cells #[.int .u64 0] 51)) := by
  refine ⟨((belowAlloc w3 _).alloc (by simp) _).alloc (by simp; omega) _, ((Boxed.new w3 _ _).alloc _).alloc _, ?_, ?_⟩
  · have h := (Boxed.new (w3.alloc (.cells #[.map (some q)] 47)) 3 (.int .i64 0)).alloc (.cells #[.int .u64 0] 51)
    rw [World.size_alloc] at h
    exact h
  · have h := Boxed.new ((w3.alloc (.cells #[.map (some q)] 47)).alloc (.cells #[.int .i64 0] 3)) 51 (.int .u64 0)
    rw [World.size_alloc, World.size_alloc] at h
    exact h
/-- An entry of the table. -/
theorem lookB {w3 W : World} {q : Nat} {D : List Nat} {N : Nat} {f : Nat → Nat → Bool} (hM : MapT w3 q D (valM N f)) (hb : Below w3.heap.size w3 W) {x : Nat} (hx : x < B64) (hD : x ∈ D) {v : Nat} (hv : valM N f x = (v : Int)) :
    (Instr.lookup 47 (.map (some q)) (.int .u64 (x : Int)) false).run Tryd.prog W = .ok (.int .i64 (v : Int)) W := by
  have h := (hM.chg (Chg.ofBelow hb fun _ => True) trivial).look1 hx
  rw [if_pos hD, hv] at h
  exact h
end Go.Proofs.YtjioiaeiggjneaaDoor
