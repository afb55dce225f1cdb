/-
  The specification's table: rows of registers in order, one a place; how a pass turns it.
-/
import Derived.Test.YtkanamdfjegcbaaDoorCLf4
import Derived.Test.YtkanamdfjegcbaaDoorCLfY
namespace Go.Proofs.YtkanamdfjegcbaaDoor
open Go Go.RowKit Go.Shelf

theorem rvEq {l : List Int} {S : Int → Bool} (hs : Srt l) (hS : Regs S) (h : ∀ x, x ∈ l ↔ S x = true) : l = rgL S := srtExt hs rgLSrt fun x => (h x).trans (rgLMem hS).symm
/-- The union of the rows of some places. -/
def nowL (T : Nat → Int → Bool) (S : List Nat) : List Int := rgL fun r => S.any fun y => T y r
theorem nowNil (T : Nat → Int → Bool) : nowL T [] = [] := rfl
theorem anyRegs {T : Nat → Int → Bool} {S : List Nat} (h : ∀ y ∈ S, Regs (T y)) : Regs fun r => S.any fun y => T y r := fun r hr => by
  obtain ⟨y, hy, h2⟩ := List.any_eq_true.1 hr
  exact h y hy r h2
theorem nowStep {T : Nat → Int → Bool} {S : List Nat} {i : Nat} (hi : i < S.length) (h : ∀ y ∈ S, Regs (T y)) : uni (nowL T (S.take i)) (rgL (T S[i])) = nowL T (S.take (i + 1)) := by
  have h1 : ∀ y ∈ S.take i, Regs (T y) := fun y hy => h y (List.mem_of_mem_take hy)
  have h2 : ∀ y ∈ S.take (i + 1), Regs (T y) := fun y hy => h y (List.mem_of_mem_take hy)
  refine rvEq (srtMk _) (anyRegs h2) fun x => ?_
  unfold nowL
  rw [memUni, rgLMem (anyRegs h1), rgLMem (h _ (List.getElem_mem hi)), List.take_succ_eq_append_getElem hi, List.any_append, Bool.or_eq_true, List.any_cons, List.any_nil, Bool.or_false]
theorem nowLLen {T : Nat → Int → Bool} {S : List Nat} : (nowL T S).length ≤ 8 := rgLLen
/-- What follows for place k, less what it writes. -/
def lessL (C : List I8) (T : Nat → Int → Bool) (k : Nat) : List Int := rgL fun r => !wrB C k r && (sc C k).any fun y => T y r
theorem lessRegs {C : List I8} {T : Nat → Int → Bool} {k : Nat} (h : ∀ y ∈ sc C k, Regs (T y)) : Regs fun r => !wrB C k r && (sc C k).any fun y => T y r := fun r hr => by
  rw [Bool.and_eq_true] at hr
  exact anyRegs h r hr.2
theorem anyScM {C : List I8} {T : Nat → Int → Bool} {k : Nat} (r : Int) {S : List Nat} (hS : ∀ y, y ∈ S ↔ y ∈ sc C k) : (S.any fun y => T y r) = (sc C k).any fun y => T y r := by
  rw [Bool.eq_iff_iff, List.any_eq_true, List.any_eq_true]
  exact ⟨fun ⟨y, h1, h2⟩ => ⟨y, (hS y).1 h1, h2⟩, fun ⟨y, h1, h2⟩ => ⟨y, (hS y).2 h1, h2⟩⟩
theorem lessYes {C : List I8} {T : Nat → Int → Bool} {k : Nat} (hk : k < C.length) (hp : C[k].dfB = true) {S : List Nat} (hS : ∀ y, y ∈ S ↔ y ∈ sc C k) (h : ∀ y ∈ S, Regs (T y)) : min' (nowL T S) [C[k].dfR] = lessL C T k := by
  refine rvEq (srtMk _) (lessRegs fun y hy => h y ((hS y).2 hy)) fun x => ?_
  unfold nowL
  rw [memMin, rgLMem (anyRegs h), anyScM x hS, wrAt hk, hp, Bool.true_and, List.mem_singleton, Bool.and_eq_true, Bool.not_eq_true', decide_eq_false_iff_not]
  exact ⟨fun ⟨h1, h2⟩ => ⟨fun e => h2 e.symm, h1⟩, fun ⟨h1, h2⟩ => ⟨h2, fun e => h1 e.symm⟩⟩
theorem lessNo {C : List I8} {T : Nat → Int → Bool} {k : Nat} (hk : k < C.length) (hp : C[k].dfB = false) {S : List Nat} (hS : ∀ y, y ∈ S ↔ y ∈ sc C k) : nowL T S = lessL C T k := by
  unfold nowL lessL
  congr 1
  funext r
  rw [anyScM r hS, wrAt hk, hp]
  simp
theorem rvRegs {C : List I8} (hok : CfOk C) {T : Nat → Int → Bool} {k : Nat} (h : ∀ y ∈ sc C k, Regs (T y)) : Regs (lfF C T k) := fun r hr => by
  unfold lfF at hr
  rw [Bool.or_eq_true] at hr
  rcases hr with hr | hr
  · exact rdRg hok hr
  · exact lessRegs h r hr
theorem lessUni {C : List I8} (hok : CfOk C) {T : Nat → Int → Bool} {k : Nat} (hk : k < C.length) (h : ∀ y ∈ sc C k, Regs (T y)) : uni (lessL C T k) C[k].uses = rgL (lfF C T k) := by
  refine rvEq (srtMk _) (rvRegs hok h) fun x => ?_
  unfold lessL lfF
  rw [memUni, rgLMem (lessRegs h), rdAt hk, Bool.or_eq_true, decide_eq_true_iff]
  exact Or.comm
theorem rvRegsAll {C : List I8} (hok : CfOk C) {ex : Bool} {T : Nat → Int → Bool} (h : LfT C ex T) {k : Nat} (hk : k ≤ C.length) : Regs (T k) := fun r hr => lvRg hok (h.sub k r hk hr)
theorem rvInj {S S' : Int → Bool} (h : Regs S) (h' : Regs S') (e : rgL S = rgL S') (r : Int) : S r = S' r := by
  rw [Bool.eq_iff_iff, ← rgLMem h, ← rgLMem h', e]
/-- A place whose row differs grows. -/
theorem lfGrow {C : List I8} (hok : CfOk C) {ex : Bool} {T : Nat → Int → Bool} {n k : Nat} (h : LfT C ex T) (hn : C.length = n) (hk : k < n) (hle : ∀ y ∈ sc C k, y ≤ C.length) (hne : rgL (lfF C T k) ≠ rgL (T k)) : tS T n < tS (lfPut C T k) n := by
  refine tSUp h hn hk (Nat.lt_of_not_le fun hl => hne ?_)
  have hr := rvRegs hok (T := T) (k := k) fun y hy => rvRegsAll hok h (hle y hy)
  congr 1
  funext r
  rw [Bool.eq_iff_iff]
  exact ⟨fun g => rgSame (fun r hr => h.inc k r (by omega) hr) hr hl g, fun g => h.inc k r (by omega) g⟩
theorem lfPutSame {C : List I8} {T : Nat → Int → Bool} {k j : Nat} (h : j ≠ k) : lfPut C T k j = T j := by
  funext r; unfold lfPut; rw [if_neg h]
theorem lfPutAt {C : List I8} {T : Nat → Int → Bool} {k : Nat} : lfPut C T k k = lfF C T k := by
  funext r; unfold lfPut; rw [if_pos rfl]

/-- The table in memory: a row of n1 rows, place j's holds its registers in order. -/
structure RvSt (T : Nat → Int → Bool) (n1 : Nat) (w0 : World) (X : World) : Prop where
  row : ∃ vs, vs.length = n1 ∧ X.ownsRow 0 34 1 (.slice (some ⟨w0.heap.size, 0, none⟩) n1 n1) n1 vs ∧ (∀ v ∈ vs, ∃ A m c, v = .slice A m c) ∧ ∀ j, j < n1 → ∃ A c, vs[j]? = some (.slice A (rgL (T j)).length c) ∧ Rd X A c (rgL (T j))
  bel : Below w0.heap.size w0 X
section
variable {T T' : Nat → Int → Bool} {n1 k : Nat} {w0 X Y : World}
theorem RvSt.made (w0 : World) (n1 : Nat) (hn : n1 ≤ 1000) (hT : ∀ j, j < n1 → T j = fun _ => false) : RvSt T n1 w0 (w0.alloc (.cells (madeCells #[.slice none 0 0] n1) 34)) :=
  ⟨⟨List.replicate n1 (.slice none 0 0), by simp, ⟨by simp, .inr ⟨w0.heap.size, n1, madeCells #[.slice none 0 0] n1, rfl, Nat.zero_le _, heap_alloc_new w0 _, Nat.le_refl _, by unfold maxLen; omega, by rw [← Array.length_toList, toList_madeCells_one]; simp, by rw [toList_madeCells_one]; simp⟩⟩, fun v hv => ⟨none, 0, 0, (List.mem_replicate.1 hv).2⟩, fun j hj => by
    rw [hT j hj]
    exact ⟨none, 0, by rw [List.getElem?_replicate, if_pos hj]; rfl, Rd.nil⟩⟩, belowAlloc w0 _⟩
theorem RvSt.below (h : RvSt T n1 w0 X) (hb : Below X.heap.size X Y) : RvSt T n1 w0 Y := by
  obtain ⟨⟨vs, h1, h2, h3, h4⟩, h5⟩ := h
  exact ⟨⟨vs, h1, ownChg h2 (Chg.ofBelow hb fun _ => True) fun _ _ => trivial, h3, fun j hj => by
    obtain ⟨A, c, e, hr⟩ := h4 j hj
    exact ⟨A, c, e, Rd.below hr hb⟩⟩, belowThen h5 hb⟩
theorem RvSt.cell (h : RvSt T n1 w0 X) {j : Nat} (hj : j < n1) : ∃ A c, X.cell? ⟨w0.heap.size, j, none⟩ = some (.slice A (rgL (T j)).length c) ∧ X.frozen? ⟨w0.heap.size, j, none⟩ = false ∧ Rd X A c (rgL (T j)) := by
  obtain ⟨⟨vs, h1, h2, h3, h4⟩, h5⟩ := h
  obtain ⟨A, c, e, hr⟩ := h4 j hj
  exact ⟨A, c, (World.ownsRow.cellAt h2 j (by omega)).trans e, World.ownsRow.frozenAt h2 j, hr⟩
theorem RvSt.put (h : RvSt T n1 w0 X) (hk : k < n1) {l : List Int} (hj : ∀ j, j ≠ k → T' j = T j) (hl : rgL (T' k) = l) {A : Option Addr} {c : Nat} (hr : Rd X A c l) : RvSt T' n1 w0 (X.setCell ⟨w0.heap.size, k, none⟩ (.slice A l.length c)) := by
  obtain ⟨⟨vs, h1, h2, h3, h4⟩, h5⟩ := h
  have hc := chgSet X ⟨w0.heap.size, k, none⟩ (.slice A l.length c)
  have hrd : ∀ {A1 : Option Addr} {c1 : Nat} {l1 : List Int}, Rd X A1 c1 l1 → Rd (X.setCell ⟨w0.heap.size, k, none⟩ (.slice A l.length c)) A1 c1 l1 := fun {A1 c1 l1} hr => by
    refine Rd.chg hr hc fun ad e hl => ?_
    obtain ⟨ad', e', _, hcell⟩ := hr.one hl
    rw [e] at e'
    injection e' with e'
    subst e'
    have := slNot9 h2 h3 hcell (fun _ _ _ e => by cases e)
    rw [addBlock] at this
    exact this
  refine ⟨⟨vs.set k (.slice A l.length c), by rw [List.length_set]; exact h1, (World.ownsRow.stored h2 k (.slice A l.length c)).1, fun v hv => ?_, fun j hjn => ?_⟩, ⟨hc.os.trans h5.os, hc.tape.trans h5.tape, hc.output.trans h5.output, Nat.le_trans h5.size hc.size, fun q hq => (hc.block q (Nat.lt_of_lt_of_le hq h5.size) (show q ≠ w0.heap.size by omega)).trans (h5.block q hq)⟩⟩
  · rcases List.mem_or_eq_of_mem_set hv with hv | rfl
    · exact h3 v hv
    · exact ⟨_, _, _, rfl⟩
  · by_cases e : j = k
    · subst e
      rw [hl]
      exact ⟨A, c, by rw [List.getElem?_set_self (by omega)], hrd hr⟩
    · rw [hj j e]
      obtain ⟨A1, c1, e1, hr1⟩ := h4 j hjn
      exact ⟨A1, c1, by rw [List.getElem?_set_ne (fun h => e h.symm)]; exact e1, hrd hr1⟩
theorem RvSt.rdL (h : RvSt T n1 w0 X) (hn : n1 ≤ 1000) : RdL X (some ⟨w0.heap.size, 0, none⟩) n1 ((List.range n1).map fun j => rgL (T j)) := by
  obtain ⟨⟨vs, h1, h2, h3, h4⟩, h5⟩ := h
  refine ⟨vs, ⟨by omega, by unfold maxLen; omega, fun h0 => ⟨⟨w0.heap.size, 0, none⟩, rfl, (World.ownsRow.lt h2 _ rfl).2, fun j u hj => ?_⟩⟩, by simp [h1], fun i hi => ?_⟩
  · have hj2 := (List.getElem?_eq_some_iff.1 hj).1
    rw [Addr.add_lit, Nat.zero_add]
    exact (World.ownsRow.cellAt h2 j (by omega)).trans hj
  · have hi2 : i < n1 := by simpa using hi
    obtain ⟨A, c, e, hr⟩ := h4 i hi2
    simp only [List.getElem_map, List.getElem_range]
    exact ⟨A, c, e, hr⟩
end
end Go.Proofs.YtkanamdfjegcbaaDoor
