/-
  The functions that threads can run, as sets that grow: plain mathematics.
-/
import Derived.Test.YtdmajlgdjhmpdaaDoorCPgX
namespace Go.Proofs.YtdmajlgdjhmpdaaDoor

/-- One pass over a list of instructions from the set S on. -/
def passS (S : List Int) : List (Nat × Nat × I8) → List Int
  | [] => S
  | x :: t => passS (if x.2.2.op = 21 ∧ memB S (x.1 : Int) = true then uni S [x.2.2.obj] else S) t
theorem passApp (S : List Int) : ∀ (s t : List (Nat × Nat × I8)), passS S (s ++ t) = passS (passS S s) t
  | [], _ => rfl
  | x :: s, t => by rw [List.cons_append, passS, passS, passApp _ s t]
theorem passOne (S : List Int) (s : List (Nat × Nat × I8)) (x : Nat × Nat × I8) : passS S (s ++ [x]) = if x.2.2.op = 21 ∧ memB (passS S s) (x.1 : Int) = true then uni (passS S s) [x.2.2.obj] else passS S s := by rw [passApp]; rfl
theorem passSub : ∀ (t : List (Nat × Nat × I8)) (S : List Int) (y : Int), y ∈ S → y ∈ passS S t
  | [], _, _, h => h
  | x :: t, S, y, h => by
    rw [passS]
    refine passSub t _ y ?_
    split
    · exact memUni.2 (.inl h)
    · exact h
theorem passSrt : ∀ (t : List (Nat × Nat × I8)) (S : List Int), Srt S → Srt (passS S t)
  | [], _, h => h
  | x :: t, S, h => by
    rw [passS]
    refine passSrt t _ ?_
    split
    · exact srtMk _
    · exact h
theorem passAll {P : Int → Prop} : ∀ (t : List (Nat × Nat × I8)) (S : List Int), (∀ y ∈ S, P y) → (∀ x ∈ t, x.2.2.op = 21 → P (x.1 : Int) → P x.2.2.obj) → ∀ y ∈ passS S t, P y
  | [], _, h, _ => h
  | x :: t, S, h, h2 => by
    rw [passS]
    refine passAll t _ ?_ fun x' hx' => h2 x' (List.mem_cons_of_mem _ hx')
    split
    · rename_i hc
      intro y hy
      rcases memUni.1 hy with hy | hy
      · exact h y hy
      · rw [List.mem_singleton] at hy
        subst hy
        exact h2 x (by simp) hc.1 (h _ (of_decide_eq_true hc.2))
    · exact h
/-- A pass that adds nothing: the set is closed. -/
theorem passFix : ∀ (t : List (Nat × Nat × I8)) (S T : List Int), (∀ y ∈ passS S t, y ∈ T) → (∀ y ∈ T, y ∈ S) → ∀ x ∈ t, x.2.2.op = 21 → (x.1 : Int) ∈ T → x.2.2.obj ∈ T
  | x0 :: t, S, T, h1, h2, x, hx, h21, hf => by
    rw [passS] at h1
    rcases List.mem_cons.1 hx with rfl | hx
    · rw [if_pos ⟨h21, decide_eq_true (h2 _ hf)⟩] at h1
      exact h1 _ (passSub t _ _ (memUni.2 (.inr (by simp))))
    · refine passFix t _ T h1 (fun y hy => ?_) x hx h21 hf
      split
      · exact memUni.2 (.inl (h2 y hy))
      · exact h2 y hy
theorem srtNodup {S : List Int} (h : Srt S) : S.Nodup := h.imp fun h => by omega
theorem nodupLeP : ∀ {l m : List Int}, l.Nodup → (∀ x ∈ l, x ∈ m) → l.length ≤ m.length
  | [], _, _, _ => Nat.zero_le _
  | a :: l, m, hl, h => by
    rw [List.nodup_cons] at hl
    have h1 : a ∈ m := h a (by simp)
    have h2 : l.length ≤ (m.erase a).length := nodupLeP hl.2 fun x hx => by
      have hne : x ≠ a := fun e => hl.1 (e ▸ hx)
      exact (List.mem_erase_of_ne hne).2 (h x (by simp [hx]))
    rw [List.length_erase_of_mem h1] at h2
    have := List.length_pos_of_mem h1
    rw [List.length_cons]
    omega
theorem srtLen {S : List Int} {n : Nat} (h : Srt S) (hb : ∀ y ∈ S, 0 ≤ y ∧ y < n) : S.length ≤ n := by
  have := nodupLeP (m := (List.range n).map fun (k : Nat) => (k : Int)) (srtNodup h) fun x hx => by
    obtain ⟨h1, h2⟩ := hb x hx
    exact List.mem_map.2 ⟨x.toNat, List.mem_range.2 (by omega), by omega⟩
  simpa using this
/-- Of two sorted lists of one length the smaller one is the other. -/
theorem srtSame {S T : List Int} (hS : Srt S) (hT : Srt T) (h : ∀ y ∈ S, y ∈ T) (hl : T.length ≤ S.length) : T = S := by
  refine srtExt hT hS fun x => ⟨fun hx => ?_, h x⟩
  by_cases hm : x ∈ S
  · exact hm
  · have h1 : (x :: S).Nodup := List.nodup_cons.2 ⟨hm, srtNodup hS⟩
    have := nodupLeP (m := T) h1 fun y hy => by
      rcases List.mem_cons.1 hy with rfl | hy
      · exact hx
      · exact h y hy
    rw [List.length_cons] at this
    omega
/-- The functions of the first initial threads. -/
def startS (l : List (Int × Int)) : List Int := l.foldl (fun S s => uni S [s.1]) []
theorem startOne (l : List (Int × Int)) (s : Int × Int) : startS (l ++ [s]) = uni (startS l) [s.1] := by unfold startS; rw [List.foldl_append]; rfl
theorem startFacts : ∀ (l : List (Int × Int)) (S : List Int), Srt S → Srt (l.foldl (fun S s => uni S [s.1]) S) ∧ ∀ x, x ∈ l.foldl (fun S s => uni S [s.1]) S ↔ x ∈ S ∨ ∃ s ∈ l, s.1 = x
  | [], S, h => ⟨h, fun x => by simp⟩
  | s :: l, S, h => by
    obtain ⟨h1, h2⟩ := startFacts l (uni S [s.1]) (srtMk _)
    refine ⟨h1, fun x => ?_⟩
    rw [List.foldl_cons, h2, memUni, List.mem_singleton]
    constructor
    · rintro ((h | rfl) | ⟨s', hs, rfl⟩)
      · exact .inl h
      · exact .inr ⟨s, by simp, rfl⟩
      · exact .inr ⟨s', by simp [hs], rfl⟩
    · rintro (h | ⟨s', hs, rfl⟩)
      · exact .inl (.inl h)
      · rcases List.mem_cons.1 hs with rfl | hs
        · exact .inl (.inr rfl)
        · exact .inr ⟨s', hs, rfl⟩
theorem startSrt (l : List (Int × Int)) : Srt (startS l) := (startFacts l [] srtNil).1
theorem startMem {l : List (Int × Int)} {x : Int} : x ∈ startS l ↔ ∃ s ∈ l, s.1 = x := by unfold startS; rw [(startFacts l [] srtNil).2]; simp

/-! What a program without an error gives. -/
theorem chkMany {p : Prg} (h : p.chk.1 = 0) : p.funcs.length ≤ 8 ∧ p.thr.length ≤ 8 ∧ p.vars.length ≤ 8 ∧ (p.fnF p.funcs 0).1 = 0 ∧ p.thE = 0 := by
  unfold Prg.chk at h
  by_cases h1 : p.nmE.1 = 0
  · rw [if_neg (by simpa using h1)] at h
    cases h2 : p.many
    · rw [h2, if_neg (by decide)] at h
      cases h3 : (p.vars.all fun v => isVal v.2)
      · rw [h3] at h; simp at h
      · rw [h3, if_neg (by decide)] at h
        by_cases h4 : (p.fnF p.funcs 0).1 = 0
        · rw [if_neg (by simpa using h4)] at h
          have h5 : p.thE = 0 := h
          unfold Prg.many at h2
          simp only [Bool.or_eq_false_iff, decide_eq_false_iff_not] at h2
          refine ⟨by omega, ?_, by omega, h4, h5⟩
          unfold Prg.thE at h5
          by_cases h6 : p.thr.length < 1 ∨ 8 < p.thr.length
          · rw [if_pos h6] at h5; cases h5
          · omega
        · rw [if_pos h4] at h; exact absurd h h4
    · rw [h2] at h; simp at h
  · rw [if_pos h1] at h; exact absurd h h1
theorem thFok {p : Prg} : ∀ {l : List (Int × Int)}, p.thF l = 0 → ∀ s ∈ l, belB s.1 p.funcs.length = true
  | [], _, _, h => by cases h
  | t :: l, h, s, hs => by
    rw [Prg.thF] at h
    cases h1 : belB t.1 p.funcs.length
    · rw [h1] at h; simp at h
    · rw [h1, if_neg (by decide)] at h
      cases h2 : isVal t.2
      · rw [h2] at h; simp at h
      · rw [h2, if_neg (by decide)] at h
        rcases List.mem_cons.1 hs with rfl | hs
        · exact h1
        · exact thFok h s hs
theorem chkThr {p : Prg} (h : p.chk.1 = 0) : ∀ s ∈ p.thr, belB s.1 p.funcs.length = true := by
  have h5 := (chkMany h).2.2.2.2
  unfold Prg.thE at h5
  by_cases h6 : p.thr.length < 1 ∨ 8 < p.thr.length
  · rw [if_pos h6] at h5; cases h5
  · rw [if_neg h6] at h5
    exact thFok h5
theorem cdLok {p : Prg} : ∀ {l : List (Nat × Nat × I8)}, (p.cdL l).1 = 0 → ∀ x ∈ l, p.insE (p.lenF x.1) x.2.2 = 0
  | [], _, _, h => by cases h
  | y :: l, h, x, hx => by
    rw [Prg.cdL] at h
    by_cases h1 : y.2.1 = 0 ∧ 64 < p.lenF y.1
    · rw [if_pos h1] at h; simp at h
    · rw [if_neg h1] at h
      by_cases h2 : p.insE (p.lenF y.1) y.2.2 = 0
      · rw [if_neg (by simpa using h2)] at h
        rcases List.mem_cons.1 hx with rfl | hx
        · exact h2
        · exact cdLok h x hx
      · rw [if_pos h2] at h
        exact absurd h h2
theorem chkSpawn {p : Prg} (h : p.chk.1 = 0) : ∀ x ∈ flF p.funcs 0, x.2.2.op = 21 → belB x.2.2.obj p.funcs.length = true := fun x hx h21 => by
  have h4 := (chkMany h).2.2.2.1
  rw [← cdLall] at h4
  have h5 := cdLok h4 x hx
  unfold Prg.insE at h5
  by_cases h6 : x.2.2.chk = 0
  · rw [if_neg (by simpa using h6)] at h5
    have ho : p.objN x.2.2.op = some p.funcs.length := by unfold Prg.objN; rw [h21]; rfl
    rw [ho] at h5
    cases h7 : belB x.2.2.obj p.funcs.length
    · simp only [h7] at h5; simp at h5
    · rfl
  · rw [if_pos h6] at h5; exact absurd h5 h6
/-- Function e's code spawns g, by the flat list. -/
theorem spwFlat {p : Prg} {e : Nat} (he : e < p.funcs.length) {g : Int} : spw (p.funcs[e]).2 g = true ↔ ∃ k i, (e, k, i) ∈ flF p.funcs 0 ∧ i.op = 21 ∧ i.obj = g := by
  unfold spw
  rw [List.any_eq_true]
  constructor
  · rintro ⟨i, hi, h⟩
    rw [Bool.and_eq_true, decide_eq_true_iff, decide_eq_true_iff] at h
    obtain ⟨k, hk, rfl⟩ := List.getElem_of_mem hi
    have := flFhas (f := 0) he hk
    rw [Nat.zero_add] at this
    exact ⟨k, _, this, h.1, h.2⟩
  · rintro ⟨k, i, hx, h1, h2⟩
    obtain ⟨hf, hk, hik⟩ := flAll hx
    refine ⟨i, ?_, by simp [h1, h2]⟩
    have h9 : (p.funcs[e]).2[k]'hk = i := hik
    rw [← h9]
    exact List.getElem_mem hk
/-- A number of a function that threads can run. -/
def Prg.rchI (p : Prg) (y : Int) : Prop := ∃ f : Nat, y = (f : Int) ∧ p.rch f
theorem rchStarts {p : Prg} (h : p.chk.1 = 0) : ∀ y ∈ startS p.thr, p.rchI y := fun y hy => by
  obtain ⟨s, hs, rfl⟩ := startMem.1 hy
  have hb := chkThr h s hs
  unfold belB at hb
  rw [Bool.and_eq_true, decide_eq_true_iff] at hb
  exact ⟨s.1.toNat, by omega, Prg.rchStart hs (by omega)⟩
theorem rchSpawns {p : Prg} (h : p.chk.1 = 0) : ∀ x ∈ flF p.funcs 0, x.2.2.op = 21 → p.rchI (x.1 : Int) → p.rchI x.2.2.obj := fun x hx h21 hr => by
  have hb := chkSpawn h x hx h21
  unfold belB at hb
  rw [Bool.and_eq_true, decide_eq_true_iff] at hb
  obtain ⟨f, hf, hr⟩ := hr
  obtain rfl : x.1 = f := by omega
  obtain ⟨hlt, _⟩ := flAll hx
  refine ⟨x.2.2.obj.toNat, by omega, Prg.rchStep hr hlt ?_⟩
  exact (spwFlat hlt).2 ⟨x.2.1, x.2.2, hx, h21, by omega⟩
theorem rchBound {p : Prg} (h : p.chk.1 = 0) {f : Nat} (hf : p.rch f) : f < p.funcs.length := by
  refine Prg.rchLeast (S := fun f => f < p.funcs.length) (fun s hs f e => ?_) (fun e he _ f hs => ?_) hf
  · have hb := chkThr h s hs
    unfold belB at hb
    rw [Bool.and_eq_true, decide_eq_true_iff, decide_eq_true_iff] at hb
    omega
  · obtain ⟨k, i, hx, h21, ho⟩ := (spwFlat he).1 hs
    have hb := chkSpawn h _ hx h21
    unfold belB at hb
    rw [Bool.and_eq_true, decide_eq_true_iff, decide_eq_true_iff] at hb
    simp only at hb
    omega
/-- A set that holds the starts and is closed holds all. -/
theorem rchAll {p : Prg} {S : List Int} (h0 : ∀ y ∈ startS p.thr, y ∈ S) (h1 : ∀ x ∈ flF p.funcs 0, x.2.2.op = 21 → (x.1 : Int) ∈ S → x.2.2.obj ∈ S) {y : Int} (hy : p.rchI y) : y ∈ S := by
  obtain ⟨f, rfl, hf⟩ := hy
  refine Prg.rchLeast (S := fun f => (f : Int) ∈ S) (fun s hs f e => ?_) (fun e he hm f hs => ?_) hf
  · rw [← e]
    exact h0 _ (startMem.2 ⟨s, hs, rfl⟩)
  · obtain ⟨k, i, hx, h21, ho⟩ := (spwFlat he).1 hs
    have := h1 _ hx h21 hm
    simp only at this
    rwa [ho] at this
/-- The list that Reachable gives: sorted, and it holds just the functions that threads can run. -/
def RchL (p : Prg) (l : List Int) : Prop := Srt l ∧ ∀ y, y ∈ l ↔ p.rchI y
theorem RchL.uniq {p : Prg} {l m : List Int} (h : RchL p l) (k : RchL p m) : l = m := srtExt h.1 k.1 fun x => by rw [h.2, k.2]
theorem RchL.bound {p : Prg} (hc : p.chk.1 = 0) {l : List Int} (h : ∀ y ∈ l, p.rchI y) : ∀ y ∈ l, 0 ≤ y ∧ y < (p.funcs.length : Int) := fun y hy => by
  obtain ⟨f, rfl, hf⟩ := h y hy
  have := rchBound hc hf
  omega
end Go.Proofs.YtdmajlgdjhmpdaaDoor
