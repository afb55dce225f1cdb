/-
  awake, its first half: the example's procedure in memory.
-/
import Derived.Test.YtiaendggmamnkaaGreatDoorEAw
namespace Go.Proofs.YtiaendggmamnkaaGreatDoor
open Go Go.RowKit

theorem wantedIf {c : Bool} {A B : Prop} (hc : c = true) (h : A) : if c = true then A else B := by rw [if_pos hc]; exact h
theorem opVal {P : Program} {o : Oper} {a : Act} {w w' : World} {K : Act → World → Prop} {Q : Exit → Act → World → Prop} {v : Value} (h : (execOp a.eval o).run P w = .ok (.value v) w') (hk : K (a.put o.dst v) w') : Oper.wp P o a w K Q := by unfold Oper.wp; rw [h]; exact hk
theorem opSkip {P : Program} {o : Oper} {a : Act} {w w' : World} {K : Act → World → Prop} {Q : Exit → Act → World → Prop} (h : (execOp a.eval o).run P w = .ok .skip w') (hk : K (a.put o.dst undef) w') : Oper.wp P o a w K Q := by unfold Oper.wp; rw [h]; exact hk
theorem litM1 {X : World} {b dx d : Nat} {k f o : Int} {nm ob ot : ByteArray} {v6 v7 v8 : Value} {es : List Ex} {a c : List Sm} (hB : Blk X b 54 #[.int .i64 k, .string nm, .string ob, .string ot, .int .i64 f, .int .i64 o, v6, v7, v8]) (h6 : SlE 5 (EX dx) X v6 es) (h7 : SlE 9 (EM dx d) X v7 a) (h8 : SlE 9 (EM dx d) X v8 c) : RdE 9 (EM dx (d + 1)) X (some ⟨b, 0, none⟩) 1 [.mk ⟨k, nm, ob, ot, f, o, es⟩ a c] :=
  litRow hB rfl (by decide) fun j hj => by
    have : j = 0 := by simpa using hj
    subst this
    exact ⟨hB.cell 0, hB.cell 1, hB.cell 2, hB.cell 3, hB.cell 4, hB.cell 5, ⟨v6, hB.cell 6, h6⟩, ⟨v7, hB.cell 7, h7⟩, v8, hB.cell 8, h8⟩
theorem litM2 {X : World} {b dx d : Nat} {k f o k' f' o' : Int} {nm ob ot nm' ob' ot' : ByteArray} {v6 v7 v8 u6 u7 u8 : Value} {es es' : List Ex} {a c a' c' : List Sm} (hB : Blk X b 54 #[.int .i64 k, .string nm, .string ob, .string ot, .int .i64 f, .int .i64 o, v6, v7, v8, .int .i64 k', .string nm', .string ob', .string ot', .int .i64 f', .int .i64 o', u6, u7, u8]) (h6 : SlE 5 (EX dx) X v6 es) (h7 : SlE 9 (EM dx d) X v7 a) (h8 : SlE 9 (EM dx d) X v8 c) (g6 : SlE 5 (EX dx) X u6 es') (g7 : SlE 9 (EM dx d) X u7 a') (g8 : SlE 9 (EM dx d) X u8 c') : RdE 9 (EM dx (d + 1)) X (some ⟨b, 0, none⟩) 2 [.mk ⟨k, nm, ob, ot, f, o, es⟩ a c, .mk ⟨k', nm', ob', ot', f', o', es'⟩ a' c'] :=
  litRow hB rfl (by decide) fun j hj => by
    have : j = 0 ∨ j = 1 := by simp at hj; omega
    rcases this with rfl | rfl
    · exact ⟨hB.cell 0, hB.cell 1, hB.cell 2, hB.cell 3, hB.cell 4, hB.cell 5, ⟨v6, hB.cell 6, h6⟩, ⟨v7, hB.cell 7, h7⟩, v8, hB.cell 8, h8⟩
    · exact ⟨hB.cell 9, hB.cell 10, hB.cell 11, hB.cell 12, hB.cell 13, hB.cell 14, ⟨u6, hB.cell 15, g6⟩, ⟨u7, hB.cell 16, g7⟩, u8, hB.cell 17, g8⟩
def slotV (i : Nat) : Nat := [16, 17, 18, 19, 20, 21, 22, 23, 24, 25, 2].getD i 0
def upd (f : Nat → Value) (s : Nat) (v : Value) : Nat → Value := fun j => if j = s then v else f j
def actV (z : Nat) (x13 x14 x15 : Value) (f : Nat → Value) : Act := ⟨#[.bool false, .pointer (some ⟨z, 0, none⟩), f 2, undef, undef, undef, undef, undef, undef, undef, undef, undef, undef, x13, x14, x15, f 16, f 17, f 18, f 19, f 20, f 21, f 22, f 23, f 24, f 25, undef, undef, undef, undef, undef, undef, undef, undef, undef, undef, undef, undef, undef, undef, undef, undef, undef, undef, undef, undef, undef, undef, undef, undef, undef, undef, undef, undef, undef, undef, undef, undef, undef, undef, undef, undef, undef, undef, undef, undef, undef, undef, undef, undef, undef, undef, undef, undef, undef, undef, undef, undef, undef, undef, undef, undef, undef, undef, undef, undef, undef, undef, undef, undef, undef, undef, undef, undef, undef, undef, undef, undef, undef, undef, undef, undef, undef, undef, undef, undef, undef, undef, undef, undef, undef, undef, undef, undef, undef, undef, undef, undef, undef, undef, undef, undef, undef, undef, undef, undef, undef, undef, undef, undef, undef, undef, undef, undef, undef, undef, undef, undef, undef, undef, undef, undef, undef, undef, undef, undef, undef, undef, undef, undef, undef, undef], []⟩
set_option maxRecDepth 10000 in
theorem actV_16 {z : Nat} {x13 x14 x15 : Value} {f : Nat → Value} {v : Value} : (actV z x13 x14 x15 f).put (some 16) v = actV z x13 x14 x15 (upd f 16 v) := rfl
set_option maxRecDepth 10000 in
theorem actV_17 {z : Nat} {x13 x14 x15 : Value} {f : Nat → Value} {v : Value} : (actV z x13 x14 x15 f).put (some 17) v = actV z x13 x14 x15 (upd f 17 v) := rfl
set_option maxRecDepth 10000 in
theorem actV_18 {z : Nat} {x13 x14 x15 : Value} {f : Nat → Value} {v : Value} : (actV z x13 x14 x15 f).put (some 18) v = actV z x13 x14 x15 (upd f 18 v) := rfl
set_option maxRecDepth 10000 in
theorem actV_19 {z : Nat} {x13 x14 x15 : Value} {f : Nat → Value} {v : Value} : (actV z x13 x14 x15 f).put (some 19) v = actV z x13 x14 x15 (upd f 19 v) := rfl
set_option maxRecDepth 10000 in
theorem actV_20 {z : Nat} {x13 x14 x15 : Value} {f : Nat → Value} {v : Value} : (actV z x13 x14 x15 f).put (some 20) v = actV z x13 x14 x15 (upd f 20 v) := rfl
set_option maxRecDepth 10000 in
theorem actV_21 {z : Nat} {x13 x14 x15 : Value} {f : Nat → Value} {v : Value} : (actV z x13 x14 x15 f).put (some 21) v = actV z x13 x14 x15 (upd f 21 v) := rfl
set_option maxRecDepth 10000 in
theorem actV_22 {z : Nat} {x13 x14 x15 : Value} {f : Nat → Value} {v : Value} : (actV z x13 x14 x15 f).put (some 22) v = actV z x13 x14 x15 (upd f 22 v) := rfl
set_option maxRecDepth 10000 in
theorem actV_23 {z : Nat} {x13 x14 x15 : Value} {f : Nat → Value} {v : Value} : (actV z x13 x14 x15 f).put (some 23) v = actV z x13 x14 x15 (upd f 23 v) := rfl
set_option maxRecDepth 10000 in
theorem actV_24 {z : Nat} {x13 x14 x15 : Value} {f : Nat → Value} {v : Value} : (actV z x13 x14 x15 f).put (some 24) v = actV z x13 x14 x15 (upd f 24 v) := rfl
set_option maxRecDepth 10000 in
theorem actV_25 {z : Nat} {x13 x14 x15 : Value} {f : Nat → Value} {v : Value} : (actV z x13 x14 x15 f).put (some 25) v = actV z x13 x14 x15 (upd f 25 v) := rfl
set_option maxRecDepth 10000 in
theorem actV_2 {z : Nat} {x13 x14 x15 : Value} {f : Nat → Value} {v : Value} : (actV z x13 x14 x15 f).put (some 2) v = actV z x13 x14 x15 (upd f 2 v) := rfl
/-- What operation i has left in its slot. -/
def FV (W w : World) (i : Nat) (v : Value) : Prop :=
  match i with
  | 0 => v = .agg #[.int .i64 1, .int .i64 1, .string s0, .int .i64 0, .slice none 0 0]
  | 1 => SlE 5 (EX 1) w v [xN1]
  | 2 => ∃ u, v = .agg #[.int .i64 1, .string sB, .string s0, .string s0, .int .i64 0, .int .i64 0, u, .slice none 0 0, .slice none 0 0] ∧ SlE 5 (EX 1) w u [xN1]
  | 3 => v = .agg #[.int .i64 2, .int .i64 0, .string sA, .int .i64 0, .slice none 0 0]
  | 4 => SlE 5 (EX 1) w v [xL sA]
  | 5 => ∃ u, v = .agg #[.int .i64 1, .string sC, .string s0, .string s0, .int .i64 0, .int .i64 0, u, .slice none 0 0, .slice none 0 0] ∧ SlE 5 (EX 1) w u [xL sB]
  | 6 => SlE 9 (EM 1 1) w v [mLet sC (xL sB)]
  | 7 => ∃ u u2, v = .agg #[.int .i64 18, .string s0, .string s0, .string s0, .int .i64 0, .int .i64 0, u, u2, .slice none 0 0] ∧ SlE 5 (EX 1) w u [xL sA] ∧ SlE 9 (EM 1 1) w u2 [mLet sC (xL sB)]
  | 8 => SlE 9 (EM 1 2) w v (pcW sC).body
  | 9 => ∃ u, v = .agg #[.string sP, .string sA, u] ∧ SlE 9 (EM 1 2) w u (pcW sC).body
  | 10 => ∃ g, v = .pointer (some ⟨g, 0, none⟩) ∧ W.heap.size ≤ g ∧ Blk w g 44 #[.string s0, .string s0, .slice none 0 0]
  | _ => True
theorem FV.below {W w w' : World} {i : Nat} {v : Value} (h : FV W w i v) (hb : Below w.heap.size w w') : FV W w' i v := by
  unfold FV at *
  split at h
  all_goals first
    | exact h
    | exact SlE.below h (stabX 1) hb
    | exact SlE.below h (stabM 1 _) hb
    | (obtain ⟨u, e, h1⟩ := h; exact ⟨u, e, h1.below (stabX 1) hb⟩)
    | (obtain ⟨u, e, h1⟩ := h; exact ⟨u, e, h1.below (stabM 1 2) hb⟩)
    | (obtain ⟨u, u2, e, h1, h2⟩ := h; exact ⟨u, u2, e, h1.below (stabX 1) hb, h2.below (stabM 1 1) hb⟩)
    | (obtain ⟨g, e, h1, h2⟩ := h; exact ⟨g, e, h1, Blk.below' h2 hb⟩)
structure PartV (W : World) (L : Array Bool) (w : World) (f : Nat → Value) : Prop where
  below : Below W.heap.size W w
  no : ¬ Lst L 11
  fact : ∀ i, i < 11 → Lst L i → FV W w i (f (slotV i))
theorem slotInjV : ∀ i, i < 11 → ∀ j, j < 11 → slotV i = slotV j → i = j := by decide
theorem PartV.next {W : World} {L : Array Bool} {w w' : World} {f : Nat → Value} (h : PartV W L w f) (i : Nat) (hi : i < 11) (hb : Below w.heap.size w w') {v : Value} (hv : FV W w' i v) {s : Nat} (hs : s = slotV i) : PartV W (L.setIfInBounds i true) w' (upd f s v) :=
  ⟨belowThen h.below hb, fun hl => h.no (hl.of (by omega)), fun j hj hl => by
    subst hs
    by_cases hij : i = j
    · subst hij
      unfold upd
      rw [if_pos rfl]
      exact hv
    · unfold upd
      rw [if_neg fun e => hij (slotInjV _ hi _ hj e.symm)]
      exact (h.fact j hj (hl.of hij)).below hb⟩
/-- The procedure's box. -/
def FinV (W w : World) (v : Value) : Prop := Below W.heap.size W w ∧ ∃ g u, v = .pointer (some ⟨g, 0, none⟩) ∧ W.heap.size ≤ g ∧ Blk w g 44 #[.string sP, .string sA, u] ∧ SlE 9 (EM 1 2) w u (pcW sC).body
def InvV (z : Nat) (x13 x14 x15 : Value) (W : World) (L : Array Bool) (s : Act) (w : World) : Prop :=
  ∃ f, s = actV z x13 x14 x15 f ∧ (PartV W L w f ∨ ((∀ i, i < 12 → Lst L i) ∧ FinV W w (f 2)))
/-- Expressions and statements do not lie in a block of other cells. -/
theorem notInX {d : Nat} {w w' : World} {g b o : Nat} {t : Ex} {c0 : ByteArray} (h0 : ∀ i u, w.cell? ⟨g, i, none⟩ = some u → (∃ s, u = .string s) ∨ ∃ A n c, u = .slice A n c) (hc : Chg w w' (fun q => q ≠ g)) (hl : b < w.heap.size) (h : EX d w b o t) : EX d w' b o t := by
  have _ := c0
  induction d generalizing b o t with
  | zero => exact h
  | succ d ih =>
    obtain ⟨x0, x1, x2, x3, hs, A4, x4, A, c, rfl, r⟩ := h
    have hg : b ≠ g := fun e => by
      subst e
      rcases h0 _ _ x0 with ⟨s, e⟩ | ⟨_, _, _, e⟩ <;> cases e
    have ec : ∀ i, w'.cell? ⟨b, i, none⟩ = w.cell? ⟨b, i, none⟩ := fun i => World.cell?_of_block (hc.block b hl hg)
    exact ⟨(ec _).trans x0, (ec _).trans x1, (ec _).trans x2, (ec _).trans x3, hs, _, (ec _).trans x4, A, c, rfl, r.over hc.size fun _ _ _ hl h => ih hl h⟩
theorem notInM {dx d : Nat} {w w' : World} {g b o : Nat} {t : Sm} (h0 : ∀ i u, w.cell? ⟨g, i, none⟩ = some u → (∃ s, u = .string s) ∨ ∃ A n c, u = .slice A n c) (hc : Chg w w' (fun q => q ≠ g)) (hl : b < w.heap.size) (h : EM dx d w b o t) : EM dx d w' b o t := by
  induction d generalizing b o t with
  | zero => exact h
  | succ d ih =>
    obtain ⟨x0, x1, x2, x3, x4, x5, ⟨v6, x6, r6⟩, ⟨v7, x7, r7⟩, v8, x8, r8⟩ := h
    have hg : b ≠ g := fun e => by
      subst e
      rcases h0 _ _ x0 with ⟨s, e⟩ | ⟨_, _, _, e⟩ <;> cases e
    have ec : ∀ i, w'.cell? ⟨b, i, none⟩ = w.cell? ⟨b, i, none⟩ := fun i => World.cell?_of_block (hc.block b hl hg)
    exact ⟨(ec _).trans x0, (ec _).trans x1, (ec _).trans x2, (ec _).trans x3, (ec _).trans x4, (ec _).trans x5, ⟨v6, (ec _).trans x6, r6.over hc.size fun _ _ _ hl h => notInX (c0 := s0) h0 hc hl h⟩, ⟨v7, (ec _).trans x7, r7.over hc.size fun _ _ _ hl h => ih hl h⟩, v8, (ec _).trans x8, r8.over hc.size fun _ _ _ hl h => ih hl h⟩
theorem rdNotP {dx d c g : Nat} {w w' : World} {A : Option Addr} {l : List Sm} (h : RdE 9 (EM dx d) w A c l) (hG : Blk w g 44 #[.string s0, .string s0, .slice none 0 0]) (hc : Chg w w' (fun q => q ≠ g)) : RdE 9 (EM dx d) w' A c l :=
  h.over hc.size fun _ _ _ hl h => notInM (fun i u hu => by
    rw [hG.cell i] at hu
    have hi : i < 3 := (Array.getElem?_eq_some_iff.1 hu).1
    rcases (by omega : i = 0 ∨ i = 1 ∨ i = 2) with rfl | rfl | rfl
    · simp at hu; exact .inl ⟨_, hu.symm⟩
    · simp at hu; exact .inl ⟨_, hu.symm⟩
    · simp at hu; exact .inr ⟨_, _, _, hu.symm⟩) hc hl h
/-- The example's unit by value. -/
def aU (n : Nat) : PgA := ⟨none, 0, 0, none, 0, 0, none, 0, 0, some ⟨n, 0, none⟩, 1, 1, some ⟨n + 1, 0, none⟩, 1, 1⟩
theorem wfXof (t : Ex) (h1 : ∀ x ∈ numb 0 (Tr.ndsL 1 [t]), x.2.2.val.name.size ≤ maxLen) (h2 : Tr.szL [t] ≤ 4000000) : WfX t := ⟨h1, h2⟩
theorem unOf {W : World} {n : Nat} {u : Value} {nm : ByteArray} (hP : Blk W n 44 #[.string sP, .string sA, u]) (hL : Blk W (n + 1) 73 #[.string sP, .int .i64 0]) (hb : SlE 9 (EM 1 2) W u (pcW nm).body) : UnR W (aU n) (unA nm) 1 2 :=
  ⟨rfl, rfl, rfl, rfl, rfl, RdE.nil, RdE.nil, RdE.nil, litRow hP rfl (by show 1 ≤ maxLen; decide) fun j hj => by
    have : j = 0 := by simpa using hj
    subst this
    exact ⟨hP.cell 0, hP.cell 1, u, hP.cell 2, hb⟩, litRow hL rfl (by show 1 ≤ maxLen; decide) fun j hj => by
    have : j = 0 := by simpa using hj
    subst this
    exact ⟨hL.cell 0, hL.cell 1⟩⟩
theorem wfB (nm : ByteArray) (h : nm = sC ∨ nm = sI) : (unA nm).Wf := by
  have k : ∀ nm : ByteArray, nm = sC ∨ nm = sI → (∀ x ∈ numb 0 (Tr.ndsL 1 (pcW nm).body), x.2.2.val.name.size ≤ maxLen) ∧ (∀ x ∈ numb 0 (Tr.ndsL 1 (pcW nm).body), ∀ e ∈ x.2.2.val.exprs, (∀ y ∈ numb 0 (Tr.ndsL 1 [e]), y.2.2.val.name.size ≤ maxLen) ∧ Tr.szL [e] ≤ 4000000) ∧ Tr.szL (pcW nm).body ≤ 4000000 := by
    intro nm h
    rcases h with rfl | rfl
    · decide +kernel
    · decide +kernel
  obtain ⟨k1, k2, k3⟩ := k nm h
  refine ⟨fun v h => (by cases h), fun v h => (by cases h), fun v h => (by cases h), fun p hp => ?_⟩
  rw [List.mem_singleton.1 hp]
  exact ⟨(by decide : sA.size ≤ maxLen), (by decide : sP.size ≤ maxLen), k1, fun x hx e he => ⟨(k2 x hx e he).1, (k2 x hx e he).2⟩, k3⟩
theorem wfA : (unA sC).Wf := wfB sC (.inl rfl)
theorem wfI : (unA sI).Wf := wfB sI (.inr rfl)
theorem eqB9 (nm : ByteArray) (h : nm = sC ∨ nm = sI) : EqU (unA nm) := fun p hp => by
  rw [List.mem_singleton.1 hp]
  have e : Tr.szL (pcW nm).body = 3 := by rcases h with rfl | rfl <;> decide +kernel
  refine ⟨by rw [e]; decide, ?_⟩
  refine ⟨⟨?_, trivial, trivial⟩, ⟨?_, ⟨⟨?_, trivial, trivial⟩, trivial⟩, trivial⟩, trivial⟩
  · show Tr.szL [xN1] ≤ 4000000
    decide +kernel
  · show Tr.szL [xL sA] ≤ 4000000
    decide +kernel
  · show Tr.szL [xL sB] ≤ 4000000
    decide +kernel
theorem eqA : EqU (unA sC) := eqB9 sC (.inl rfl)
theorem eqI : EqU (unA sI) := eqB9 sI (.inr rfl)
theorem unNe : unA sC ≠ unA sI := by
  intro h
  have h1 := congrArg (fun u : Un => u.procs.map fun p => p.body.map fun t => t.fst.map fun s => s.val.name.size) h
  exact absurd h1 (by decide +kernel)
/-- Where the clone's innermost statement lies, and all that leads to it. -/
structure Deep16 (B : Nat) (Y : World) (nm : ByteArray) (a : PgA) (b gB gI : Nat) : Prop where
  un1 : a.n4 = 1
  ad : a.A4 = some ⟨b, 0, none⟩
  ty : ∃ cur, Y.heap[b]? = some (.cells cur 44 (0, 0))
  c0 : Y.cell? ⟨b, 0, none⟩ = some (.string sP)
  c1 : Y.cell? ⟨b, 1, none⟩ = some (.string sA)
  lo : B ≤ gI
  loB : B ≤ gB
  tyI : ∃ cur, Y.heap[gI]? = some (.cells cur 54 (0, 0))
  tyB : ∃ cur, Y.heap[gB]? = some (.cells cur 54 (0, 0))
  row : ∃ c, Y.cell? ⟨b, 2, none⟩ = some (.slice (some ⟨gB, 0, none⟩) 2 c) ∧ 2 ≤ c ∧ c ≤ maxLen
  e0 : GM B 1 2 Y gB 0 (mLet sB xN1)
  i0 : Y.cell? ⟨gB, 9, none⟩ = some (.int .i64 18) ∧ Y.cell? ⟨gB, 10, none⟩ = some (.string s0) ∧ Y.cell? ⟨gB, 11, none⟩ = some (.string s0) ∧ Y.cell? ⟨gB, 12, none⟩ = some (.string s0) ∧ Y.cell? ⟨gB, 13, none⟩ = some (.int .i64 0) ∧ Y.cell? ⟨gB, 14, none⟩ = some (.int .i64 0)
  i6 : ∃ v, Y.cell? ⟨gB, 15, none⟩ = some v ∧ SlE 5 (GX B 1) Y v [xL sA]
  i7 : ∃ c, Y.cell? ⟨gB, 16, none⟩ = some (.slice (some ⟨gI, 0, none⟩) 1 c) ∧ 1 ≤ c ∧ c ≤ maxLen
  i8 : ∃ A c, Y.cell? ⟨gB, 17, none⟩ = some (.slice A 0 c) ∧ c ≤ maxLen
  q0 : Y.cell? ⟨gI, 0, none⟩ = some (.int .i64 1) ∧ Y.cell? ⟨gI, 1, none⟩ = some (.string nm) ∧ Y.cell? ⟨gI, 2, none⟩ = some (.string s0) ∧ Y.cell? ⟨gI, 3, none⟩ = some (.string s0) ∧ Y.cell? ⟨gI, 4, none⟩ = some (.int .i64 0) ∧ Y.cell? ⟨gI, 5, none⟩ = some (.int .i64 0)
  q6 : ∃ v, Y.cell? ⟨gI, 6, none⟩ = some v ∧ SlE 5 (GX B 1) Y v [xL sB]
  q7 : ∃ A c, Y.cell? ⟨gI, 7, none⟩ = some (.slice A 0 c) ∧ c ≤ maxLen
  q8 : ∃ A c, Y.cell? ⟨gI, 8, none⟩ = some (.slice A 0 c) ∧ c ≤ maxLen
theorem Cl16.deep {B : Nat} {Y : World} {a : PgA} (h : Cl16 B 1 2 Y (unA sC) a) : ∃ b gB gI, Deep16 B Y sC a b gB gI := by
  have hn : a.n4 = 1 := h.un.l4.symm
  obtain ⟨b, hf⟩ := h.fn (by omega)
  obtain ⟨p0, p1, A2, c2, p2, r2, nw⟩ := hf.at_ 0 (by show 0 < 1; decide)
  have nw := nw (by omega)
  obtain ⟨gB, curB, rfl, hgB, hcB, _, hel⟩ := nw 2 (by show 0 < 2; decide)
  have hel := hel.resolve_left id
  obtain ⟨bb, oo, ee, _, m0⟩ := r2.one (j := 0) (by show 0 < 2; decide)
  obtain ⟨bb', oo', ee', _, m1⟩ := r2.one (j := 1) (by show 1 < 2; decide)
  have q1 : gB = bb := congrArg Addr.block (Option.some.inj ee)
  have q2 : 0 = oo := congrArg Addr.off (Option.some.inj ee)
  have q3 : gB = bb' := congrArg Addr.block (Option.some.inj ee')
  have q4 : 0 = oo' := congrArg Addr.off (Option.some.inj ee')
  subst q1 q2 q3 q4
  obtain ⟨_, x0, x1, x2, x3, x4, x5, ⟨v6, x6, r6⟩, ⟨v7, x7, A7, c7, rfl, r7⟩, v8, x8, A8, c8, rfl, r8⟩ := m1
  obtain ⟨_, ⟨A3, c3, y7, hrow⟩, _⟩ := hel 1 (by show 1 < 2; decide)
  have x7 : Y.cell? ⟨gB, 16, none⟩ = some (.slice A7 1 c7) := x7
  have y7 : Y.cell? ⟨gB, 16, none⟩ = some (.slice A3 1 c3) := y7
  rw [x7] at y7
  injection y7 with y7
  injection y7 with i1 _ i3
  subst i1 i3
  obtain ⟨gI, curI, rfl, hgI, hcI, _, _⟩ := hrow (by show 0 < 1; decide)
  obtain ⟨b3, o3, e3, _, z0⟩ := r7.one (j := 0) (by show 0 < 1; decide)
  have q5 : gI = b3 := congrArg Addr.block (Option.some.inj e3)
  have q6 : 0 = o3 := congrArg Addr.off (Option.some.inj e3)
  subst q5 q6
  obtain ⟨_, w0, w1, w2, w3, w4, w5, ⟨u6, w6, t6⟩, ⟨u7, w7, A9, c9, rfl, t7⟩, u8, w8, A10, c10, rfl, t8⟩ := z0
  exact ⟨b, gB, gI, hn, hf.adr, hf.blk, p0, p1, hgI, hgB, ⟨curI, hcI⟩, ⟨curB, hcB⟩, ⟨c2, p2, r2.le, r2.max⟩, m0, ⟨x0, x1, x2, x3, x4, x5⟩, ⟨v6, x6, r6⟩, ⟨c7, x7, r7.le, r7.max⟩, ⟨A8, c8, x8, r8.max⟩, ⟨w0, w1, w2, w3, w4, w5⟩, ⟨u6, w6, t6⟩, ⟨A9, c9, w7, t7.max⟩, A10, c10, w8, t8.max⟩
section
variable {B b gB gI : Nat} {Y Z : World} {nm : ByteArray} {a : PgA}
theorem Deep16.below (h : Deep16 B Y nm a b gB gI) (hb : Below Y.heap.size Y Z) : Deep16 B Z nm a b gB gI := by
  have hl : ∀ {p : Nat} {T : TypeId}, (∃ cur, Y.heap[p]? = some (.cells cur T (0, 0))) → p < Y.heap.size := fun ⟨_, h⟩ => (Array.getElem?_eq_some_iff.1 h).1
  have ht : ∀ {p : Nat} {T : TypeId}, (∃ cur, Y.heap[p]? = some (.cells cur T (0, 0))) → ∃ cur, Z.heap[p]? = some (.cells cur T (0, 0)) := fun ⟨cur, h⟩ => ⟨cur, (hb.block _ (Array.getElem?_eq_some_iff.1 h).1).trans h⟩
  have cb : ∀ i u, Y.cell? ⟨b, i, none⟩ = some u → Z.cell? ⟨b, i, none⟩ = some u := fun i u h' => (hb.cell (hl h.ty)).trans h'
  have cB : ∀ i u, Y.cell? ⟨gB, i, none⟩ = some u → Z.cell? ⟨gB, i, none⟩ = some u := fun i u h' => (hb.cell (hl h.tyB)).trans h'
  have cI : ∀ i u, Y.cell? ⟨gI, i, none⟩ = some u → Z.cell? ⟨gI, i, none⟩ = some u := fun i u h' => (hb.cell (hl h.tyI)).trans h'
  obtain ⟨c, r1, r2⟩ := h.row
  obtain ⟨v6, g1, g2⟩ := h.i6
  obtain ⟨c7, g3, g4⟩ := h.i7
  obtain ⟨A8, c8, g5, g6⟩ := h.i8
  obtain ⟨i0, i1, i2, i3, i4, i5⟩ := h.i0
  obtain ⟨k0, k1, k2, k3, k4, k5⟩ := h.q0
  obtain ⟨u6, g7, g8⟩ := h.q6
  obtain ⟨A9, c9, g9, g10⟩ := h.q7
  obtain ⟨A10, c10, g11, g12⟩ := h.q8
  exact ⟨h.un1, h.ad, ht h.ty, cb _ _ h.c0, cb _ _ h.c1, h.lo, h.loB, ht h.tyI, ht h.tyB, ⟨c, cb _ _ r1, r2⟩, stabGM B 1 2 _ _ _ _ _ (hl h.tyB) hb h.e0, ⟨cB _ _ i0, cB _ _ i1, cB _ _ i2, cB _ _ i3, cB _ _ i4, cB _ _ i5⟩, ⟨v6, cB _ _ g1, g2.below (stabGX B 1) hb⟩, ⟨c7, cB _ _ g3, g4⟩, ⟨A8, c8, cB _ _ g5, g6⟩, ⟨cI _ _ k0, cI _ _ k1, cI _ _ k2, cI _ _ k3, cI _ _ k4, cI _ _ k5⟩, ⟨u6, cI _ _ g7, g8.below (stabGX B 1) hb⟩, ⟨A9, c9, cI _ _ g9, g10⟩, A10, c10, cI _ _ g11, g12⟩
/-- The procedures' row reads so. -/
theorem Deep16.rd (h : Deep16 B Y nm a b gB gI) {c : Nat} (hc : 1 ≤ c) (hm : c ≤ maxLen) : RdE 3 (EPc 1 2) Y a.A4 c [pcW nm] := by
  have hl : ∀ {p : Nat} {T : TypeId}, (∃ cur, Y.heap[p]? = some (.cells cur T (0, 0))) → p < Y.heap.size := fun ⟨_, h⟩ => (Array.getElem?_eq_some_iff.1 h).1
  refine ⟨hc, hm, fun _ => ⟨b, 0, h.ad, hl h.ty, fun j hj => ?_⟩⟩
  have : j = 0 := by simpa using hj
  subst this
  obtain ⟨c2, r1, r2, r3⟩ := h.row
  refine ⟨h.c0, h.c1, _, r1, _, c2, rfl, r2, r3, fun _ => ⟨gB, 0, rfl, hl h.tyB, fun j hj => ?_⟩⟩
  have : j = 0 ∨ j = 1 := by have : j < 2 := hj; omega
  rcases this with rfl | rfl
  · exact h.e0.to
  · obtain ⟨v6, g1, g2⟩ := h.i6
    obtain ⟨c7, g3, g4, g4'⟩ := h.i7
    obtain ⟨A8, c8, g5, g6⟩ := h.i8
    obtain ⟨i0, i1, i2, i3, i4, i5⟩ := h.i0
    obtain ⟨k0, k1, k2, k3, k4, k5⟩ := h.q0
    obtain ⟨u6, g7, g8⟩ := h.q6
    obtain ⟨A9, c9, g9, g10⟩ := h.q7
    obtain ⟨A10, c10, g11, g12⟩ := h.q8
    refine ⟨i0, i1, i2, i3, i4, i5, ⟨v6, g1, g2.mono fun _ _ _ h => h.to⟩, ⟨_, g3, _, c7, rfl, g4, g4', fun _ => ⟨gI, 0, rfl, hl h.tyI, fun j hj => ?_⟩⟩, _, g5, A8, c8, rfl, Nat.zero_le _, g6, fun h => absurd h (Nat.lt_irrefl 0)⟩
    have : j = 0 := by have : j < 1 := hj; omega
    subst this
    exact ⟨k0, k1, k2, k3, k4, k5, ⟨u6, g7, g8.mono fun _ _ _ h => h.to⟩, ⟨_, g9, A9, c9, rfl, Nat.zero_le _, g10, fun h => absurd h (Nat.lt_irrefl 0)⟩, _, g11, A10, c10, rfl, Nat.zero_le _, g12, fun h => absurd h (Nat.lt_irrefl 0)⟩
/-- The name of the innermost statement is changed. -/
theorem Deep16.put (h : Deep16 B Y sC a b gB gI) : Deep16 B (Y.setCell ⟨gI, 1, none⟩ (.string sI)) sI a b gB gI := by
  obtain ⟨curI, hcI⟩ := h.tyI
  obtain ⟨curB, hcB⟩ := h.tyB
  obtain ⟨curP, hcP⟩ := h.ty
  have hc : Chg Y (Y.setCell ⟨gI, 1, none⟩ (.string sI)) (fun q => q ≠ gI) := chgSet16 _ _ _ _
  have hbI : b ≠ gI := fun e => by
    subst e
    rw [hcP] at hcI
    injection hcI with hcI
    injection hcI with _ ht _
    exact absurd ht (by decide)
  have hBI : gB ≠ gI := fun e => by
    subst e
    obtain ⟨_, _, x1, _⟩ := h.e0
    have k1 := h.q0.2.1
    have x1 : Y.cell? ⟨gB, 1, none⟩ = some (.string sB) := x1
    rw [k1] at x1
    injection x1 with x1
    injection x1 with x1
    exact absurd (congrArg (fun s : ByteArray => s.data.toList) x1) (by decide)
  have lP := (Array.getElem?_eq_some_iff.1 hcP).1
  have lB := (Array.getElem?_eq_some_iff.1 hcB).1
  have cb : ∀ i u, Y.cell? ⟨b, i, none⟩ = some u → (Y.setCell ⟨gI, 1, none⟩ (.string sI)).cell? ⟨b, i, none⟩ = some u := fun i u h' => (World.cell?_of_block (hc.block b lP hbI)).trans h'
  have cB : ∀ i u, Y.cell? ⟨gB, i, none⟩ = some u → (Y.setCell ⟨gI, 1, none⟩ (.string sI)).cell? ⟨gB, i, none⟩ = some u := fun i u h' => (World.cell?_of_block (hc.block gB lB hBI)).trans h'
  have cI : ∀ i u, i ≠ 1 → Y.cell? ⟨gI, i, none⟩ = some u → (Y.setCell ⟨gI, 1, none⟩ (.string sI)).cell? ⟨gI, i, none⟩ = some u := fun i u hi h' => by
    rw [World.cell?_setCell_other _ _ _ _ fun e => hi (congrArg Addr.off e).symm]
    exact h'
  have tE : ∀ q, q < Y.heap.size → Ty B 37 Y q → q ≠ gI := tyOther hcI (by decide) h.lo
  have X : ∀ v l, SlE 5 (GX B 1) Y v l → SlE 5 (GX B 1) (Y.setCell ⟨gI, 1, none⟩ (.string sI)) v l := fun v l hv => hv.over hc.size fun _ _ _ hl h => h.chg hc tE hl
  obtain ⟨c, r1, r2⟩ := h.row
  obtain ⟨v6, g1, g2⟩ := h.i6
  obtain ⟨c7, g3, g4⟩ := h.i7
  obtain ⟨A8, c8, g5, g6⟩ := h.i8
  obtain ⟨i0, i1, i2, i3, i4, i5⟩ := h.i0
  obtain ⟨k0, k1, k2, k3, k4, k5⟩ := h.q0
  obtain ⟨u6, g7, g8⟩ := h.q6
  obtain ⟨A9, c9, g9, g10⟩ := h.q7
  obtain ⟨A10, c10, g11, g12⟩ := h.q8
  obtain ⟨_, x0, x1, x2, x3, x4, x5, ⟨w6, x6, r6⟩, ⟨w7, x7, B7, d7, rfl, r7⟩, w8, x8, B8, d8, rfl, r8⟩ := h.e0
  have tyB' := heapSet (g := gI) (i := 1) (.string sI) hcB
  have tyI' := heapSet (g := gI) (i := 1) (.string sI) hcI
  have tyP' := heapSet (g := gI) (i := 1) (.string sI) hcP
  refine ⟨h.un1, h.ad, tyP'.imp fun _ h => h.1, cb _ _ h.c0, cb _ _ h.c1, h.lo, h.loB, tyI'.imp fun _ h => h.1, tyB'.imp fun _ h => h.1, ⟨c, cb _ _ r1, r2⟩, ?_, ⟨cB _ _ i0, cB _ _ i1, cB _ _ i2, cB _ _ i3, cB _ _ i4, cB _ _ i5⟩, ⟨v6, cB _ _ g1, X _ _ g2⟩, ⟨c7, cB _ _ g3, g4⟩, ⟨A8, c8, cB _ _ g5, g6⟩, ⟨cI _ _ (by decide) k0, World.cell?_setCell_same _ _ _ k1, cI _ _ (by decide) k2, cI _ _ (by decide) k3, cI _ _ (by decide) k4, cI _ _ (by decide) k5⟩, ⟨u6, cI _ _ (by decide) g7, X _ _ g8⟩, ⟨A9, c9, cI _ _ (by decide) g9, g10⟩, A10, c10, cI _ _ (by decide) g11, g12⟩
  exact ⟨.inr (tyB'.imp fun _ h => h.1), cB _ _ x0, cB _ _ x1, cB _ _ x2, cB _ _ x3, cB _ _ x4, cB _ _ x5, ⟨w6, cB _ _ x6, X _ _ r6⟩, ⟨_, cB _ _ x7, B7, d7, rfl, Nat.zero_le _, r7.max, fun h => absurd h (Nat.lt_irrefl 0)⟩, _, cB _ _ x8, B8, d8, rfl, Nat.zero_le _, r8.max, fun h => absurd h (Nat.lt_irrefl 0)⟩
theorem Deep16.un (h : Deep16 B Y sI a b gB gI) (hu : UnR Z a (unA sC) 1 2) (hl : ∀ (A : Option Addr) (c : Nat), RdE 2 EV Z A c [(sP, 0)] → A = a.A5 → RdE 2 EV Y A c [(sP, 0)]) : UnR Y a (unA sI) 1 2 := by
  have nilE : ∀ {α : Type} {k : Nat} {E : World → Nat → Nat → α → Prop} {A : Option Addr} {c : Nat}, RdE k E Z A c [] → RdE k E Y A c [] := fun h => ⟨h.le, h.max, fun h => absurd h (by simp)⟩
  exact ⟨hu.l1, hu.l2, hu.l3, hu.l4, hu.l5, nilE hu.vars, nilE hu.muts, nilE hu.conds, h.rd hu.procs.le hu.procs.max, hl _ _ hu.thr rfl⟩
end

set_option maxRecDepth 100000 in
set_option maxHeartbeats 4000000 in
theorem awake1 (w : World) (hT : RwsT w) : Calls Tryz.prog 15 #[] w fun e w' => e = .returned (.bool true) ∧ Below w.heap.size w w' := by
  have HT := Lib.hid hT
  clear hT
  go_enter Tryz.func15, Tryz.ntmps15
  go_wp2_with fail
  refine (iLocal16 sB _).mono ?_
  rintro e X1 ⟨rfl, hb1⟩
  unfold exC
  obtain ⟨W2, hW2⟩ : ∃ W2, (X1.alloc (.cells #[.int .i64 2, .int .i64 0, .string sB, .int .i64 0, .slice none 0 0] 37)).alloc (.cells #[.int .i64 1, .string sC, .string s0, .string s0, .int .i64 0, .int .i64 0, .slice (some ⟨X1.heap.size, 0, none⟩) 1 1, .slice none 0 0, .slice none 0 0] 54) = W2 := ⟨_, rfl⟩
  have b2 : Below X1.heap.size X1 W2 := by rw [← hW2]; exact belowThen (belowAlloc _ _) (belowAlloc _ _)
  have BZ : Blk W2 (X1.heap.size + 1) 54 #[.int .i64 1, .string sC, .string s0, .string s0, .int .i64 0, .int .i64 0, .slice (some ⟨X1.heap.size, 0, none⟩) 1 1, .slice none 0 0, .slice none 0 0] := by rw [← hW2]; exact Blk.new1 _ _ _ _
  have BE : Blk W2 X1.heap.size 37 #[.int .i64 2, .int .i64 0, .string sB, .int .i64 0, .slice none 0 0] := by rw [← hW2]; exact (Blk.new _ _ _).alloc _
  have hu : SlE 5 (EX 1) W2 (.slice (some ⟨X1.heap.size, 0, none⟩) 1 1) [xL sB] := ⟨_, _, rfl, litX1 BE (nilX 0 _)⟩
  have HZ := Lib.hid (fun wc (hb : Below W2.heap.size W2 wc) => hu.below (stabX 1) hb)
  have HK := Lib.hid (fun wc (hb : Below W2.heap.size W2 wc) => (And.intro ((BZ.below' hb).cell 0) (And.intro ((BZ.below' hb).cell 1) (And.intro ((BZ.below' hb).cell 2) (And.intro ((BZ.below' hb).cell 3) (And.intro ((BZ.below' hb).cell 4) (And.intro ((BZ.below' hb).cell 5) (And.intro ((BZ.below' hb).cell 6) (And.intro ((BZ.below' hb).cell 7) ((BZ.below' hb).cell 8))))))))))
  have HB2 := Lib.hid (belowThen hb1 b2)
  have HW2 := Lib.hid hW2
  clear hW2 b2 BZ BE hu hb1
  go_upto_region 2 with fail
  rw [HW2.out]
  refine Code.wp_mono (Q := fun e s X => ∃ f, e = .normal ∧ s = actV (X1.heap.size + 1) (.agg #[.int .i64 2, .int .i64 0, .string sB, .int .i64 0, .slice none 0 0]) (.slice (some ⟨X1.heap.size, 0, none⟩) 1 1) (.agg #[.int .i64 1, .string sC, .string s0, .string s0, .int .i64 0, .int .i64 0, .slice (some ⟨X1.heap.size, 0, none⟩) 1 1, .slice none 0 0, .slice none 0 0]) f ∧ FinV W2 X (f 2)) ?_ ?_
  · rintro e s X ⟨f, rfl, rfl, hbX, g, u, hf2, glo, hG, hbody⟩
    obtain ⟨Bu, du, rfl, rbody⟩ := hbody
    obtain ⟨W3, hW3⟩ : ∃ W3, ((X.alloc (.cells #[.string sP, .string sA, .slice Bu 2 du] 44)).alloc (.cells #[.string sP, .int .i64 0] 73)).alloc (.cells #[.slice none 0 0, .slice none 0 0, .slice none 0 0, .slice (some ⟨X.heap.size, 0, none⟩) 1 1, .slice (some ⟨X.heap.size + 1, 0, none⟩) 1 1] 27) = W3 := ⟨_, rfl⟩
    have b3 : Below X.heap.size X W3 := by rw [← hW3]; exact belowThen (belowThen (belowAlloc _ _) (belowAlloc _ _)) (belowAlloc _ _)
    have BP3 : Blk W3 X.heap.size 44 #[.string sP, .string sA, .slice Bu 2 du] := by rw [← hW3]; exact ((Blk.new _ _ _).alloc _).alloc _
    have BL3 : Blk W3 (X.heap.size + 1) 73 #[.string sP, .int .i64 0] := by rw [← hW3]; exact (Blk.new1 _ _ _ _).alloc _
    have BU3 : UBox W3 (X.heap.size + 1 + 1) (aU X.heap.size) := by
      have h := Blk.new1 (X.alloc (.cells #[.string sP, .string sA, .slice Bu 2 du] 44)) (.cells #[.string sP, .int .i64 0] 73) 27 #[.slice none 0 0, .slice none 0 0, .slice none 0 0, .slice (some ⟨X.heap.size, 0, none⟩) 1 1, .slice (some ⟨X.heap.size + 1, 0, none⟩) 1 1]
      rw [World.size_alloc, hW3] at h
      exact h
    have hU3 : UnR W3 (aU X.heap.size) (unA sC) 1 2 := unOf BP3 BL3 ⟨Bu, du, rfl, rbody.below (stabM 1 2) b3⟩
    have B23 := belowThen hbX b3
    have BG3 : Blk W3 g 44 #[.string sP, .string sA, .slice Bu 2 du] := hG.below' b3
    have BT3 : RwsT W3 := (HT.out.below (belowThen HB2.out B23))
    have HG := Lib.hid (And.intro hf2 (And.intro BU3 (And.intro BG3 (And.intro hU3 BT3))))
    have HR3 := Lib.hid (rbody.below (stabM 1 2) b3)
    have HB3 := Lib.hid (belowThen HB2.out B23)
    have HW3 := Lib.hid hW3
    have p0 := hG.cell 0
    have p1 := hG.cell 1
    have p2 := hG.cell 2
    clear hW3 b3 BP3 BL3 BU3 hU3 B23 BG3 BT3 rbody hbX glo hG
    unfold actV
    rw [HG.out.1]
    go_upto_region 4 with fail
    rw [HW3.out]
    obtain ⟨x0, x1, x2, x3, x4⟩ := HG.out.2.1.facts
    have HCK := Lib.hid (iCheckU W3 HG.out.2.2.2.1 wfA HG.out.2.2.2.2)
    rw [unA0] at HCK
    unfold err6 at HCK
    simp only [PgA.val, PgA.fs, aU] at HCK x0 x1 x2 x3 x4
    clear p0 p1 p2
    go_wp2_with fail
    refine HCK.out.mono ?_
    rintro e W4 ⟨rfl, hb4⟩
    have hU4 := HG.out.2.2.2.1.below hb4
    have HCL := Lib.hid (iCloneU 1 2 (unA sC) (aU X.heap.size) W4 hU4 (Nat.zero_le _) (Nat.zero_le _) (Nat.zero_le _) (by show 1 ≤ 4000000; decide) (by show 1 ≤ 4000000; decide) eqA)
    obtain ⟨x0, x1, x2, x3, x4⟩ := (HG.out.2.1.below hb4).facts
    simp only [PgA.val, PgA.fs, aU] at HCL x0 x1 x2 x3 x4
    have HB4 := Lib.hid hb4
    have HU4 := Lib.hid hU4
    clear hb4 hU4 HCK
    go_wp2_with fail
    refine HCL.out.mono ?_
    rintro e X5 ⟨⟨A1, n1, c1, A2, n2, c2, A3, n3, c3, A4, n4, c4, A5, n5, c5⟩, rfl, hb5, hcl⟩
    obtain ⟨W5, hW5⟩ : ∃ W5, X5.alloc (.cells #[.slice A1 n1 c1, .slice A2 n2 c2, .slice A3 n3 c3, .slice A4 n4 c4, .slice A5 n5 c5] 27) = W5 := ⟨_, rfl⟩
    have b55 : Below X5.heap.size X5 W5 := by rw [← hW5]; exact belowAlloc _ _
    have B45 := belowThen hb5 b55
    have BV5 : UBox W5 X5.heap.size ⟨A1, n1, c1, A2, n2, c2, A3, n3, c3, A4, n4, c4, A5, n5, c5⟩ := by rw [← hW5]; exact Blk.new _ _ _
    obtain ⟨bP, gB, gI, D⟩ := hcl.deep
    have D := D.below b55
    have HF5 := Lib.hid (And.intro (hcl.f5.below b55) hcl.un.l5)
    have HBV := Lib.hid (And.intro BV5 (And.intro (hcl.un.below b55) D))
    have HEQ := Lib.hid (iEqualU 1 2 W5 (HU4.out.below B45) (hcl.un.below b55) eqA eqA)
    have HB45 := Lib.hid B45
    have HB35 := Lib.hid (belowThen HB4.out B45)
    obtain ⟨x0, x1, x2, x3, x4⟩ := (HG.out.2.1.below HB35.out).facts
    obtain ⟨y0, y1, y2, y3, y4⟩ := HBV.out.1.facts
    simp only [PgA.val, PgA.fs, aU] at HEQ x0 x1 x2 x3 x4 y0 y1 y2 y3 y4
    have HW5 := Lib.hid hW5
    clear hW5 b55 B45 BV5 D hcl hb5 HCL
    dsimp only
    go_upto_region 6 with fail
    rw [HW5.out]
    go_wp2_with fail
    refine HEQ.out.mono ?_
    rintro e W6 ⟨r, rfl, hr, hb6⟩
    have hrt : r = true := hr.2 (by first | exact rfl | trivial)
    subst hrt
    have D6 := HBV.out.2.2.below hb6
    have HB6 := Lib.hid hb6
    obtain ⟨y0, y1, y2, y3, y4⟩ := (HBV.out.1.below hb6).facts
    have eA4 := D6.ad
    have en4 := D6.un1
    simp only at eA4 en4 y0 y1 y2 y3 y4
    subst eA4 en4
    obtain ⟨cB, d2, _⟩ := D6.row
    obtain ⟨cI, d7, _⟩ := D6.i7
    have d1 := D6.q0.2.1
    have dz : W6.frozen? ⟨gI, 1, none⟩ = false := by
      obtain ⟨cur, hcur⟩ := D6.tyI
      exact Joins.unfrozen_of_block hcur 1
    obtain ⟨Y7, hY7⟩ : ∃ Y, W6.setCell ⟨gI, 1, none⟩ (.string sI) = Y := ⟨_, rfl⟩
    have D7 := D6.put
    have hc7 : Chg W6 (W6.setCell ⟨gI, 1, none⟩ (.string sI)) (fun q => q ≠ gI) := chgSet16 _ _ _ _
    have B46 := belowThen HB45.out hb6
    have B47 : Below W4.heap.size W4 (W6.setCell ⟨gI, 1, none⟩ (.string sI)) := B46.setCell D6.lo _
    have BV6 := HBV.out.1.below hb6
    have hXI : X5.heap.size ≠ gI := fun e => by
      obtain ⟨cur, hcur⟩ := D6.tyI
      rw [← e] at hcur
      have h := BV6
      unfold UBox Blk at h
      rw [h] at hcur
      injection hcur with hcur
      injection hcur with _ ht _
      exact absurd ht (by decide)
    have BV7 : UBox (W6.setCell ⟨gI, 1, none⟩ (.string sI)) X5.heap.size ⟨A1, n1, c1, A2, n2, c2, A3, n3, c3, some ⟨bP, 0, none⟩, 1, c4, A5, n5, c5⟩ := (hc7.block _ BV6.lt hXI).trans BV6
    have hU6 : UnR W6 ⟨A1, n1, c1, A2, n2, c2, A3, n3, c3, some ⟨bP, 0, none⟩, 1, c4, A5, n5, c5⟩ (unA sC) 1 2 := HBV.out.2.1.below hb6
    have hU7 : UnR (W6.setCell ⟨gI, 1, none⟩ (.string sI)) ⟨A1, n1, c1, A2, n2, c2, A3, n3, c3, some ⟨bP, 0, none⟩, 1, c4, A5, n5, c5⟩ (unA sI) 1 2 := D7.un hU6 fun A c h e => by
      subst e
      obtain ⟨cur, hcur⟩ := D6.tyI
      exact h.kt loc16V HF5.out.2 (HF5.out.1.below hb6) (by decide) hc7 (ktOther hcur (by decide))
    rw [hY7] at D7 B47 BV7 hU7
    have B37 := belowThen HB4.out B47
    have hT7 := HG.out.2.2.2.2.below B37
    have HALL := Lib.hid (fun Z (hZ : Below Y7.heap.size Y7 Z) => (And.intro ((HG.out.2.1.below B37).below hZ) (And.intro (BV7.below hZ) (And.intro ((HG.out.2.2.1.below' B37).below' hZ) (And.intro ((HG.out.2.2.2.1.below B37).below hZ) (And.intro (hU7.below hZ) (And.intro (hT7.below hZ) ((HR3.out.below (stabM 1 2) B37).below (stabM 1 2) hZ))))))))
    have HBY := Lib.hid (belowThen HB3.out B37)
    have HY7 := Lib.hid hY7
    have HCK2 := Lib.hid (iCheckU Y7 hU7 wfI hT7)
    rw [unA6] at HCK2
    unfold err6 at HCK2
    simp only [PgA.val, PgA.fs] at HCK2
    clear D6 D7 hr hb6 HEQ hc7 B46 B47 BV6 hXI BV7 hU6 hU7 B37 hT7 hY7
    go_upto_region 10 with fail
    rw [HY7.out]
    obtain ⟨x0, x1, x2, x3, x4⟩ := (HALL.out Y7 (Below.refl _ _)).2.1.facts
    simp only at x0 x1 x2 x3 x4
    clear y0 y1 y2 y3 y4 d1 d2 d7 dz
    go_wp2_with fail
    refine HCK2.out.mono ?_
    rintro e Z0 ⟨rfl, z0⟩
    clear x0 x1 x2 x3 x4
    have HS1 := Lib.hid (fun Z => iSum16 0 (xL sA) (xL sA) rfl rfl none none 0 0 0 0 rfl rfl Z RdE.nil RdE.nil)
    dsimp only [Tr.val, exC] at HS1
    go_wp2_with fail
    refine (iLocal16 sA Z0).mono ?_
    rintro e Z1 ⟨rfl, z1⟩
    unfold exC
    go_wp2_with fail
    refine (iLocal16 sA Z1).mono ?_
    rintro e Z2 ⟨rfl, z2⟩
    unfold exC
    go_wp2_with fail
    refine (HS1.out Z2).mono ?_
    rintro e Z3 ⟨S1, t1, rfl, r1, z3⟩
    go_wp2_with fail
    refine (iLocal16 sA Z3).mono ?_
    rintro e Z4 ⟨rfl, z4⟩
    unfold exC
    have HS2 := Lib.hid (iSum16 1 (xS (xL sA) (xL sA)) (xL sA) rfl rfl S1 none 2 t1 0 0 rfl rfl Z4 (r1.below (stabX 1) z4) RdE.nil)
    dsimp only [Tr.val, exC] at HS2
    go_wp2_with fail
    refine HS2.out.mono ?_
    rintro e Z5 ⟨S2, t2, rfl, r2, z5⟩
    go_wp2_with fail
    refine (iLocal16 sA Z5).mono ?_
    rintro e Z6 ⟨rfl, z6⟩
    unfold exC
    have HS3 := Lib.hid (iSum16 2 (xS (xS (xL sA) (xL sA)) (xL sA)) (xL sA) rfl rfl S2 none 2 t2 0 0 rfl rfl Z6 (r2.below (stabX 2) z6) RdE.nil)
    dsimp only [Tr.val, exC] at HS3
    go_wp2_with fail
    refine HS3.out.mono ?_
    rintro e Z7 ⟨S3, t3, rfl, r3, z7⟩
    obtain ⟨Z8, hZ8⟩ : ∃ Z, Z7.alloc (.cells #[.int .i64 3, .int .i64 0, .string s0, .int .i64 1, .slice S3 2 t3] 37) = Z := ⟨_, rfl⟩
    have z8 : Below Z7.heap.size Z7 Z8 := by rw [← hZ8]; exact belowAlloc _ _
    have b07 := belowThen z0 (belowThen z1 (belowThen z2 (belowThen z3 (belowThen z4 (belowThen z5 (belowThen z6 z7))))))
    have BD8 : Blk Z8 Z7.heap.size 37 #[.int .i64 3, .int .i64 0, .string s0, .int .i64 1, .slice S3 2 t3] := by rw [← hZ8]; exact Blk.new _ _ _
    have rd8 := r3.below (stabX 3) z8
    have HZ8 := Lib.hid hZ8
    have HD8 := Lib.hid (fun Z (hZ : Below Z8.heap.size Z8 Z) => (And.intro (BD8.below' hZ) (rd8.below (stabX 3) hZ)))
    have HB8 := Lib.hid (belowThen b07 z8)
    clear hZ8 z8 b07 BD8 rd8 z0 z1 z2 z3 z4 z5 z6 z7 r1 r2 r3 HS1 HS2 HS3 HCK2
    try unfold exC
    go_upto_region 12 with fail
    rw [HZ8.out]
    obtain ⟨hA, hV, hP8, hUA, hUI, hT8, hbd⟩ := HALL.out Z8 HB8.out
    obtain ⟨x0, x1, x2, x3, x4⟩ := hA.facts
    obtain ⟨y0, y1, y2, y3, y4⟩ := hV.facts
    have HEQ2 := Lib.hid (iEqualU 1 2 Z8 hUA hUI eqA eqI)
    simp only [PgA.val, PgA.fs, aU] at HEQ2 x0 x1 x2 x3 x4 y0 y1 y2 y3 y4
    clear hA hV hP8 hUA hUI hT8 hbd
    go_wp2_with fail
    refine HEQ2.out.mono ?_
    rintro e Z9 ⟨r, rfl, hr, z9⟩
    have hrf : r = false := by
      cases r
      · rfl
      · exact absurd (hr.1 (by first | exact rfl | trivial)) unNe
    subst hrf
    have HB9 := Lib.hid (belowThen HB8.out z9)
    have HD9 := Lib.hid (fun Z (hZ : Below Z9.heap.size Z9 Z) => HD8.out Z (belowThen z9 hZ))
    clear x0 x1 x2 x3 x4 y0 y1 y2 y3 y4 hr z9
    obtain ⟨_, _, hP9, _, _, hT9, hbd⟩ := HALL.out Z9 HB9.out
    have x0 := hP9.cell 0
    have x1 := hP9.cell 1
    have x2 := hP9.cell 2
    have HLO := Lib.hid (iLocals16 1 2 (pcW sC) (wfA.pc _ (List.mem_singleton.2 rfl)) Bu 2 du rfl Z9 hT9 hbd)
    rw [lcA] at HLO
    dsimp only at HLO
    clear hP9 hT9 hbd
    go_wp2_with fail
    refine HLO.out.mono ?_
    rintro e Z10 ⟨v, rfl, hown, z10⟩
    obtain ⟨Av, cv, rfl, hrv⟩ := hown.rd
    obtain ⟨Z11, hZ11⟩ : ∃ Z, Z10.alloc (.cells #[.string sA, .string sB, .string sC] 9) = Z := ⟨_, rfl⟩
    have z11 : Below Z10.heap.size Z10 Z11 := by rw [← hZ11]; exact belowAlloc _ _
    have BS : Blk Z11 Z10.heap.size 9 #[.string sA, .string sB, .string sC] := by rw [← hZ11]; exact Blk.new _ _ _
    have hrl : RdE 1 ES Z11 (some ⟨Z10.heap.size, 0, none⟩) 3 [sA, sB, sC] := litRow BS rfl (by decide) fun j hj => by
      have : j = 0 ∨ j = 1 ∨ j = 2 := by simp at hj; omega
      rcases this with rfl | rfl | rfl
      · exact BS.cell 0
      · exact BS.cell 1
      · exact BS.cell 2
    have HST := Lib.hid (rStrings16 [sA, sB, sC] [sA, sB, sC] 3 3 rfl rfl Av (some ⟨Z10.heap.size, 0, none⟩) cv 3 Z11 (hrv.below stabS z11) hrl)
    rw [decide_eq_true rfl] at HST
    have HZ11 := Lib.hid hZ11
    have HB11 := Lib.hid (belowThen HB9.out (belowThen z10 z11))
    have HZ9 := Lib.hid (belowThen z10 z11)
    clear hZ11 z11 BS hrl hrv hown z10 HLO x0 x1 x2
    dsimp only [List.length_cons, List.length_nil]
    go_wp2_with fail
    rw [HZ11.out]
    refine HST.out.mono ?_
    rintro e Z12 ⟨rfl, z12⟩
    have HB12 := Lib.hid (belowThen HB11.out z12)
    have HD12 := Lib.hid (fun Z (hZ : Below Z12.heap.size Z12 Z) => HD9.out Z (belowThen HZ9.out (belowThen z12 hZ)))
    clear z12
    obtain ⟨_, _, hP12, _, _, hT12, hbd⟩ := HALL.out Z12 HB12.out
    have x2 := hP12.cell 2
    have HCO := Lib.hid (iCount16 1 2 Bu 2 du (pcW sC).body rfl (by rw [ctA]; decide) Z12 hbd)
    rw [ctA] at HCO
    clear hP12 hT12 hbd
    go_wp2_with fail
    refine HCO.out.mono ?_
    rintro e Z13 ⟨rfl, z13⟩
    clear x2
    go_wp2_with fail
    refine (iLocal16 sA Z13).mono ?_
    rintro e Z14 ⟨rfl, z14⟩
    try unfold exC
    go_wp2_with fail
    refine (iLocal16 sB Z14).mono ?_
    rintro e Z15 ⟨rfl, z15⟩
    try unfold exC
    have HS4 := Lib.hid (iSum16 0 (xL sA) (xL sB) rfl rfl none none 0 0 0 0 rfl rfl Z15 RdE.nil RdE.nil)
    dsimp only [Tr.val, exC] at HS4
    go_wp2_with fail
    refine HS4.out.mono ?_
    rintro e Z16 ⟨S4, t4, rfl, r4, z16⟩
    try unfold exC
    obtain ⟨Z17, hZ17⟩ : ∃ Z, Z16.alloc (.cells #[.string sA] 9) = Z := ⟨_, rfl⟩
    have z17 : Below Z16.heap.size Z16 Z17 := by rw [← hZ17]; exact belowAlloc _ _
    have BS17 : Blk Z17 Z16.heap.size 9 #[.string sA] := by rw [← hZ17]; exact Blk.new _ _ _
    have hrl17 : RdE 1 ES Z17 (some ⟨Z16.heap.size, 0, none⟩) 1 [sA] := litRow BS17 rfl (by decide) fun j hj => by
      have : j = 0 := by simpa using hj
      subst this
      exact BS17.cell 0
    have HC1 := Lib.hid (iCheckX 1 (xS (xL sA) (xL sB)) rfl (wfXof _ (by decide +kernel) (by decide +kernel)) S4 2 t4 rfl [sA] (some ⟨Z16.heap.size, 0, none⟩) 1 1 rfl Z17 (r4.below (stabX 1) z17) hrl17)
    rw [chA] at HC1
    dsimp only [Tr.val, exC] at HC1
    have HZ17 := Lib.hid hZ17
    have hb1217 := belowThen z13 (belowThen z14 (belowThen z15 (belowThen z16 z17)))
    have HB17 := Lib.hid (belowThen HB12.out hb1217)
    have HD17 := Lib.hid (fun Z (hZ : Below Z17.heap.size Z17 Z) => HD12.out Z (belowThen hb1217 hZ))
    clear hZ17 z13 z14 z15 z16 z17 BS17 hrl17 r4 hb1217 HS4
    go_wp2_with fail
    rw [HZ17.out]
    refine HC1.out.mono ?_
    rintro e Z18 ⟨rfl, z18⟩
    have HB18 := Lib.hid (belowThen HB17.out z18)
    have HD18 := Lib.hid (fun Z (hZ : Below Z18.heap.size Z18 Z) => HD17.out Z (belowThen z18 hZ))
    obtain ⟨hD, _⟩ := HD18.out Z18 (Below.refl _ _)
    have x0 := hD.cell 0
    have x1 := hD.cell 1
    have x2 := hD.cell 2
    have x3 := hD.cell 3
    have x4 := hD.cell 4
    obtain ⟨Z19, hZ19⟩ : ∃ Z, Z18.alloc (.cells #[.string sA] 9) = Z := ⟨_, rfl⟩
    have z19 : Below Z18.heap.size Z18 Z19 := by rw [← hZ19]; exact belowAlloc _ _
    have BS19 : Blk Z19 Z18.heap.size 9 #[.string sA] := by rw [← hZ19]; exact Blk.new _ _ _
    have hrl19 : RdE 1 ES Z19 (some ⟨Z18.heap.size, 0, none⟩) 1 [sA] := litRow BS19 rfl (by decide) fun j hj => by
      have : j = 0 := by simpa using hj
      subst this
      exact BS19.cell 0
    have HC2 := Lib.hid (iCheckX 3 xDeep rfl (wfXof _ (by decide +kernel) (by decide +kernel)) S3 2 t3 rfl [sA] (some ⟨Z18.heap.size, 0, none⟩) 1 1 rfl Z19 (HD18.out Z19 z19).2 hrl19)
    rw [chD] at HC2
    dsimp only [Tr.val, exC] at HC2
    have HZ19 := Lib.hid hZ19
    have HB19 := Lib.hid (belowThen HB18.out z19)
    have HD19 := Lib.hid (fun Z (hZ : Below Z19.heap.size Z19 Z) => HD18.out Z (belowThen z19 hZ))
    clear hZ19 z18 z19 BS19 hrl19 hD HC1
    go_wp2_with fail
    rw [HZ19.out]
    refine HC2.out.mono ?_
    rintro e Z20 ⟨rfl, z20⟩
    obtain ⟨hD, hrD⟩ := HD19.out Z20 z20
    clear x0 x1 x2 x3 x4
    have x0 := hD.cell 0
    have x1 := hD.cell 1
    have x2 := hD.cell 2
    have x3 := hD.cell 3
    have x4 := hD.cell 4
    have HC3 := Lib.hid (iDepth16 3 xDeep rfl S3 2 t3 rfl (by decide +kernel) Z20 hrD)
    rw [dpD] at HC3
    dsimp only [Tr.val, exC] at HC3
    have HB20 := Lib.hid (belowThen HB19.out z20)
    clear hD hrD z20 HC2
    go_wp2_with fail
    refine HC3.out.mono ?_
    rintro e Z21 ⟨rfl, z21⟩
    have HB21 := Lib.hid (belowThen HBY.out (belowThen HB20.out z21))
    clear x0 x1 x2 x3 x4 z21
    go_wp2_with fail
    go_ret
    exact ⟨rfl, HB21.out⟩
  · refine regionInv (by kernel_rfl) (by kernel_rfl) (InvV (X1.heap.size + 1) (.agg #[.int .i64 2, .int .i64 0, .string sB, .int .i64 0, .slice none 0 0]) (.slice (some ⟨X1.heap.size, 0, none⟩) 1 1) (.agg #[.int .i64 1, .string sC, .string s0, .string s0, .int .i64 0, .int .i64 0, .slice (some ⟨X1.heap.size, 0, none⟩) 1 1, .slice none 0 0, .slice none 0 0]) W2) ⟨fun _ => undef, rfl, .inl ⟨(Below.refl _ W2).drew, by unfold Lst; decide, fun i hi hl => ?_⟩⟩ ?_ ?_
    · exfalso
      rcases (by omega : i = 0 ∨ i = 1 ∨ i = 2 ∨ i = 3 ∨ i = 4 ∨ i = 5 ∨ i = 6 ∨ i = 7 ∨ i = 8 ∨ i = 9 ∨ i = 10) with rfl | rfl | rfl | rfl | rfl | rfl | rfl | rfl | rfl | rfl | rfl <;> exact absurd hl (by unfold Lst; decide)
    · rintro L s wc i o ho ⟨f, rfl, hI⟩ hnot hedge K hK
      have hi : i < 12 := (Array.getElem?_eq_some_iff.1 ho).1
      have hP := hI.resolve_right (fun h => hnot (h.1 i hi))
      clear hI
      obtain ⟨k0, k1, k2, k3, k4, k5, k6, k7, k8⟩ := HK.out wc hP.below
      try simp only at k0 k1 k2 k3 k4 k5 k6 k7 k8
      rcases (by omega : i = 0 ∨ i = 1 ∨ i = 2 ∨ i = 3 ∨ i = 4 ∨ i = 5 ∨ i = 6 ∨ i = 7 ∨ i = 8 ∨ i = 9 ∨ i = 10 ∨ i = 11) with rfl | rfl | rfl | rfl | rfl | rfl | rfl | rfl | rfl | rfl | rfl | rfl
      · simp only [List.getElem?_toArray, List.getElem?_cons_zero, Option.some.injEq] at ho
        subst ho
        refine wantedIf (by rfl) ?_
        refine opVal (v := .agg #[.int .i64 1, .int .i64 1, .string s0, .int .i64 0, .slice none 0 0]) (w' := wc) ?_ (hK _ _ ⟨upd f 16 _, actV_16, .inl (hP.next 0 (by decide) (Below.refl _ _) rfl rfl)⟩)
        unfold actV
        go_simp
      · simp only [List.getElem?_toArray, List.getElem?_cons_succ, List.getElem?_cons_zero, Option.some.injEq] at ho
        subst ho
        refine wantedIf (by rfl) ?_
        have e0 := hP.fact 0 (by decide) (hedge ⟨0, .data⟩ (by simp) rfl)
        simp only [FV, slotV, List.getD_cons_zero] at e0
        refine opVal (v := .slice (some ⟨wc.heap.size, 0, none⟩) 1 1) (w' := wc.alloc (.cells #[.int .i64 1, .int .i64 1, .string s0, .int .i64 0, .slice none 0 0] 37)) ?_ (hK _ _ ⟨upd f 17 _, actV_17, .inl (hP.next 1 (by decide) (belowAlloc _ _) ⟨_, _, rfl, litX1 (Blk.new _ _ _) (nilX 0 _)⟩ rfl)⟩)
        unfold actV
        go_simp
      · simp only [List.getElem?_toArray, List.getElem?_cons_succ, List.getElem?_cons_zero, Option.some.injEq] at ho
        subst ho
        refine wantedIf (by rfl) ?_
        have e1 := hP.fact 1 (by decide) (hedge ⟨1, .data⟩ (by simp) rfl)
        simp only [FV, slotV, List.getD_cons_succ, List.getD_cons_zero] at e1
        obtain ⟨B1, d1, e1, r1⟩ := e1
        refine opVal (v := .agg #[.int .i64 1, .string sB, .string s0, .string s0, .int .i64 0, .int .i64 0, .slice B1 1 d1, .slice none 0 0, .slice none 0 0]) (w' := wc) ?_ (hK _ _ ⟨upd f 18 _, actV_18, .inl (hP.next 2 (by decide) (Below.refl _ _) ⟨_, rfl, B1, d1, rfl, r1⟩ rfl)⟩)
        unfold actV
        go_simp
      · simp only [List.getElem?_toArray, List.getElem?_cons_succ, List.getElem?_cons_zero, Option.some.injEq] at ho
        subst ho
        refine wantedIf (by rfl) ?_
        unfold actV
        go_simp
        refine (iLocal16 sA wc).mono ?_
        rintro e w2 ⟨rfl, hb2⟩
        exact hK _ _ ⟨upd f 19 _, actV_19, .inl (hP.next 3 (by decide) hb2 rfl rfl)⟩
      · simp only [List.getElem?_toArray, List.getElem?_cons_succ, List.getElem?_cons_zero, Option.some.injEq] at ho
        subst ho
        refine wantedIf (by rfl) ?_
        have e3 := hP.fact 3 (by decide) (hedge ⟨3, .data⟩ (by simp) rfl)
        simp only [FV, slotV, List.getD_cons_succ, List.getD_cons_zero] at e3
        refine opVal (v := .slice (some ⟨wc.heap.size, 0, none⟩) 1 1) (w' := wc.alloc (.cells #[.int .i64 2, .int .i64 0, .string sA, .int .i64 0, .slice none 0 0] 37)) ?_ (hK _ _ ⟨upd f 20 _, actV_20, .inl (hP.next 4 (by decide) (belowAlloc _ _) ⟨_, _, rfl, litX1 (Blk.new _ _ _) (nilX 0 _)⟩ rfl)⟩)
        unfold actV
        go_simp
      · simp only [List.getElem?_toArray, List.getElem?_cons_succ, List.getElem?_cons_zero, Option.some.injEq] at ho
        subst ho
        refine wantedIf (by rfl) ?_
        refine opVal (v := .agg #[.int .i64 1, .string sC, .string s0, .string s0, .int .i64 0, .int .i64 0, .slice (some ⟨X1.heap.size, 0, none⟩) 1 1, .slice none 0 0, .slice none 0 0]) (w' := wc) ?_ (hK _ _ ⟨upd f 21 _, actV_21, .inl (hP.next 5 (by decide) (Below.refl _ _) ⟨_, rfl, HZ.out wc hP.below⟩ rfl)⟩)
        unfold actV
        go_simp
      · simp only [List.getElem?_toArray, List.getElem?_cons_succ, List.getElem?_cons_zero, Option.some.injEq] at ho
        subst ho
        refine wantedIf (by rfl) ?_
        have e5 := hP.fact 5 (by decide) (hedge ⟨5, .data⟩ (by simp) rfl)
        simp only [FV, slotV, List.getD_cons_succ, List.getD_cons_zero] at e5
        obtain ⟨u, e5, r5⟩ := e5
        obtain ⟨B5, d5, rfl, r5⟩ := r5
        refine opVal (v := .slice (some ⟨wc.heap.size, 0, none⟩) 1 1) (w' := wc.alloc (.cells #[.int .i64 1, .string sC, .string s0, .string s0, .int .i64 0, .int .i64 0, .slice B5 1 d5, .slice none 0 0, .slice none 0 0] 54)) ?_ (hK _ _ ⟨upd f 22 _, actV_22, .inl (hP.next 6 (by decide) (belowAlloc _ _) ⟨_, _, rfl, litM1 (Blk.new _ _ _) ⟨B5, d5, rfl, r5.below (stabX 1) (belowAlloc _ _)⟩ (nilM 1 0 _) (nilM 1 0 _)⟩ rfl)⟩)
        unfold actV
        go_simp
      · simp only [List.getElem?_toArray, List.getElem?_cons_succ, List.getElem?_cons_zero, Option.some.injEq] at ho
        subst ho
        refine wantedIf (by rfl) ?_
        have e4 := hP.fact 4 (by decide) (hedge ⟨4, .data⟩ (by simp) rfl)
        simp only [FV, slotV, List.getD_cons_succ, List.getD_cons_zero] at e4
        have e6 := hP.fact 6 (by decide) (hedge ⟨6, .data⟩ (by simp) rfl)
        simp only [FV, slotV, List.getD_cons_succ, List.getD_cons_zero] at e6
        obtain ⟨B4, d4, e4, r4⟩ := e4
        obtain ⟨B6, d6, e6, r6⟩ := e6
        refine opVal (v := .agg #[.int .i64 18, .string s0, .string s0, .string s0, .int .i64 0, .int .i64 0, .slice B4 1 d4, .slice B6 1 d6, .slice none 0 0]) (w' := wc) ?_ (hK _ _ ⟨upd f 23 _, actV_23, .inl (hP.next 7 (by decide) (Below.refl _ _) ⟨_, _, rfl, ⟨B4, d4, rfl, r4⟩, B6, d6, rfl, r6⟩ rfl)⟩)
        unfold actV
        go_simp
      · simp only [List.getElem?_toArray, List.getElem?_cons_succ, List.getElem?_cons_zero, Option.some.injEq] at ho
        subst ho
        refine wantedIf (by rfl) ?_
        have e2 := hP.fact 2 (by decide) (hedge ⟨2, .data⟩ (by simp) rfl)
        simp only [FV, slotV, List.getD_cons_succ, List.getD_cons_zero] at e2
        have e7 := hP.fact 7 (by decide) (hedge ⟨7, .data⟩ (by simp) rfl)
        simp only [FV, slotV, List.getD_cons_succ, List.getD_cons_zero] at e7
        obtain ⟨u, e2, r2⟩ := e2
        obtain ⟨B2, d2, rfl, r2⟩ := r2
        obtain ⟨u, u2, e7, r7, q7⟩ := e7
        obtain ⟨B7, d7, rfl, r7⟩ := r7
        obtain ⟨C7, g7, rfl, q7⟩ := q7
        refine opVal (v := .slice (some ⟨wc.heap.size, 0, none⟩) 2 2) (w' := wc.alloc (.cells #[.int .i64 1, .string sB, .string s0, .string s0, .int .i64 0, .int .i64 0, .slice B2 1 d2, .slice none 0 0, .slice none 0 0, .int .i64 18, .string s0, .string s0, .string s0, .int .i64 0, .int .i64 0, .slice B7 1 d7, .slice C7 1 g7, .slice none 0 0] 54)) ?_ (hK _ _ ⟨upd f 24 _, actV_24, .inl (hP.next 8 (by decide) (belowAlloc _ _) ⟨_, _, rfl, litM2 (Blk.new _ _ _) ⟨B2, d2, rfl, r2.below (stabX 1) (belowAlloc _ _)⟩ (nilM 1 1 _) (nilM 1 1 _) ⟨B7, d7, rfl, r7.below (stabX 1) (belowAlloc _ _)⟩ ⟨C7, g7, rfl, q7.below (stabM 1 1) (belowAlloc _ _)⟩ (nilM 1 1 _)⟩ rfl)⟩)
        unfold actV
        go_simp
      · simp only [List.getElem?_toArray, List.getElem?_cons_succ, List.getElem?_cons_zero, Option.some.injEq] at ho
        subst ho
        refine wantedIf (by rfl) ?_
        have e8 := hP.fact 8 (by decide) (hedge ⟨8, .data⟩ (by simp) rfl)
        simp only [FV, slotV, List.getD_cons_succ, List.getD_cons_zero] at e8
        obtain ⟨B8, d8, e8, r8⟩ := e8
        refine opVal (v := .agg #[.string sP, .string sA, .slice B8 2 d8]) (w' := wc) ?_ (hK _ _ ⟨upd f 25 _, actV_25, .inl (hP.next 9 (by decide) (Below.refl _ _) ⟨_, rfl, B8, d8, rfl, r8⟩ rfl)⟩)
        unfold actV
        go_simp
      · simp only [List.getElem?_toArray, List.getElem?_cons_succ, List.getElem?_cons_zero, Option.some.injEq] at ho
        subst ho
        refine wantedIf (by rfl) ?_
        refine opVal (v := .pointer (some ⟨wc.heap.size, 0, none⟩)) (w' := wc.alloc (.cells #[.string s0, .string s0, .slice none 0 0] 44)) ?_ (hK _ _ ⟨upd f 2 _, actV_2, .inl (hP.next 10 (by decide) (belowAlloc _ _) ⟨_, rfl, hP.below.size, Blk.new _ _ _⟩ rfl)⟩)
        unfold actV
        go_simp
      · simp only [List.getElem?_toArray, List.getElem?_cons_succ, List.getElem?_cons_zero, Option.some.injEq] at ho
        subst ho
        refine wantedIf (by rfl) ?_
        have e9 := hP.fact 9 (by decide) (hedge ⟨9, .data⟩ (by simp) rfl)
        simp only [FV, slotV, List.getD_cons_succ, List.getD_cons_zero] at e9
        have e10 := hP.fact 10 (by decide) (hedge ⟨10, .data⟩ (by simp) rfl)
        simp only [FV, slotV, List.getD_cons_succ, List.getD_cons_zero] at e10
        obtain ⟨u, e9, r9⟩ := e9
        obtain ⟨B9, d9, rfl, r9⟩ := r9
        obtain ⟨g, e10, glo, hG⟩ := e10
        have x1 := hG.cell 0
        have x2 := hG.cell 1
        have x3 := hG.cell 2
        have z1 := hG.frozen 0
        have z2 := hG.frozen 1
        have z3 := hG.frozen 2
        have hcg : Chg wc (((wc.setCell ⟨g, 0, none⟩ (.string sP)).setCell ⟨g, 1, none⟩ (.string sA)).setCell ⟨g, 2, none⟩ (.slice B9 2 d9)) (fun q => q ≠ g) := ((chgSet16 _ g 0 _).trans (chgSet16 _ g 1 _) fun _ _ h => h).trans (chgSet16 _ g 2 _) fun _ _ h => h
        have HFI := Lib.hid (show FinV W2 (((wc.setCell ⟨g, 0, none⟩ (.string sP)).setCell ⟨g, 1, none⟩ (.string sA)).setCell ⟨g, 2, none⟩ (.slice B9 2 d9)) (f 2) from ⟨((hP.below.setCell glo _).setCell glo _).setCell glo _, g, .slice B9 2 d9, e10, glo, ((hG.set 0 _).set 1 _).set 2 _, B9, d9, rfl, rdNotP r9 hG hcg⟩)
        refine opSkip (w' := ((wc.setCell ⟨g, 0, none⟩ (.string sP)).setCell ⟨g, 1, none⟩ (.string sA)).setCell ⟨g, 2, none⟩ (.slice B9 2 d9)) ?_ (hK _ _ ⟨f, rfl, .inr ⟨?_, HFI.out⟩⟩)
        · unfold actV
          go_simp
        · intro i hi
          by_cases h11 : i = 11
          · subst h11; exact Lst.self
          · refine Lst.set ?_
            rcases (by omega : i = 0 ∨ i = 1 ∨ i = 2 ∨ i = 3 ∨ i = 4 ∨ i = 5 ∨ i = 6 ∨ i = 7 ∨ i = 8 ∨ i = 9 ∨ i = 10) with rfl | rfl | rfl | rfl | rfl | rfl | rfl | rfl | rfl | rfl | rfl
            · exact hedge ⟨0, .phase⟩ (by simp) rfl
            · exact hedge ⟨1, .phase⟩ (by simp) rfl
            · exact hedge ⟨2, .phase⟩ (by simp) rfl
            · exact hedge ⟨3, .phase⟩ (by simp) rfl
            · exact hedge ⟨4, .phase⟩ (by simp) rfl
            · exact hedge ⟨5, .phase⟩ (by simp) rfl
            · exact hedge ⟨6, .phase⟩ (by simp) rfl
            · exact hedge ⟨7, .phase⟩ (by simp) rfl
            · exact hedge ⟨8, .phase⟩ (by simp) rfl
            · exact hedge ⟨9, .phase⟩ (by simp) rfl
            · exact hedge ⟨10, .phase⟩ (by simp) rfl
    · rintro L s wc hall ⟨f, rfl, hI⟩
      rcases hI with hI | ⟨_, hfin⟩
      · exact absurd (hall 11 (by decide)) hI.no
      · exact ⟨f, rfl, rfl, hfin⟩
end Go.Proofs.YtiaendggmamnkaaGreatDoor
