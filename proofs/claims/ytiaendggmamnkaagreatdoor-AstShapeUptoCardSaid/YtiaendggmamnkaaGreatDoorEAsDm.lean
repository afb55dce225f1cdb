/-
  What lies in memory while cloneTrees works on statements.
-/
import Derived.Test.YtiaendggmamnkaaGreatDoorEAsGm
import Derived.Test.YtiaendggmamnkaaGreatDoorESq
import Derived.Test.YtiaendggmamnkaaGreatDoorEAsK
import Derived.Test.YtiaendggmamnkaaGreatDoorESv
namespace Go.Proofs.YtiaendggmamnkaaGreatDoor
open Go Go.RowKit

/-! A copy of expressions, told at an older base. -/
theorem GX.rebase {B B' : Nat} : ∀ {d : Nat} {w : World} {b o : Nat} {t : Ex}, GX B' d w b o t → Ty B 37 w b → NX B' (fun _ _ => False) d w b o t → GX B d w b o t
  | 0, _, _, _, _, h, _, _ => h.elim
  | d + 1, w, b, o, t, ⟨_, h0, h1, h2, h3, hs, v, h4, A, c, e, hr⟩, ht, ⟨A2, c2, k4, k5⟩ => by
    subst e
    rw [k4] at h4
    injection h4 with h4
    injection h4 with e1 _ e3
    subst e1 e3
    refine ⟨ht, h0, h1, h2, h3, hs, _, k4, A2, c2, rfl, hr.le, hr.max, fun hn => ?_⟩
    obtain ⟨g, cur, eA, _, hh, _, hx⟩ := k5 hn
    refine ⟨g, 0, eA, (Array.getElem?_eq_some_iff.1 hh).1, fun j hj => ?_⟩
    obtain ⟨b9, o9, e9, _, hy⟩ := hr.one hj
    rw [eA] at e9
    injection e9 with e9
    injection e9 with p1 p2 _
    subst p1 p2
    rw [Nat.zero_add] at hy ⊢
    exact hy.rebase (.inr ⟨cur, hh⟩) (hx.resolve_left id j hj)
theorem NX.base {B B' : Nat} {S : Nat → Nat → Prop} (hB : B ≤ B') {w : World} : ∀ {d : Nat} {b o : Nat} {t : Ex}, NX B' S d w b o t → NX B S d w b o t
  | 0, _, _, _, _ => trivial
  | d + 1, _, _, _, ⟨A, c, h1, h2⟩ => ⟨A, c, h1, fun hn => by
    obtain ⟨g, cur, e, hg, hc, hs, hx⟩ := h2 hn
    exact ⟨g, cur, e, Nat.le_trans hB hg, hc, hs, hx.imp id fun hx j hj => (hx j hj).base hB⟩⟩
theorem RowN.baseX {B B' d : Nat} {S : Nat → Nat → Prop} (hB : B ≤ B') {w : World} {A : Option Addr} {ts : List Ex} (h : RowN B' 37 5 S (NX B' S d) w A ts) : RowN B 37 5 S (NX B S d) w A ts := fun hn => by
  obtain ⟨g, cur, e, hg, hc, hs, hx⟩ := h hn
  exact ⟨g, cur, e, Nat.le_trans hB hg, hc, hs, hx.imp id fun hx j hj => (hx j hj).base hB⟩
theorem rebaseX {B B' dx c : Nat} {w : World} {A : Option Addr} {es : List Ex} (hr : RdE 5 (GX B' dx) w A c es) (hn : ∀ d, RowN B' 37 5 (fun _ _ => False) (NX B' (fun _ _ => False) d) w A es) : RdE 5 (GX B dx) w A c es :=
  ⟨hr.le, hr.max, fun h0 => by
    obtain ⟨g, cur, eA, _, hh, _, hx⟩ := hn dx h0
    refine ⟨g, 0, eA, (Array.getElem?_eq_some_iff.1 hh).1, fun j hj => ?_⟩
    obtain ⟨b9, o9, e9, _, hy⟩ := hr.one hj
    rw [eA] at e9
    injection e9 with e9
    injection e9 with p1 p2 _
    subst p1 p2
    rw [Nat.zero_add] at hy ⊢
    exact hy.rebase (.inr ⟨cur, hh⟩) (hx.resolve_left id j hj)⟩
/-! The stack. -/
structure CtM (dx D : Nat) (w X : World) (A1 : Option Addr) (c1 : Nat) (l : List Sm) (z : Nat) (P : Nat → Nat → Prop) (L : List SlA) (S : List (List Sm)) (v : Value) : Prop where
  bel : Below w.heap.size w X
  rd : RdE 9 (GM w.heap.size dx D) X A1 c1 l
  top : ∀ d, RowN w.heap.size 54 9 P (NM w.heap.size P d) X A1 l
  stk : StkL w.heap.size 54 9 (GM w.heap.size dx D) X L S
  box : Blk X z 162 #[v]
  row : OwnSM X w.heap.size v L.reverse
  ne : v.ownBlock ≠ some z
  old : w.heap.size ≤ z
  sz : Tr.wt1 S ≤ 8000001
section
variable {dx D : Nat} {w X : World} {A1 : Option Addr} {c1 : Nat} {l : List Sm} {z : Nat} {P P' : Nat → Nat → Prop} {L : List SlA} {S : List (List Sm)} {v : Value}
theorem CtM.len (h : CtM dx D w X A1 c1 l z P L S v) : L.reverse.length ≤ 10000000 := by
  have h1 := h.stk.len
  have h2 := h.sz
  have h3 := Tr.wtLen1 S
  rw [List.length_reverse]
  omega
theorem CtM.apart (h : CtM dx D w X A1 c1 l z P L S v) {T : TypeId} (h1 : 162 ≠ T) (h2 : 42 ≠ T) : ∀ b, b < X.heap.size → Ty w.heap.size T X b → b ≠ z ∧ v.ownBlock ≠ some b := by
  intro b _ ht
  refine ⟨fun e => ?_, fun e => ?_⟩
  · subst e
    rcases ht with ht | ⟨cur, ht⟩
    · have := h.old; omega
    · have hb := h.box
      unfold Blk at hb
      rw [ht] at hb
      injection hb with hb
      injection hb with _ hb _
      exact absurd hb.symm h1
  · rcases ht with ht | ⟨cur, ht⟩
    · have := (h.row.lt e).1; omega
    · obtain ⟨cur', hb⟩ := h.row.ty e
      rw [ht] at hb
      injection hb with hb
      injection hb with _ hb _
      exact absurd hb.symm h2
theorem CtM.apS (h : CtM dx D w X A1 c1 l z P L S v) : ∀ b, b < X.heap.size → Ty w.heap.size 54 X b → b ≠ z ∧ v.ownBlock ≠ some b := h.apart (by decide) (by decide)
theorem CtM.apE (h : CtM dx D w X A1 c1 l z P L S v) : ∀ b, b < X.heap.size → Ty w.heap.size 37 X b → b ≠ z ∧ v.ownBlock ≠ some b := h.apart (by decide) (by decide)
end
structure KpM (B dx D : Nat) (P P' : Nat → Nat → Prop) (X Y : World) : Prop where
  size : X.heap.size ≤ Y.heap.size
  gm : ∀ b o t, b < X.heap.size → GM B dx D X b o t → GM B dx D Y b o t
  nm : ∀ d b o t, b < X.heap.size → Ty B 54 X b → GM B dx D X b o t → NM B P d X b o t → NM B P' d Y b o t
  fr : ∀ g cur, B ≤ g → X.heap[g]? = some (.cells cur 54 (0, 0)) → ∃ cur', Y.heap[g]? = some (.cells cur' 54 (0, 0)) ∧ cur'.size = cur.size
section
variable {B dx D : Nat} {P P' : Nat → Nat → Prop} {X Y : World}
theorem KpM.top (k : KpM B dx D P P' X Y) (hP : ∀ g n, P g n → P' g n) {A1 : Option Addr} {c1 : Nat} {l : List Sm} {d : Nat} (hr : RdE 9 (GM B dx D) X A1 c1 l) (h : RowN B 54 9 P (NM B P d) X A1 l) : RowN B 54 9 P' (NM B P' d) Y A1 l :=
  h.over k.fr (fun _ _ h => .inl (hP _ _ h)) fun _ cur eA hg j hj h => by
    obtain ⟨b9, o9, e9, _, hy⟩ := hr.one hj
    rw [eA] at e9
    injection e9 with e9
    injection e9 with p1 p2 _
    subst p1 p2
    rw [Nat.zero_add] at hy
    exact k.nm _ _ _ _ (Array.getElem?_eq_some_iff.1 hg).1 (.inr ⟨cur, hg⟩) hy h
theorem KpM.ofChg {F : Nat → Prop} (hc : Chg X Y F) (hF : ∀ b, b < X.heap.size → Ty B 54 X b → F b) (hX : ∀ b, b < X.heap.size → Ty B 37 X b → F b) (hP : ∀ g n, P g n → P' g n) : KpM B dx D P P' X Y :=
  ⟨hc.size, fun _ _ _ hl h => h.chg hc hF hX hl, fun _ _ _ _ hl ht _ h => (h.chg hc hF hX hl ht).mono hP, fun g cur _ h => ⟨cur, (hc.block g (Array.getElem?_eq_some_iff.1 h).1 (hF g (Array.getElem?_eq_some_iff.1 h).1 (.inr ⟨cur, h⟩))).trans h, rfl⟩⟩
theorem KpM.ofBelow (hb : Below X.heap.size X Y) (hP : ∀ g n, P g n → P' g n) : KpM B dx D P P' X Y := KpM.ofChg (Chg.ofBelow hb fun _ => True) (fun _ _ _ => trivial) (fun _ _ _ => trivial) hP
end
section
variable {dx D : Nat} {w X : World} {A1 : Option Addr} {c1 : Nat} {l : List Sm} {z : Nat} {P P' : Nat → Nat → Prop} {L : List SlA} {S : List (List Sm)} {v : Value}
theorem CtM.below {Y : World} (h : CtM dx D w X A1 c1 l z P L S v) (hb : Below X.heap.size X Y) : CtM dx D w Y A1 c1 l z P L S v := by
  have K : KpM w.heap.size dx D P P X Y := KpM.ofBelow hb fun _ _ h => h
  exact ⟨belowThen h.bel hb, h.rd.over K.size K.gm, fun d => K.top (fun _ _ h => h) h.rd (h.top d), h.stk.over K.size K.gm K.fr, h.box.below' hb, h.row.below hb, h.ne, h.old, h.sz⟩
/-- The stack and its box change, nothing else. -/
theorem CtM.stack {Y : World} {F : Nat → Prop} {L' : List SlA} {S' : List (List Sm)} {v' : Value} (h : CtM dx D w X A1 c1 l z P L S v) (hc : Chg X Y F) (hF : ∀ b, b ≠ z ∧ v.ownBlock ≠ some b → F b) (hP : ∀ g n, P g n → P' g n) (hstk : StkL w.heap.size 54 9 (GM w.heap.size dx D) Y L' S') (hbx : Blk Y z 162 #[v']) (hrow : OwnSM Y w.heap.size v' L'.reverse) (hne : v'.ownBlock ≠ some z) (hsz : Tr.wt1 S' ≤ 8000001) : CtM dx D w Y A1 c1 l z P' L' S' v' := by
  have K : KpM w.heap.size dx D P P' X Y := KpM.ofChg hc (fun b hl ht => hF b (h.apS b hl ht)) (fun b hl ht => hF b (h.apE b hl ht)) hP
  exact ⟨belowChg h.bel hc fun q hq => hF q ⟨by have := h.old; omega, fun e => by have := (h.row.lt e).1; omega⟩, h.rd.over K.size K.gm, fun d => K.top hP h.rd (h.top d), hstk, hbx, hrow, hne, h.old, hsz⟩
/-- At the start: the copy alone waits. -/
theorem CtM.start {n : Nat} (hn : l.length = n) (hs : Tr.szL l ≤ 4000000) (hb : Below w.heap.size w X) (hr : RdE 9 (GM w.heap.size dx D) X A1 c1 l) (hf : FreshRow X w.heap.size A1 (n * 9) 54) :
    CtM dx D w ((X.alloc (.cells #[.slice A1 n c1] 42)).alloc (.cells #[.slice (some ⟨X.heap.size, 0, none⟩) 1 1] 162)) A1 c1 l (X.heap.size + 1) (Pend [⟨A1, n, c1⟩]) [⟨A1, n, c1⟩] [l] (.slice (some ⟨X.heap.size, 0, none⟩) 1 1) := by
  have b2 : Below X.heap.size X ((X.alloc (.cells #[.slice A1 n c1] 42)).alloc (.cells #[.slice (some ⟨X.heap.size, 0, none⟩) 1 1] 162)) := belowThen (belowAlloc _ _) (belowAlloc _ _)
  refine ⟨belowThen hb b2, hr.below (stabGM _ dx D) b2, fun d => RowN.wait hn.symm fun h0 => ?_, ⟨hn.symm, hr.below (stabGM _ dx D) b2, hf.below b2, trivial⟩, Blk.new1 X _ _ _, ⟨rfl, .inr ⟨X.heap.size, 1, _, rfl, hb.size, ((belowAlloc _ _).block X.heap.size (by simp)).trans (heap_alloc_new X _), Nat.le_refl _, by unfold maxLen; omega, rfl, rfl⟩⟩, ?_, by have := hb.size; omega, by simp only [Tr.wt1]; omega⟩
  · obtain ⟨g, cur, e, h1, h2, h3⟩ := (hf.below b2) (by omega)
    exact ⟨g, cur, e, h1, h2, h3, ⟨_, List.mem_cons_self, e, rfl⟩⟩
  · intro h
    injection h with h
    simp at h
/-- A row is done: it waits no longer. -/
theorem RowN.doneM {B g0 n0 c c0 D0 d : Nat} {S S' : Nat → Nat → Prop} {A : Option Addr} {ts a : List Sm} (hS : ∀ g n, S g n → (g = g0 ∧ n = n0) ∨ S' g n) (hn : a.length = n0) (ha : RdE 9 (GM B dx D0) w (some ⟨g0, 0, none⟩) c0 a) (hd : DoneM B w S' g0 a n0) (hr : RdE 9 (GM B dx D) w A c ts) (h : RowN B 54 9 S (NM B S d) w A ts) : RowN B 54 9 S' (NM B S' d) w A ts := by
  refine h.over (fun _ cur _ hc => ⟨cur, hc, rfl⟩) (fun g eA h => ?_) fun g cur eA hg j hj h => ?_
  · rcases hS _ _ h with ⟨rfl, en⟩ | h
    · refine .inr fun j hj => ?_
      have ets : ts = a := (eA ▸ hr).uniq ha (by omega) fun _ _ _ _ hx hy => EM.uniq hx.to hy.to
      subst ets
      cases d with
      | zero => trivial
      | succ d1 =>
        obtain ⟨k6, k78⟩ := hd j (by omega)
        obtain ⟨b9, o9, e9, _, hx⟩ := ha.one hj
        injection e9 with e9
        injection e9 with p1 p2 _
        subst p1 p2
        cases D0 with
        | zero => exact hx.elim
        | succ D1 =>
          obtain ⟨_, _, _, _, _, _, _, _, ⟨u7, y7, A9, c9, e9, _⟩, u8, y8, A10, c10, e10, _⟩ := hx
          subst e9 e10
          rw [Nat.zero_add] at y7 y8
          obtain ⟨A3, m, c3, k1, k2⟩ := k78 7 (.inl rfl)
          obtain ⟨A4, m4, c4, k3, k4⟩ := k78 8 (.inr rfl)
          rw [k1] at y7
          injection y7 with y7
          injection y7 with _ y7 _
          rw [k3] at y8
          injection y8 with y8
          injection y8 with _ y8 _
          exact ⟨k6 hj, ⟨A3, c3, by rw [← y7]; exact k1, RowN.wait y7 k2⟩, A4, c4, by rw [← y8]; exact k3, RowN.wait y8 k4⟩
    · exact .inl h
  · obtain ⟨b9, o9, e9, _, hx⟩ := hr.one hj
    rw [eA] at e9
    injection e9 with e9
    injection e9 with p1 p2 _
    subst p1 p2
    rw [Nat.zero_add] at hx
    exact NM.done hS hn ha hd hx h
theorem CtM.finish {g0 n0 c0 : Nat} {a : List Sm} (h : CtM dx D w X A1 c1 l z (PendW g0 n0 L) L S v) (hn : a.length = n0) (ha : n0 = 0 ∨ RdE 9 (GM w.heap.size dx D) X (some ⟨g0, 0, none⟩) c0 a) (hd : DoneM w.heap.size X (Pend L) g0 a n0) : CtM dx D w X A1 c1 l z (Pend L) L S v := by
  refine ⟨h.bel, h.rd, fun d => ?_, h.stk, h.box, h.row, h.ne, h.old, h.sz⟩
  have ha' : RdE 9 (GM w.heap.size dx D) X (some ⟨g0, 0, none⟩) c0 a ∨ a = [] := ha.elim (fun e => .inr (List.eq_nil_of_length_eq_zero (by omega))) .inl
  rcases ha' with ha | rfl
  · exact RowN.doneM (fun _ _ h => h) hn ha hd h.rd (h.top d)
  · have h0 : n0 = 0 := hn.symm
    exact RowN.doneM (c0 := 0) (a := []) (D0 := 0) (fun _ _ h => h) hn ⟨Nat.zero_le _, Nat.zero_le _, fun h => absurd h (by simp)⟩ (fun j hj => absurd hj (by omega)) h.rd (h.top d)
end
section
variable {dx D : Nat} {w X X1 : World} {A1 : Option Addr} {c1 : Nat} {l : List Sm} {z : Nat} {P P' : Nat → Nat → Prop} {L : List SlA} {S : List (List Sm)} {v : Value} {g0 i n c c' : Nat} {A A' : Option Addr} {cur0 : Array Value}
/-- A list's cell in a new row of statements is replaced. -/
theorem CtM.putCell (h : CtM dx D w X A1 c1 l z P L S v) (hg0 : w.heap.size ≤ g0) (hcur : X.heap[g0]? = some (.cells cur0 54 (0, 0))) (hb : Below X.heap.size X X1) (hp : X.cell? ⟨g0, i, none⟩ = some (.slice A n c))
    (H7 : ∀ d l, SlE 9 (GM w.heap.size dx d) X1 (.slice A n c) l → SlE 9 (GM w.heap.size dx d) X1 (.slice A' n c') l) (H6 : ∀ l, SlE 5 (GX w.heap.size dx) X1 (.slice A n c) l → SlE 5 (GX w.heap.size dx) X1 (.slice A' n c') l)
    (W7 : ∀ d l, 0 < n → SlE 9 (GM w.heap.size dx d) X1 (.slice A n c) l → ∃ g cur, A' = some ⟨g, 0, none⟩ ∧ w.heap.size ≤ g ∧ X1.heap[g]? = some (.cells cur 54 (0, 0)) ∧ n * 9 ≤ cur.size ∧ P' g n)
    (W6 : ∀ es, SlE 5 (GX w.heap.size dx) X1 (.slice A n c) es → AllX w.heap.size X1 (.slice A' n c') es) (hP : ∀ g n, P g n → P' g n) :
    KpM w.heap.size dx D P P' X (X1.setCell ⟨g0, i, none⟩ (.slice A' n c')) ∧ CtM dx D w (X1.setCell ⟨g0, i, none⟩ (.slice A' n c')) A1 c1 l z P' L S v ∧ (∃ cur', (X1.setCell ⟨g0, i, none⟩ (.slice A' n c')).heap[g0]? = some (.cells cur' 54 (0, 0)) ∧ cur'.size = cur0.size) ∧ (X1.setCell ⟨g0, i, none⟩ (.slice A' n c')).cell? ⟨g0, i, none⟩ = some (.slice A' n c') ∧ (∀ q u, q ≠ i → X.cell? ⟨g0, q, none⟩ = some u → (X1.setCell ⟨g0, i, none⟩ (.slice A' n c')).cell? ⟨g0, q, none⟩ = some u) ∧ Chg X (X1.setCell ⟨g0, i, none⟩ (.slice A' n c')) (fun q => q ≠ g0) := by
  have hg0l : g0 < X.heap.size := (Array.getElem?_eq_some_iff.1 hcur).1
  have hpX1 : X1.cell? ⟨g0, i, none⟩ = some (.slice A n c) := (hb.cell hg0l).trans hp
  have hcurX1 := (hb.block g0 hg0l).trans hcur
  have hgE : ∀ b, Ty w.heap.size 37 X1 b → b ≠ g0 := fun b ht e => by
    subst e
    rcases ht with ht | ⟨cur, ht⟩
    · omega
    · rw [hcurX1] at ht
      injection ht with ht
      injection ht with _ ht _
      exact absurd ht (by decide)
  have K1 : KpM w.heap.size dx D P P' X X1 := KpM.ofBelow hb hP
  have K : KpM w.heap.size dx D P P' X (X1.setCell ⟨g0, i, none⟩ (.slice A' n c')) :=
    ⟨by simpa using hb.size, fun b o t hl q => (K1.gm b o t hl q).put hpX1 hgE H7 H6, fun d b o t hl ht q r => NM.put hpX1 hgE W7 W6 (K1.gm b o t hl q) (K1.nm d b o t hl ht q r), freshPut hb⟩
  have hc : Chg X (X1.setCell ⟨g0, i, none⟩ (.slice A' n c')) (fun q => q ≠ g0) := (Chg.ofBelow hb _).trans (chgSet16 _ _ _ _) fun _ _ h => h
  have hz := h.apS g0 hg0l (.inr ⟨cur0, hcur⟩)
  refine ⟨K, ⟨belowChg h.bel hc fun q hq => by show q ≠ g0; omega, h.rd.over K.size K.gm, fun d => K.top hP h.rd (h.top d), h.stk.over K.size K.gm K.fr, (hc.block z h.box.lt (fun e => hz.1 e.symm)).trans h.box, h.row.chg hc fun g hg e => hz.2 (e ▸ hg), h.ne, h.old, h.sz⟩, heapSet _ hcurX1, World.cell?_setCell_same _ _ _ hpX1, fun q u hq hu => ?_, hc⟩
  rw [World.cell?_setCell_other _ _ _ _ fun e => hq (by injection e with _ e _; exact e.symm)]
  exact (hb.cell hg0l).trans hu
end
end Go.Proofs.YtiaendggmamnkaaGreatDoor
