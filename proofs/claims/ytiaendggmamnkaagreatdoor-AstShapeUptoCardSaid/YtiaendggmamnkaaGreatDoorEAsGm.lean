/-
  Copies of trees of statements: readings whose rows lie in old memory or in rows of statements and expressions; what is new of them.
-/
import Derived.Test.YtiaendggmamnkaaGreatDoorECt
namespace Go.Proofs.YtiaendggmamnkaaGreatDoor
open Go Go.RowKit

/-- A statement to depth d (its expressions to depth dx) whose rows lie in old memory or in rows of statements and of expressions. -/
def GM (B dx : Nat) : Nat → World → Nat → Nat → Sm → Prop
  | 0 => fun _ _ _ _ => False
  | d + 1 => fun w b o t => Ty B 54 w b ∧ w.cell? ⟨b, o, none⟩ = some (.int .i64 t.val.kind) ∧ w.cell? ⟨b, o + 1, none⟩ = some (.string t.val.name) ∧ w.cell? ⟨b, o + 2, none⟩ = some (.string t.val.obj) ∧ w.cell? ⟨b, o + 3, none⟩ = some (.string t.val.other) ∧
      w.cell? ⟨b, o + 4, none⟩ = some (.int .i64 t.val.fn) ∧ w.cell? ⟨b, o + 5, none⟩ = some (.int .i64 t.val.ord) ∧
      (∃ v, w.cell? ⟨b, o + 6, none⟩ = some v ∧ SlE 5 (GX B dx) w v t.val.exprs) ∧ (∃ v, w.cell? ⟨b, o + 7, none⟩ = some v ∧ SlE 9 (GM B dx d) w v t.fst) ∧ ∃ v, w.cell? ⟨b, o + 8, none⟩ = some v ∧ SlE 9 (GM B dx d) w v t.snd
theorem stabGM (B dx : Nat) : ∀ d, StabE (GM B dx d)
  | 0 => fun _ _ _ _ _ _ _ h => h
  | d + 1 => fun _ _ _ _ _ hl hb ⟨hg, h0, h1, h2, h3, h4, h5, ⟨v6, h6, r6⟩, ⟨v7, h7, r7⟩, v8, h8, r8⟩ =>
    ⟨hg.below hl hb, (hb.cell hl).trans h0, (hb.cell hl).trans h1, (hb.cell hl).trans h2, (hb.cell hl).trans h3, (hb.cell hl).trans h4, (hb.cell hl).trans h5, ⟨v6, (hb.cell hl).trans h6, r6.below (stabGX B dx) hb⟩, ⟨v7, (hb.cell hl).trans h7, r7.below (stabGM B dx d) hb⟩, v8, (hb.cell hl).trans h8, r8.below (stabGM B dx d) hb⟩
theorem GM.to {B dx : Nat} : ∀ {d : Nat} {w : World} {b o : Nat} {t : Sm}, GM B dx d w b o t → EM dx d w b o t
  | 0, _, _, _, _, h => h.elim
  | _ + 1, _, _, _, _, ⟨_, h0, h1, h2, h3, h4, h5, ⟨v6, h6, r6⟩, ⟨v7, h7, r7⟩, v8, h8, r8⟩ => ⟨h0, h1, h2, h3, h4, h5, ⟨v6, h6, r6.mono fun _ _ _ h => h.to⟩, ⟨v7, h7, r7.mono fun _ _ _ h => h.to⟩, v8, h8, r8.mono fun _ _ _ h => h.to⟩
theorem EM.guard {dx : Nat} : ∀ {d : Nat} {w : World} {b o : Nat} {t : Sm}, b < w.heap.size → EM dx d w b o t → GM w.heap.size dx d w b o t
  | 0, _, _, _, _, _, h => h.elim
  | _ + 1, _, _, _, _, hb, ⟨h0, h1, h2, h3, h4, h5, ⟨v6, h6, r6⟩, ⟨v7, h7, r7⟩, v8, h8, r8⟩ =>
    ⟨.inl hb, h0, h1, h2, h3, h4, h5, ⟨v6, h6, r6.over (Nat.le_refl _) fun _ _ _ hl h => h.guard hl⟩, ⟨v7, h7, r7.over (Nat.le_refl _) fun _ _ _ hl h => h.guard hl⟩, v8, h8, r8.over (Nat.le_refl _) fun _ _ _ hl h => h.guard hl⟩
theorem GM.chg {B dx : Nat} {F : Nat → Prop} {w w' : World} (hc : Chg w w' F) (hF : ∀ b, b < w.heap.size → Ty B 54 w b → F b) (hX : ∀ b, b < w.heap.size → Ty B 37 w b → F b) : ∀ {d : Nat} {b o : Nat} {t : Sm}, b < w.heap.size → GM B dx d w b o t → GM B dx d w' b o t
  | 0, _, _, _, _, h => h.elim
  | _ + 1, b, o, _, hl, ⟨hg, h0, h1, h2, h3, h4, h5, ⟨v6, h6, r6⟩, ⟨v7, h7, r7⟩, v8, h8, r8⟩ => by
    have e := hc.block b hl (hF b hl hg)
    have ec : ∀ i, w'.cell? ⟨b, i, none⟩ = w.cell? ⟨b, i, none⟩ := fun i => World.cell?_of_block e
    exact ⟨hg.blk e, (ec _).trans h0, (ec _).trans h1, (ec _).trans h2, (ec _).trans h3, (ec _).trans h4, (ec _).trans h5, ⟨v6, (ec _).trans h6, r6.over hc.size fun _ _ _ hl h => h.chg hc hX hl⟩, ⟨v7, (ec _).trans h7, r7.over hc.size fun _ _ _ hl h => h.chg hc hF hX hl⟩, v8, (ec _).trans h8, r8.over hc.size fun _ _ _ hl h => h.chg hc hF hX hl⟩
/-- A list's cell in a row of statements is replaced by one that reads alike, as statements and as expressions. -/
theorem GM.put {B dx g i n c : Nat} {A : Option Addr} {w : World} {v' : Value} (hp : w.cell? ⟨g, i, none⟩ = some (.slice A n c)) (hg : ∀ b, Ty B 37 w b → b ≠ g) (H7 : ∀ d l, SlE 9 (GM B dx d) w (.slice A n c) l → SlE 9 (GM B dx d) w v' l) (H6 : ∀ l, SlE 5 (GX B dx) w (.slice A n c) l → SlE 5 (GX B dx) w v' l) :
    ∀ {d : Nat} {b o : Nat} {t : Sm}, GM B dx d w b o t → GM B dx d (w.setCell ⟨g, i, none⟩ v') b o t
  | 0, _, _, _, h => h.elim
  | d + 1, b, o, t, ⟨hty, h0, h1, h2, h3, h4, h5, ⟨v6, h6, r6⟩, ⟨v7, h7, r7⟩, v8, h8, r8⟩ => by
    have hsz : w.heap.size ≤ (w.setCell ⟨g, i, none⟩ v').heap.size := by simp
    have hch : Chg w (w.setCell ⟨g, i, none⟩ v') (fun q => q ≠ g) := chgSet16 _ _ _ _
    have K : ∀ u l, SlE 9 (GM B dx d) w u l → SlE 9 (GM B dx d) (w.setCell ⟨g, i, none⟩ v') u l := fun u l hu => hu.over hsz fun _ _ _ _ h => h.put hp hg H7 H6
    have K6 : ∀ u l, SlE 5 (GX B dx) w u l → SlE 5 (GX B dx) (w.setCell ⟨g, i, none⟩ v') u l := fun u l hu => hu.over hsz fun _ _ _ hl h => h.chg hch (fun b _ hb => hg b hb) hl
    have P : ∀ (k : Nat) (v : Value), w.cell? ⟨b, o + k, none⟩ = some v → ((⟨g, i, none⟩ : Addr) = ⟨b, o + k, none⟩ ∧ v = .slice A n c ∧ (w.setCell ⟨g, i, none⟩ v').cell? ⟨b, o + k, none⟩ = some v') ∨ (w.setCell ⟨g, i, none⟩ v').cell? ⟨b, o + k, none⟩ = some v := fun k v hk => by
      by_cases e : (⟨g, i, none⟩ : Addr) = ⟨b, o + k, none⟩
      · refine .inl ⟨e, ?_, ?_⟩
        · have hp' := hp
          rw [e, hk] at hp'
          injection hp'
        · rw [← e]
          exact World.cell?_setCell_same _ _ _ hp
      · exact .inr ((World.cell?_setCell_other _ _ _ _ e).trans hk)
    refine ⟨hty.set v', cellSet v' hp h0 (by simp), cellSet v' hp h1 (by simp), cellSet v' hp h2 (by simp), cellSet v' hp h3 (by simp), cellSet v' hp h4 (by simp), cellSet v' hp h5 (by simp), ?_, ?_, ?_⟩
    · rcases P 6 v6 h6 with ⟨_, rfl, hk⟩ | hk
      · exact ⟨v', hk, K6 _ _ (H6 _ r6)⟩
      · exact ⟨v6, hk, K6 _ _ r6⟩
    · rcases P 7 v7 h7 with ⟨_, rfl, hk⟩ | hk
      · exact ⟨v', hk, K _ _ (H7 _ _ r7)⟩
      · exact ⟨v7, hk, K _ _ r7⟩
    · rcases P 8 v8 h8 with ⟨_, rfl, hk⟩ | hk
      · exact ⟨v', hk, K _ _ (H7 _ _ r8)⟩
      · exact ⟨v8, hk, K _ _ r8⟩
/-- What reads as statements does not read as expressions, but for nothing. -/
theorem notBoth {dx dx' d n c : Nat} {w : World} {A : Option Addr} {l : List Sm} {k : List Ex} (h : SlE 9 (EM dx d) w (.slice A n c) l) (h' : SlE 5 (EX dx') w (.slice A n c) k) : n = 0 := by
  obtain ⟨A1, c1, e1, r1⟩ := h
  obtain ⟨A2, c2, e2, r2⟩ := h'
  injection e1 with a1 a2 a3
  injection e2 with b1 b2 b3
  subst a1 b1
  rcases Nat.eq_zero_or_pos n with h0 | h0
  · exact h0
  · obtain ⟨b, o, eA, _, x1⟩ := r1.one (j := 0) (by omega)
    obtain ⟨b', o', eA', _, x2⟩ := r2.one (j := 0) (by omega)
    rw [eA] at eA'
    injection eA' with eA'
    injection eA' with p1 p2 _
    subst p1 p2
    cases d with
    | zero => exact x1.elim
    | succ d =>
      cases dx' with
      | zero => exact x2.elim
      | succ dx' =>
        have y1 := x1.2.1
        have y2 := x2.2.1
        rw [y1] at y2
        injection y2 with y2
        cases y2
theorem GM.copy {B dx : Nat} {d : Nat} {w w' : World} {b o b' o' : Nat} {t : Sm} (h : GM B dx d w b o t) (hc : ∀ i, i < 9 → w'.cell? ⟨b', o' + i, none⟩ = w.cell? ⟨b, o + i, none⟩) (ht : Ty B 54 w' b') (hb : Below w.heap.size w w') : GM B dx d w' b' o' t := by
  cases d with
  | zero => exact h.elim
  | succ d =>
    obtain ⟨_, h0, h1, h2, h3, h4, h5, ⟨v6, h6, r6⟩, ⟨v7, h7, r7⟩, v8, h8, r8⟩ := h
    exact ⟨ht, (hc 0 (by omega)).trans h0, (hc 1 (by omega)).trans h1, (hc 2 (by omega)).trans h2, (hc 3 (by omega)).trans h3, (hc 4 (by omega)).trans h4, (hc 5 (by omega)).trans h5, ⟨v6, (hc 6 (by omega)).trans h6, r6.below (stabGX B dx) hb⟩, ⟨v7, (hc 7 (by omega)).trans h7, r7.below (stabGM B dx d) hb⟩, v8, (hc 8 (by omega)).trans h8, r8.below (stabGM B dx d) hb⟩
theorem GM.row {B dx n : Nat} {w w' : World} {A A' : Option Addr} {c c' : Nat} {L : List (List Value)} (hL : L.length = n) (h : RdE 9 (Raw 9) w A c L) (h' : RdE 9 (Raw 9) w' A' c' L) (hf : FreshRow w' B A' (n * 9) 54) (hb : Below w.heap.size w w') : ∀ d l, SlE 9 (GM B dx d) w (.slice A n c) l → SlE 9 (GM B dx d) w' (.slice A' n c') l := by
  intro d l ⟨A1, c1, e, hr⟩
  injection e with e1 e2 e3
  subst e1
  refine ⟨A', c', by rw [e2], by rw [← e2, ← hL]; exact h'.le, h'.max, fun hn => ?_⟩
  obtain ⟨g, cur, eg, _, hh, _⟩ := hf (by omega)
  obtain ⟨b, o, eA, _, hx⟩ := hr.at_ hn
  refine ⟨g, 0, eg, (Array.getElem?_eq_some_iff.1 hh).1, fun j hj => ?_⟩
  exact (hx j hj).copy (rawSame h h' eA eg (by omega)) (.inr ⟨cur, hh⟩) hb
/-- A statement's expressions lie in new rows, all of them. -/
def AllX (B : Nat) (w : World) (v : Value) (es : List Ex) : Prop := ∃ A c, v = .slice A es.length c ∧ ∀ d, RowN B 37 5 (fun _ _ => False) (NX B (fun _ _ => False) d) w A es
/-- All rows inside a statement are new, but for what lies inside those that wait in S. -/
def NM (B : Nat) (S : Nat → Nat → Prop) : Nat → World → Nat → Nat → Sm → Prop
  | 0 => fun _ _ _ _ => True
  | d + 1 => fun w b o t => (∃ v, w.cell? ⟨b, o + 6, none⟩ = some v ∧ AllX B w v t.val.exprs) ∧ (∃ A c, w.cell? ⟨b, o + 7, none⟩ = some (.slice A t.fst.length c) ∧ RowN B 54 9 S (NM B S d) w A t.fst) ∧ ∃ A c, w.cell? ⟨b, o + 8, none⟩ = some (.slice A t.snd.length c) ∧ RowN B 54 9 S (NM B S d) w A t.snd
theorem NM.mono {B : Nat} {S S' : Nat → Nat → Prop} (hS : ∀ g n, S g n → S' g n) {w : World} : ∀ {d : Nat} {b o : Nat} {t : Sm}, NM B S d w b o t → NM B S' d w b o t
  | 0, _, _, _, _ => trivial
  | _ + 1, _, _, _, ⟨h6, ⟨A, c, h1, h2⟩, A8, c8, k1, k2⟩ => ⟨h6, ⟨A, c, h1, h2.over (fun _ cur _ hc => ⟨cur, hc, rfl⟩) (fun _ _ h => .inl (hS _ _ h)) fun _ _ _ _ _ _ h => h.mono hS⟩, A8, c8, k1, k2.over (fun _ cur _ hc => ⟨cur, hc, rfl⟩) (fun _ _ h => .inl (hS _ _ h)) fun _ _ _ _ _ _ h => h.mono hS⟩
theorem AllX.chg {B : Nat} {F : Nat → Prop} {w w' : World} (hc : Chg w w' F) (hX : ∀ b, b < w.heap.size → Ty B 37 w b → F b) {v : Value} {es : List Ex} (h : AllX B w v es) : AllX B w' v es := by
  obtain ⟨A, c, e, h⟩ := h
  refine ⟨A, c, e, fun d => (h d).over (fun g cur _ hg => ?_) (fun _ _ h => .inl h) fun g cur _ hg j hj h => ?_⟩
  · have hgl := (Array.getElem?_eq_some_iff.1 hg).1
    exact ⟨cur, (hc.block g hgl (hX g hgl (.inr ⟨cur, hg⟩))).trans hg, rfl⟩
  · have hgl := (Array.getElem?_eq_some_iff.1 hg).1
    exact h.chg hc hX hgl (.inr ⟨cur, hg⟩)
theorem NM.chg {B : Nat} {S : Nat → Nat → Prop} {F : Nat → Prop} {w w' : World} (hc : Chg w w' F) (hF : ∀ b, b < w.heap.size → Ty B 54 w b → F b) (hX : ∀ b, b < w.heap.size → Ty B 37 w b → F b) : ∀ {d : Nat} {b o : Nat} {t : Sm}, b < w.heap.size → Ty B 54 w b → NM B S d w b o t → NM B S d w' b o t
  | 0, _, _, _, _, _, _ => trivial
  | d + 1, b, o, t, hl, ht, ⟨⟨v6, h6, r6⟩, ⟨A, c, h1, h2⟩, A8, c8, k1, k2⟩ => by
    have ec : ∀ i, w'.cell? ⟨b, i, none⟩ = w.cell? ⟨b, i, none⟩ := fun i => World.cell?_of_block (hc.block b hl (hF b hl ht))
    have R : ∀ (A : Option Addr) (ts : List Sm), RowN B 54 9 S (NM B S d) w A ts → RowN B 54 9 S (NM B S d) w' A ts := fun A ts h => h.over (fun g cur _ hg => by
        have hgl := (Array.getElem?_eq_some_iff.1 hg).1
        exact ⟨cur, (hc.block g hgl (hF g hgl (.inr ⟨cur, hg⟩))).trans hg, rfl⟩) (fun _ _ h => .inl h) fun g cur _ hg j hj h => by
      have hgl := (Array.getElem?_eq_some_iff.1 hg).1
      exact h.chg hc hF hX hgl (.inr ⟨cur, hg⟩)
    exact ⟨⟨v6, (ec _).trans h6, r6.chg hc hX⟩, ⟨A, c, (ec _).trans h1, R _ _ h2⟩, A8, c8, (ec _).trans k1, R _ _ k2⟩
theorem nilAllX {B : Nat} {w : World} {A : Option Addr} {c : Nat} {es : List Ex} (h : es.length = 0) : AllX B w (.slice A 0 c) es := ⟨A, c, by rw [h], fun _ h0 => absurd h0 (by omega)⟩
/-- A list's cell in a row of statements is replaced: by a new row of statements that waits, or by a new row of expressions. -/
theorem NM.put {B dx g i n c c1 : Nat} {A A1 : Option Addr} {S : Nat → Nat → Prop} {w : World} (hp : w.cell? ⟨g, i, none⟩ = some (.slice A n c)) (hg : ∀ b, Ty B 37 w b → b ≠ g)
    (W7 : ∀ d l, 0 < n → SlE 9 (GM B dx d) w (.slice A n c) l → ∃ g cur, A1 = some ⟨g, 0, none⟩ ∧ B ≤ g ∧ w.heap[g]? = some (.cells cur 54 (0, 0)) ∧ n * 9 ≤ cur.size ∧ S g n)
    (W6 : ∀ es, SlE 5 (GX B dx) w (.slice A n c) es → AllX B w (.slice A1 n c1) es) :
    ∀ {d d' : Nat} {b o : Nat} {t : Sm}, GM B dx d' w b o t → NM B S d w b o t → NM B S d (w.setCell ⟨g, i, none⟩ (.slice A1 n c1)) b o t
  | 0, _, _, _, _, _, _ => trivial
  | d + 1, 0, b, o, t, h, _ => h.elim
  | d + 1, d' + 1, b, o, t, ⟨_, _, _, _, _, _, _, ⟨u6, y6, z6⟩, ⟨u7, y7, z7⟩, u8, y8, z8⟩, ⟨⟨v6, h6, r6⟩, ⟨A7, c7, h7, r7⟩, A8, c8, h8, r8⟩ => by
    have hch : Chg w (w.setCell ⟨g, i, none⟩ (.slice A1 n c1)) (fun q => q ≠ g) := chgSet16 _ _ _ _
    have hX : ∀ v es, AllX B w v es → AllX B (w.setCell ⟨g, i, none⟩ (.slice A1 n c1)) v es := fun v es h => h.chg hch fun b _ hb => hg b hb
    rw [h6] at y6
    injection y6 with y6
    subst y6
    rw [h7] at y7
    injection y7 with y7
    subst y7
    rw [h8] at y8
    injection y8 with y8
    subst y8
    have R : ∀ (A : Option Addr) (m c : Nat) (ts : List Sm), m = ts.length → SlE 9 (GM B dx d') w (.slice A m c) ts → RowN B 54 9 S (NM B S d) w A ts → RowN B 54 9 S (NM B S d) (w.setCell ⟨g, i, none⟩ (.slice A1 n c1)) A ts := fun A m c ts hm ⟨Ar, cr, er, hr⟩ h => h.over (fun g cur _ hg => heapSet _ hg) (fun _ _ h => .inl h) fun g2 cur eA hg2 j hj h => by
      injection er with e1 _ _
      subst e1
      obtain ⟨b9, o9, e9, _, hx⟩ := hr.one hj
      rw [eA] at e9
      injection e9 with e9
      injection e9 with p1 p2 _
      subst p1 p2
      rw [Nat.zero_add] at hx
      exact h.put hp hg W7 W6 hx
    have P : ∀ (k : Nat) (v : Value), w.cell? ⟨b, o + k, none⟩ = some v → (v = .slice A n c ∧ (w.setCell ⟨g, i, none⟩ (.slice A1 n c1)).cell? ⟨b, o + k, none⟩ = some (.slice A1 n c1)) ∨ (w.setCell ⟨g, i, none⟩ (.slice A1 n c1)).cell? ⟨b, o + k, none⟩ = some v := fun k v hk => by
      by_cases e : (⟨g, i, none⟩ : Addr) = ⟨b, o + k, none⟩
      · refine .inl ⟨?_, ?_⟩
        · have hp' := hp
          rw [e, hk] at hp'
          injection hp'
        · rw [← e]
          exact World.cell?_setCell_same _ _ _ hp
      · exact .inr ((World.cell?_setCell_other _ _ _ _ e).trans hk)
    have Q : ∀ (k : Nat) (Ak : Option Addr) (ck : Nat) (ts : List Sm), w.cell? ⟨b, o + k, none⟩ = some (.slice Ak ts.length ck) → SlE 9 (GM B dx d') w (.slice Ak ts.length ck) ts → RowN B 54 9 S (NM B S d) w Ak ts → ∃ A c, (w.setCell ⟨g, i, none⟩ (.slice A1 n c1)).cell? ⟨b, o + k, none⟩ = some (.slice A ts.length c) ∧ RowN B 54 9 S (NM B S d) (w.setCell ⟨g, i, none⟩ (.slice A1 n c1)) A ts := fun k Ak ck ts hk hs hr => by
      rcases P k _ hk with ⟨e, hk2⟩ | hk2
      · rw [e] at hs
        injection e with _ e2 _
        refine ⟨A1, c1, by rw [e2]; exact hk2, RowN.wait e2.symm fun h0 => ?_⟩
        obtain ⟨g1, cur, q1, q2, q3, q4, q5⟩ := W7 _ _ h0 hs
        obtain ⟨cur', s1, s2⟩ := heapSet (g := g) (i := i) (.slice A1 n c1) q3
        exact ⟨g1, cur', q1, q2, s1, by omega, q5⟩
      · exact ⟨Ak, ck, hk2, R _ _ _ _ rfl hs hr⟩
    refine ⟨?_, Q 7 A7 c7 _ h7 z7 r7, Q 8 A8 c8 _ h8 z8 r8⟩
    rcases P 6 _ h6 with ⟨e, hk⟩ | hk
    · subst e
      exact ⟨_, hk, hX _ _ (W6 _ z6)⟩
    · exact ⟨_, hk, hX _ _ r6⟩
/-- The lists in the first k elements of row g0 are new: the expressions', and the blocks, which wait in S. -/
def DoneM (B : Nat) (X : World) (S : Nat → Nat → Prop) (g0 : Nat) (a : List Sm) (k : Nat) : Prop := ∀ j, j < k → (∀ (hj : j < a.length), ∃ v, X.cell? ⟨g0, j * 9 + 6, none⟩ = some v ∧ AllX B X v a[j].val.exprs) ∧ ∀ q, q = 7 ∨ q = 8 → ∃ A m c, X.cell? ⟨g0, j * 9 + q, none⟩ = some (.slice A m c) ∧ (0 < m → ∃ g cur, A = some ⟨g, 0, none⟩ ∧ B ≤ g ∧ X.heap[g]? = some (.cells cur 54 (0, 0)) ∧ m * 9 ≤ cur.size ∧ S g m)
theorem EM.uniq {dx dx' : Nat} {w : World} : ∀ {d d' : Nat} {b o : Nat} {t u : Sm}, EM dx d w b o t → EM dx' d' w b o u → t = u
  | 0, _, _, _, _, _, h, _ => h.elim
  | _, 0, _, _, _, _, _, h => h.elim
  | d + 1, d' + 1, b, o, t, u, ⟨h0, h1, h2, h3, h4, h5, ⟨v6, h6, r6⟩, ⟨v7, h7, r7⟩, v8, h8, r8⟩, ⟨k0, k1, k2, k3, k4, k5, ⟨u6, k6, s6⟩, ⟨u7, k7, s7⟩, u8, k8, s8⟩ => by
    rw [h0] at k0
    rw [h1] at k1
    rw [h2] at k2
    rw [h3] at k3
    rw [h4] at k4
    rw [h5] at k5
    rw [h6] at k6
    rw [h7] at k7
    rw [h8] at k8
    injection k0 with k0
    injection k0 with _ k0
    injection k1 with k1
    injection k1 with k1
    injection k2 with k2
    injection k2 with k2
    injection k3 with k3
    injection k3 with k3
    injection k4 with k4
    injection k4 with _ k4
    injection k5 with k5
    injection k5 with _ k5
    injection k6 with k6
    injection k7 with k7
    injection k8 with k8
    subst k6 k7 k8
    have e6 := r6.uniq s6 fun _ _ _ _ hx hy => EX.uniq hx hy
    have e7 := r7.uniq s7 fun _ _ _ _ hx hy => EM.uniq hx hy
    have e8 := r8.uniq s8 fun _ _ _ _ hx hy => EM.uniq hx hy
    obtain ⟨⟨a0, a1, a2, a3, a4, a5, a6⟩, a7, a8⟩ := t
    obtain ⟨⟨b0, b1, b2, b3, b4, b5, b6⟩, b7, b8⟩ := u
    simp only [Tr.val, Tr.fst, Tr.snd] at k0 k1 k2 k3 k4 k5 e6 e7 e8
    subst k0 k1 k2 k3 k4 k5 e6 e7 e8
    rfl
/-- A row that waited is done. -/
theorem NM.done {B dx D0 g0 n0 c0 : Nat} {a : List Sm} {S S' : Nat → Nat → Prop} {w : World} (hS : ∀ g n, S g n → (g = g0 ∧ n = n0) ∨ S' g n) (hn : a.length = n0) (ha : RdE 9 (GM B dx D0) w (some ⟨g0, 0, none⟩) c0 a) (hd : DoneM B w S' g0 a n0) :
    ∀ {d d' : Nat} {b o : Nat} {t : Sm}, GM B dx d' w b o t → NM B S d w b o t → NM B S' d w b o t
  | 0, _, _, _, _, _, _ => trivial
  | d + 1, 0, b, o, t, h, _ => h.elim
  | d + 1, d' + 1, b, o, t, ⟨_, _, _, _, _, _, _, _, ⟨u7, y7, z7⟩, u8, y8, z8⟩, ⟨h6, ⟨A7, c7, h7, r7⟩, A8, c8, h8, r8⟩ => by
    rw [h7] at y7
    injection y7 with y7
    subst y7
    rw [h8] at y8
    injection y8 with y8
    subst y8
    have R : ∀ (A : Option Addr) (m c : Nat) (ts : List Sm), m = ts.length → SlE 9 (GM B dx d') w (.slice A m c) ts → RowN B 54 9 S (NM B S d) w A ts → RowN B 54 9 S' (NM B S' d) w A ts := fun A m c ts hm ⟨Ar, cr, er, hr⟩ h => by
      injection er with e1 _ _
      subst e1
      refine h.over (fun _ cur _ hc => ⟨cur, hc, rfl⟩) (fun g eA h => ?_) fun g cur eA hg j hj h => ?_
      · rcases hS _ _ h with ⟨rfl, en⟩ | h
        · refine .inr fun j hj => ?_
          have ets : ts = a := (eA ▸ hr).uniq ha (by omega) fun _ _ _ _ hx hy => EM.uniq hx.to hy.to
          subst ets
          cases d with
          | zero => trivial
          | succ d1 =>
            obtain ⟨k6, k78⟩ := hd j (by omega)
            obtain ⟨b9, o9, e9, _, hx⟩ := ha.one hj
            injection e9 with e9
            injection e9 with p1 p2 _
            subst p1 p2
            cases D0 with
            | zero => exact hx.elim
            | succ D1 =>
              obtain ⟨_, _, _, _, _, _, _, _, ⟨u7, y7, A9, c9, e9, _⟩, u8, y8, A10, c10, e10, _⟩ := hx
              subst e9 e10
              rw [Nat.zero_add] at y7 y8
              obtain ⟨A3, m, c3, k1, k2⟩ := k78 7 (.inl rfl)
              obtain ⟨A4, m4, c4, k3, k4⟩ := k78 8 (.inr rfl)
              rw [k1] at y7
              injection y7 with y7
              injection y7 with _ y7 _
              rw [k3] at y8
              injection y8 with y8
              injection y8 with _ y8 _
              exact ⟨k6 hj, ⟨A3, c3, by rw [← y7]; exact k1, RowN.wait y7 k2⟩, A4, c4, by rw [← y8]; exact k3, RowN.wait y8 k4⟩
        · exact .inl h
      · obtain ⟨b9, o9, e9, _, hx⟩ := hr.one hj
        rw [eA] at e9
        injection e9 with e9
        injection e9 with p1 p2 _
        subst p1 p2
        rw [Nat.zero_add] at hx
        exact NM.done hS hn ha hd hx h
    exact ⟨h6, ⟨A7, c7, h7, R _ _ _ _ rfl z7 r7⟩, A8, c8, h8, R _ _ _ _ rfl z8 r8⟩
end Go.Proofs.YtiaendggmamnkaaGreatDoor
