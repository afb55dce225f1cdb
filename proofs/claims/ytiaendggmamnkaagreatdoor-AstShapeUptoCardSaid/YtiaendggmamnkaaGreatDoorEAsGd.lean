/-
  Copies of trees: readings whose rows lie in old memory or in rows of expressions; what is new of them.
-/
import Derived.Test.YtiaendggmamnkaaGreatDoorECc
import Derived.Test.YtiaendggmamnkaaGreatDoorEOp
namespace Go.Proofs.YtiaendggmamnkaaGreatDoor
open Go Go.RowKit

/-- Block b is older than B, or holds cells of type T. -/
def Ty (B : Nat) (T : TypeId) (w : World) (b : Nat) : Prop := b < B ∨ ∃ cur, w.heap[b]? = some (.cells cur T (0, 0))
section
variable {B : Nat} {T : TypeId} {w w' : World} {b g i : Nat}
theorem Ty.blk (h : Ty B T w b) (e : w'.heap[b]? = w.heap[b]?) : Ty B T w' b := h.imp id fun ⟨cur, hc⟩ => ⟨cur, e.trans hc⟩
theorem Ty.below (h : Ty B T w b) (hl : b < w.heap.size) (hb : Below w.heap.size w w') : Ty B T w' b := h.blk (hb.block b hl)
theorem heapSet (v : Value) {cur : Array Value} (h : w.heap[b]? = some (.cells cur T (0, 0))) : ∃ cur', (w.setCell ⟨g, i, none⟩ v).heap[b]? = some (.cells cur' T (0, 0)) ∧ cur'.size = cur.size := by
  by_cases e : b = g
  · subst e
    exact ⟨_, Joins.block_setCell h v, by simp⟩
  · exact ⟨cur, (heap_setCell_other w ⟨g, i, none⟩ b v e).trans h, rfl⟩
theorem Ty.set (h : Ty B T w b) (v : Value) : Ty B T (w.setCell ⟨g, i, none⟩ v) b := h.imp id fun ⟨_, hc⟩ => by
  obtain ⟨cur', h1, _⟩ := heapSet (g := g) (i := i) v hc
  exact ⟨cur', h1⟩
end
theorem cellSet {w : World} {g i b o : Nat} {u v : Value} (v' : Value) (hp : w.cell? ⟨g, i, none⟩ = some u) (h : w.cell? ⟨b, o, none⟩ = some v) (hv : v ≠ u) : (w.setCell ⟨g, i, none⟩ v').cell? ⟨b, o, none⟩ = some v := by
  rw [World.cell?_setCell_other _ _ _ _ fun e => ?_]
  · exact h
  · rw [e, h] at hp
    injection hp with hp
    exact hv hp
/-- An expression to depth d whose rows lie in old memory or in rows of expressions. -/
def GX (B : Nat) : Nat → World → Nat → Nat → Ex → Prop
  | 0 => fun _ _ _ _ => False
  | d + 1 => fun w b o t => Ty B 37 w b ∧ w.cell? ⟨b, o, none⟩ = some (.int .i64 t.val.kind) ∧ w.cell? ⟨b, o + 1, none⟩ = some (.int .i64 t.val.n) ∧ w.cell? ⟨b, o + 2, none⟩ = some (.string t.val.name) ∧ w.cell? ⟨b, o + 3, none⟩ = some (.int .i64 t.val.fn) ∧
      t.snd = [] ∧ ∃ v, w.cell? ⟨b, o + 4, none⟩ = some v ∧ SlE 5 (GX B d) w v t.fst
theorem stabGX (B : Nat) : ∀ d, StabE (GX B d)
  | 0 => fun _ _ _ _ _ _ _ h => h
  | d + 1 => fun _ _ _ _ _ hl hb ⟨hg, h0, h1, h2, h3, hs, v, h4, h5⟩ => ⟨hg.below hl hb, (hb.cell hl).trans h0, (hb.cell hl).trans h1, (hb.cell hl).trans h2, (hb.cell hl).trans h3, hs, v, (hb.cell hl).trans h4, h5.below (stabGX B d) hb⟩
theorem GX.to {B : Nat} : ∀ {d : Nat} {w : World} {b o : Nat} {t : Ex}, GX B d w b o t → EX d w b o t
  | 0, _, _, _, _, h => h.elim
  | _ + 1, _, _, _, _, ⟨_, h0, h1, h2, h3, hs, v, h4, h5⟩ => ⟨h0, h1, h2, h3, hs, v, h4, h5.mono fun _ _ _ h => h.to⟩
theorem GX.up {B : Nat} : ∀ {d : Nat} {w : World} {b o : Nat} {t : Ex}, GX B d w b o t → GX B (d + 1) w b o t
  | 0, _, _, _, _, h => h.elim
  | _ + 1, _, _, _, _, ⟨hg, h0, h1, h2, h3, hs, v, h4, h5⟩ => ⟨hg, h0, h1, h2, h3, hs, v, h4, h5.mono fun _ _ _ h => h.up⟩
theorem GX.ty {B : Nat} : ∀ {d : Nat} {w : World} {b o : Nat} {t : Ex}, GX B d w b o t → Ty B 37 w b
  | 0, _, _, _, _, h => h.elim
  | _ + 1, _, _, _, _, ⟨h, _⟩ => h
/-- Out of a reading of old memory. -/
theorem RdE.guard {E E' : World → Nat → Nat → Ex → Prop} {w : World} {A : Option Addr} {c k : Nat} {l : List Ex} (h : RdE k E w A c l) (hE : ∀ b o x, b < w.heap.size → E w b o x → E' w b o x) : RdE k E' w A c l :=
  ⟨h.le, h.max, fun hn => by
    obtain ⟨b, off, e, hl, hc⟩ := h.at_ hn
    exact ⟨b, off, e, hl, fun j hj => hE _ _ _ hl (hc j hj)⟩⟩
theorem SlE.guard {E E' : World → Nat → Nat → Ex → Prop} {w : World} {v : Value} {k : Nat} {l : List Ex} (h : SlE k E w v l) (hE : ∀ b o x, b < w.heap.size → E w b o x → E' w b o x) : SlE k E' w v l := by
  obtain ⟨A, c, e, hr⟩ := h
  exact ⟨A, c, e, hr.guard hE⟩
theorem EX.guard : ∀ {d : Nat} {w : World} {b o : Nat} {t : Ex}, b < w.heap.size → EX d w b o t → GX w.heap.size d w b o t
  | 0, _, _, _, _, _, h => h.elim
  | _ + 1, _, _, _, _, hb, ⟨h0, h1, h2, h3, hs, v, h4, h5⟩ => ⟨.inl hb, h0, h1, h2, h3, hs, v, h4, h5.guard fun _ _ _ hl h => h.guard hl⟩
/-- A reading goes over from one memory to another one, place by place. -/
theorem RdE.over {α : Type} {E E' : World → Nat → Nat → α → Prop} {w w' : World} {A : Option Addr} {c k : Nat} {l : List α} (h : RdE k E w A c l) (hs : w.heap.size ≤ w'.heap.size) (hE : ∀ b o x, b < w.heap.size → E w b o x → E' w' b o x) : RdE k E' w' A c l :=
  ⟨h.le, h.max, fun hn => by
    obtain ⟨b, off, e, hl, hc⟩ := h.at_ hn
    exact ⟨b, off, e, Nat.lt_of_lt_of_le hl hs, fun j hj => hE _ _ _ hl (hc j hj)⟩⟩
theorem SlE.over {α : Type} {E E' : World → Nat → Nat → α → Prop} {w w' : World} {v : Value} {k : Nat} {l : List α} (h : SlE k E w v l) (hs : w.heap.size ≤ w'.heap.size) (hE : ∀ b o x, b < w.heap.size → E w b o x → E' w' b o x) : SlE k E' w' v l := by
  obtain ⟨A, c, e, hr⟩ := h
  exact ⟨A, c, e, hr.over hs hE⟩
theorem GX.chg {B : Nat} {F : Nat → Prop} {w w' : World} (hc : Chg w w' F) (hF : ∀ b, b < w.heap.size → Ty B 37 w b → F b) : ∀ {d : Nat} {b o : Nat} {t : Ex}, b < w.heap.size → GX B d w b o t → GX B d w' b o t
  | 0, _, _, _, _, h => h.elim
  | _ + 1, b, o, _, hl, ⟨hg, h0, h1, h2, h3, hs, v, h4, h5⟩ => by
    have e := hc.block b hl (hF b hl hg)
    have ec : ∀ i, w'.cell? ⟨b, i, none⟩ = w.cell? ⟨b, i, none⟩ := fun i => World.cell?_of_block e
    exact ⟨hg.blk e, (ec _).trans h0, (ec _).trans h1, (ec _).trans h2, (ec _).trans h3, hs, v, (ec _).trans h4, h5.over hc.size fun _ _ _ hl h => h.chg hc hF hl⟩
/-- A list's cell is replaced by one that reads alike. -/
theorem GX.put {B g i n c : Nat} {A : Option Addr} {w : World} {v' : Value} (hp : w.cell? ⟨g, i, none⟩ = some (.slice A n c)) (H : ∀ d l, SlE 5 (GX B d) w (.slice A n c) l → SlE 5 (GX B d) w v' l) : ∀ {d : Nat} {b o : Nat} {t : Ex}, GX B d w b o t → GX B d (w.setCell ⟨g, i, none⟩ v') b o t
  | 0, _, _, _, h => h.elim
  | d + 1, b, o, t, ⟨hg, h0, h1, h2, h3, hs, v, h4, h5⟩ => by
    have hsz : w.heap.size ≤ (w.setCell ⟨g, i, none⟩ v').heap.size := by simp
    have K : ∀ u, SlE 5 (GX B d) w u t.fst → SlE 5 (GX B d) (w.setCell ⟨g, i, none⟩ v') u t.fst := fun u hu => hu.over hsz fun _ _ _ _ h => h.put hp H
    refine ⟨hg.set v', cellSet v' hp h0 (by simp), cellSet v' hp h1 (by simp), cellSet v' hp h2 (by simp), cellSet v' hp h3 (by simp), hs, ?_⟩
    by_cases e : (⟨g, i, none⟩ : Addr) = ⟨b, o + 4, none⟩
    · rw [e] at hp
      have hv : v = .slice A n c := by rw [hp] at h4; injection h4 with h4; exact h4.symm
      subst hv
      refine ⟨v', ?_, K v' (H d _ h5)⟩
      rw [← e]
      rw [← e] at hp
      exact World.cell?_setCell_same _ _ _ hp
    · exact ⟨v, (World.cell?_setCell_other _ _ _ _ e).trans h4, K v h5⟩
/-- A place is read in one way only. -/
theorem RdE.uniq {α : Type} {E E' : World → Nat → Nat → α → Prop} {w : World} {A : Option Addr} {c c' k : Nat} {l l' : List α} (h : RdE k E w A c l) (h' : RdE k E' w A c' l') (hn : l.length = l'.length) (hE : ∀ b o x y, E w b o x → E' w b o y → x = y) : l = l' :=
  List.ext_getElem hn fun j h1 h2 => by
    obtain ⟨b, off, e, _, hx⟩ := h.one h1
    obtain ⟨b', off', e', _, hy⟩ := h'.one h2
    rw [e] at e'
    injection e' with e'
    injection e' with e1 e2 _
    subst e1 e2
    exact hE _ _ _ _ hx hy
theorem SlE.uniq {α : Type} {E E' : World → Nat → Nat → α → Prop} {w : World} {v : Value} {k : Nat} {l l' : List α} (h : SlE k E w v l) (h' : SlE k E' w v l') (hE : ∀ b o x y, E w b o x → E' w b o y → x = y) : l = l' := by
  obtain ⟨A, c, e, hr⟩ := h
  obtain ⟨A', c', e', hr'⟩ := h'
  rw [e] at e'
  injection e' with e1 e2 e3
  subst e1
  exact hr.uniq hr' e2 hE
theorem EX.uniq {w : World} : ∀ {d d' : Nat} {b o : Nat} {t u : Ex}, EX d w b o t → EX d' w b o u → t = u
  | 0, _, _, _, _, _, h, _ => h.elim
  | _, 0, _, _, _, _, _, h => h.elim
  | d + 1, d' + 1, b, o, t, u, ⟨h0, h1, h2, h3, hs, v, h4, h5⟩, ⟨k0, k1, k2, k3, ks, v', k4, k5⟩ => by
    rw [h0] at k0
    rw [h1] at k1
    rw [h2] at k2
    rw [h3] at k3
    rw [h4] at k4
    injection k0 with k0
    injection k0 with _ k0
    injection k1 with k1
    injection k1 with _ k1
    injection k2 with k2
    injection k2 with k2
    injection k3 with k3
    injection k3 with _ k3
    injection k4 with k4
    subst k4
    have e := h5.uniq k5 fun _ _ _ _ hx hy => EX.uniq hx hy
    obtain ⟨⟨a0, a1, a2, a3⟩, a4, a5⟩ := t
    obtain ⟨⟨b0, b1, b2, b3⟩, b4, b5⟩ := u
    simp only [Tr.val, Tr.fst, Tr.snd] at k0 k1 k2 k3 e hs ks
    subst k0 k1 k2 k3 e hs ks
    rfl
/-- A place's cells as they are. -/
def Raw (k : Nat) (w : World) (b o : Nat) (x : List Value) : Prop := ∀ j, j < k → w.cell? ⟨b, o + j, none⟩ = some (x.getD j undef)
theorem toldRaw (k : Nat) : Told k (Raw k) := ⟨fun h j hj => by rw [h j hj]; rfl, fun h _ hc j hj => (hc j hj).trans (h j hj)⟩
/-- The cells of a row whose elements are told by them. -/
theorem RdE.raw {α : Type} {k : Nat} {E : World → Nat → Nat → α → Prop} {w : World} {A : Option Addr} {c : Nat} {l : List α} (h : RdE k E w A c l) (hE : Told k E) : ∃ L : List (List Value), L.length = l.length ∧ RdE k (Raw k) w A c L := by
  by_cases h0 : l.length = 0
  · exact ⟨[], h0.symm, Nat.zero_le _, h.max, fun hn => absurd hn (by simp)⟩
  · obtain ⟨b, off, rfl, hl, hc⟩ := h.at_ (by omega)
    refine ⟨(List.range l.length).map fun j => (List.range k).map fun i => (w.cell? ⟨b, off + j * k + i, none⟩).getD undef, by simp, by simpa using h.le, h.max, fun _ => ⟨b, off, rfl, hl, fun j hj => ?_⟩⟩
    have hj' : j < l.length := by simpa using hj
    intro i hi
    have := hE.cells (hc j hj') i hi
    obtain ⟨u, hu⟩ := Option.isSome_iff_exists.1 this
    simp [List.getD_eq_getElem?_getD, List.getElem?_range hi, hu]
theorem cpInfoX : (Tryz.prog.info? 37).map (fun i => (i.zero, i.size, i.bytes)) = some (some (.agg #[.int .i64 0, .int .i64 0, .string ⟨#[]⟩, .int .i64 0, .slice none 0 0]), 5, 64) := by kernel_rfl
/-- copyOf at expressions: the cells as they are. -/
theorem iCopyRX (l : List (List Value)) (n c : Nat) (hn : l.length = n) (hs : n ≤ 4000000) (A : Option Addr) (w : World) (hr : RdE 5 (Raw 5) w A c l) :
    Calls Tryz.prog 174 #[.slice A n c] w fun e w' => ∃ v, e = .returned v ∧ GoodCp 5 (Raw 5) 37 l n w v w' := by
  obtain ⟨v, w1, hrun, hg⟩ : ∃ v w', (Builtin.append_ #[35, 35] 35 #[.slice none 0 0, .slice A n c]).run Tryz.prog w = .ok v w' ∧ GoodCp 5 (Raw 5) 37 l n w v w' := by
    obtain ⟨i0, hi, hz0, hz1, hz2⟩ := info_parts cpInfoX
    exact runCp w (toldRaw 5) 35 35 37 i0 _ Tryz.underlying35 hi hz0 hz1 none A l n c hn hr (by rw [hz2]; omega)
  have HG := Lib.hid hg
  clear hg hr hn hs
  go_enter Tryz.func174, Tryz.ntmps174
  go_wp2_with (at_builtin; refine Lib.wpList_append_run _ rfl _ _ _ _ rfl _ _ rfl rfl _ _ hrun ?_)
  go_ret
  exact ⟨v, rfl, HG.out⟩
theorem cpInfoM : (Tryz.prog.info? 54).map (fun i => (i.zero, i.size, i.bytes)) = some (some (.agg #[.int .i64 0, .string ⟨#[]⟩, .string ⟨#[]⟩, .string ⟨#[]⟩, .int .i64 0, .int .i64 0, .slice none 0 0, .slice none 0 0, .slice none 0 0]), 9, 144) := by kernel_rfl
/-- copyOf at statements: the cells as they are. -/
theorem iCopyRM (l : List (List Value)) (n c : Nat) (hn : l.length = n) (hs : n ≤ 4000000) (A : Option Addr) (w : World) (hr : RdE 9 (Raw 9) w A c l) :
    Calls Tryz.prog 119 #[.slice A n c] w fun e w' => ∃ v, e = .returned v ∧ GoodCp 9 (Raw 9) 54 l n w v w' := by
  obtain ⟨v, w1, hrun, hg⟩ : ∃ v w', (Builtin.append_ #[42, 42] 42 #[.slice none 0 0, .slice A n c]).run Tryz.prog w = .ok v w' ∧ GoodCp 9 (Raw 9) 54 l n w v w' := by
    obtain ⟨i0, hi, hz0, hz1, hz2⟩ := info_parts cpInfoM
    exact runCp w (toldRaw 9) 42 42 54 i0 _ Tryz.underlying42 hi hz0 hz1 none A l n c hn hr (by rw [hz2]; omega)
  have HG := Lib.hid hg
  clear hg hr hn hs
  go_enter Tryz.func119, Tryz.ntmps119
  go_wp2_with (at_builtin; refine Lib.wpList_append_run _ rfl _ _ _ _ rfl _ _ rfl rfl _ _ hrun ?_)
  go_ret
  exact ⟨v, rfl, HG.out⟩
/-- A row that was copied cell by cell reads alike. -/
theorem rawSame {k : Nat} {w w' : World} {A A' : Option Addr} {c c' : Nat} {L : List (List Value)} (h : RdE k (Raw k) w A c L) (h' : RdE k (Raw k) w' A' c' L) {b o b' o' : Nat} (eA : A = some ⟨b, o, none⟩) (eA' : A' = some ⟨b', o', none⟩) {j : Nat} (hj : j < L.length) : ∀ i, i < k → w'.cell? ⟨b', o' + j * k + i, none⟩ = w.cell? ⟨b, o + j * k + i, none⟩ := by
  obtain ⟨b1, o1, e1, _, x1⟩ := h.one hj
  obtain ⟨b2, o2, e2, _, x2⟩ := h'.one hj
  rw [eA] at e1
  rw [eA'] at e2
  injection e1 with e1
  injection e1 with q1 q2 _
  injection e2 with e2
  injection e2 with p1 p2 _
  subst q1 q2 p1 p2
  exact fun i hi => (x2 i hi).trans (x1 i hi).symm
theorem GX.copy {B : Nat} {d : Nat} {w w' : World} {b o b' o' : Nat} {t : Ex} (h : GX B d w b o t) (hc : ∀ i, i < 5 → w'.cell? ⟨b', o' + i, none⟩ = w.cell? ⟨b, o + i, none⟩) (ht : Ty B 37 w' b') (hb : Below w.heap.size w w') : GX B d w' b' o' t := by
  cases d with
  | zero => exact h.elim
  | succ d =>
    obtain ⟨_, h0, h1, h2, h3, hs, v, h4, h5⟩ := h
    exact ⟨ht, (hc 0 (by omega)).trans h0, (hc 1 (by omega)).trans h1, (hc 2 (by omega)).trans h2, (hc 3 (by omega)).trans h3, hs, v, (hc 4 (by omega)).trans h4, h5.below (stabGX B d) hb⟩
/-- The copy of a row reads as the row does. -/
theorem GX.row {B n : Nat} {w w' : World} {A A' : Option Addr} {c c' : Nat} {L : List (List Value)} (hL : L.length = n) (h : RdE 5 (Raw 5) w A c L) (h' : RdE 5 (Raw 5) w' A' c' L) (hf : FreshRow w' B A' (n * 5) 37) (hb : Below w.heap.size w w') : ∀ d l, SlE 5 (GX B d) w (.slice A n c) l → SlE 5 (GX B d) w' (.slice A' n c') l := by
  intro d l ⟨A1, c1, e, hr⟩
  injection e with e1 e2 e3
  subst e1
  refine ⟨A', c', by rw [e2], by rw [← e2, ← hL]; exact h'.le, h'.max, fun hn => ?_⟩
  obtain ⟨g, cur, eg, _, hh, _⟩ := hf (by omega)
  obtain ⟨b, o, eA, _, hx⟩ := hr.at_ hn
  refine ⟨g, 0, eg, (Array.getElem?_eq_some_iff.1 hh).1, fun j hj => ?_⟩
  exact (hx j hj).copy (rawSame h h' eA eg (by omega)) (.inr ⟨cur, hh⟩) hb
/-- A row of new memory; what waits in S is not asked further, all else is as N says. -/
def RowN {β : Type} (B : Nat) (T : TypeId) (k : Nat) (S : Nat → Nat → Prop) (N : World → Nat → Nat → Tr β → Prop) (w : World) (A : Option Addr) (ts : List (Tr β)) : Prop :=
  0 < ts.length → ∃ g cur, A = some ⟨g, 0, none⟩ ∧ B ≤ g ∧ w.heap[g]? = some (.cells cur T (0, 0)) ∧ ts.length * k ≤ cur.size ∧ (S g ts.length ∨ ∀ j (hj : j < ts.length), N w g (j * k) ts[j])
theorem RowN.wait {β : Type} {B n : Nat} {T : TypeId} {k : Nat} {S : Nat → Nat → Prop} {N : World → Nat → Nat → Tr β → Prop} {w : World} {A : Option Addr} {ts : List (Tr β)} (hn : n = ts.length) (h : 0 < n → ∃ g cur, A = some ⟨g, 0, none⟩ ∧ B ≤ g ∧ w.heap[g]? = some (.cells cur T (0, 0)) ∧ n * k ≤ cur.size ∧ S g n) : RowN B T k S N w A ts := by
  subst hn
  intro h0
  obtain ⟨g, cur, e1, e2, e3, e4, e5⟩ := h h0
  exact ⟨g, cur, e1, e2, e3, e4, .inl e5⟩
theorem RowN.over {β : Type} {B : Nat} {T : TypeId} {k : Nat} {S S' : Nat → Nat → Prop} {N N' : World → Nat → Nat → Tr β → Prop} {w w' : World} {A : Option Addr} {ts : List (Tr β)} (h : RowN B T k S N w A ts)
    (hh : ∀ g cur, B ≤ g → w.heap[g]? = some (.cells cur T (0, 0)) → ∃ cur', w'.heap[g]? = some (.cells cur' T (0, 0)) ∧ cur'.size = cur.size)
    (hS : ∀ g, A = some ⟨g, 0, none⟩ → S g ts.length → S' g ts.length ∨ ∀ j (hj : j < ts.length), N' w' g (j * k) ts[j])
    (hN : ∀ g cur, A = some ⟨g, 0, none⟩ → w.heap[g]? = some (.cells cur T (0, 0)) → ∀ j (hj : j < ts.length), N w g (j * k) ts[j] → N' w' g (j * k) ts[j]) : RowN B T k S' N' w' A ts := fun hn => by
  obtain ⟨g, cur, e, hg, hc, hs, hx⟩ := h hn
  obtain ⟨cur', h1, h2⟩ := hh g cur hg hc
  refine ⟨g, cur', e, hg, h1, by omega, ?_⟩
  rcases hx with hx | hx
  · exact hS g e hx
  · exact .inr fun j hj => hN g cur e hc j hj (hx j hj)
/-- All rows inside an expression are new, but for what lies inside those that wait in S. -/
def NX (B : Nat) (S : Nat → Nat → Prop) : Nat → World → Nat → Nat → Ex → Prop
  | 0 => fun _ _ _ _ => True
  | d + 1 => fun w b o t => ∃ A c, w.cell? ⟨b, o + 4, none⟩ = some (.slice A t.fst.length c) ∧ RowN B 37 5 S (NX B S d) w A t.fst
theorem NX.mono {B : Nat} {S S' : Nat → Nat → Prop} (hS : ∀ g n, S g n → S' g n) {w : World} : ∀ {d : Nat} {b o : Nat} {t : Ex}, NX B S d w b o t → NX B S' d w b o t
  | 0, _, _, _, _ => trivial
  | _ + 1, _, _, _, ⟨A, c, h1, h2⟩ => ⟨A, c, h1, h2.over (fun _ cur _ hc => ⟨cur, hc, rfl⟩) (fun _ _ h => .inl (hS _ _ h)) fun _ _ _ _ _ _ h => h.mono hS⟩
theorem NX.chg {B : Nat} {S : Nat → Nat → Prop} {F : Nat → Prop} {w w' : World} (hc : Chg w w' F) (hF : ∀ b, b < w.heap.size → Ty B 37 w b → F b) : ∀ {d : Nat} {b o : Nat} {t : Ex}, b < w.heap.size → Ty B 37 w b → NX B S d w b o t → NX B S d w' b o t
  | 0, _, _, _, _, _, _ => trivial
  | d + 1, b, o, t, hl, ht, ⟨A, c, h1, h2⟩ => by
    refine ⟨A, c, (World.cell?_of_block (hc.block b hl (hF b hl ht))).trans h1, h2.over (fun g cur _ hg => ?_) (fun _ _ h => .inl h) fun g cur _ hg j hj h => ?_⟩
    · have hgl := (Array.getElem?_eq_some_iff.1 hg).1
      exact ⟨cur, (hc.block g hgl (hF g hgl (.inr ⟨cur, hg⟩))).trans hg, rfl⟩
    · have hgl := (Array.getElem?_eq_some_iff.1 hg).1
      exact h.chg hc hF hgl (.inr ⟨cur, hg⟩)
/-- A new row, which waits, is put in the place of a list. -/
theorem NX.put {B g0 i n c0 c1 : Nat} {A0 A1 : Option Addr} {S : Nat → Nat → Prop} {w : World} (hp : w.cell? ⟨g0, i, none⟩ = some (.slice A0 n c0)) (hn : 0 < n → ∃ g cur, A1 = some ⟨g, 0, none⟩ ∧ B ≤ g ∧ w.heap[g]? = some (.cells cur 37 (0, 0)) ∧ n * 5 ≤ cur.size ∧ S g n) :
    ∀ {d : Nat} {b o : Nat} {t : Ex}, NX B S d w b o t → NX B S d (w.setCell ⟨g0, i, none⟩ (.slice A1 n c1)) b o t
  | 0, _, _, _, _ => trivial
  | d + 1, b, o, t, ⟨A, c, h1, h2⟩ => by
    by_cases e : (⟨g0, i, none⟩ : Addr) = ⟨b, o + 4, none⟩
    · rw [e] at hp
      rw [h1] at hp
      injection hp with hp
      injection hp with _ e2 _
      refine ⟨A1, c1, ?_, RowN.wait e2.symm fun h0 => ?_⟩
      · rw [← e, e2]
        rw [← e] at h1
        exact World.cell?_setCell_same _ _ _ h1
      · obtain ⟨g, cur, k1, k2, k3, k4, k5⟩ := hn h0
        obtain ⟨cur', q1, q2⟩ := heapSet (g := g0) (i := i) (.slice A1 n c1) k3
        exact ⟨g, cur', k1, k2, q1, by omega, k5⟩
    · refine ⟨A, c, (World.cell?_setCell_other _ _ _ _ e).trans h1, h2.over (fun g cur _ hg => heapSet _ hg) (fun _ _ h => .inl h) fun g cur _ hg j hj h => h.put hp hn⟩
/-- A row that waited is done: the lists in its elements are new and wait themselves. -/
theorem NX.done {B g0 n0 : Nat} {S S' : Nat → Nat → Prop} {w : World} (hS : ∀ g n, S g n → (g = g0 ∧ n = n0) ∨ S' g n) (hd : ∀ j, j < n0 → ∃ A m c, w.cell? ⟨g0, j * 5 + 4, none⟩ = some (.slice A m c) ∧ (0 < m → ∃ g cur, A = some ⟨g, 0, none⟩ ∧ B ≤ g ∧ w.heap[g]? = some (.cells cur 37 (0, 0)) ∧ m * 5 ≤ cur.size ∧ S' g m)) :
    ∀ {d dx : Nat} {b o : Nat} {t : Ex}, GX B dx w b o t → NX B S d w b o t → NX B S' d w b o t
  | 0, _, _, _, _, _, _ => trivial
  | d + 1, 0, b, o, t, h, _ => h.elim
  | d + 1, dx + 1, b, o, t, ⟨_, _, _, _, _, _, v, h4, A2, c2, ev, hr⟩, ⟨A, c, h1, h2⟩ => by
    subst ev
    rw [h1] at h4
    injection h4 with h4
    injection h4 with e1 _ _
    subst e1
    refine ⟨A, c, h1, h2.over (fun _ cur _ hc => ⟨cur, hc, rfl⟩) (fun g eA h => ?_) fun g cur eA hg j hj h => ?_⟩
    · rcases hS _ _ h with ⟨rfl, en⟩ | h
      · refine .inr fun j hj => ?_
        cases d with
        | zero => trivial
        | succ d1 =>
          obtain ⟨A3, m, c3, k1, k2⟩ := hd j (by omega)
          obtain ⟨b9, o9, e9, _, hx⟩ := hr.one hj
          rw [eA] at e9
          injection e9 with e9
          injection e9 with p1 p2 _
          subst p1 p2
          cases dx with
          | zero => exact hx.elim
          | succ dx1 =>
            obtain ⟨_, _, _, _, _, _, u, y4, A5, c5, eu, _⟩ := hx
            subst eu
            rw [Nat.zero_add, k1] at y4
            injection y4 with y4
            injection y4 with _ y5 _
            exact ⟨A3, c3, by rw [← y5]; exact k1, RowN.wait y5 k2⟩
      · exact .inl h
    · obtain ⟨b9, o9, e9, _, hx⟩ := hr.one hj
      rw [eA] at e9
      injection e9 with e9
      injection e9 with p1 p2 _
      subst p1 p2
      rw [Nat.zero_add] at hx
      exact NX.done hS hd hx h
end Go.Proofs.YtiaendggmamnkaaGreatDoor
