/-
  Words for the successors of a relation: rows of integers of the call's own, in a row of slices, no two in one block; what such a row of slices reads as.
-/
import Derived.Test.YtjioiaeiggjneaaDoorKRDef
import Derived.Maps.OwnOps
import Derived.Maps.Views
import Derived.Test.YtjioiaeiggjneaaDoorKMkOf
import Derived.Test.YtjioiaeiggjneaaDoorKLists
import Derived.Deep.RegionHeld3
namespace Go.Proofs.YtjioiaeiggjneaaDoor
open Go.RowKit Go.Maps

/-- The numbers that follow i, as they stand in the list. -/
def sl (l : Prs) (i : Nat) : List Int := l.filterMap fun p => if p.1 = (i : Int) then some p.2 else none
theorem slMem {l : Prs} {i : Nat} {y : Int} : y ∈ sl l i ↔ ((i : Int), y) ∈ l := by
  unfold sl
  rw [List.mem_filterMap]
  constructor
  · rintro ⟨⟨a, b⟩, h1, h2⟩
    split at h2
    · rename_i e
      have e : a = (i : Int) := e
      have h2 : b = y := by simpa using h2
      rw [← e, ← h2]; exact h1
    · cases h2
  · intro h; exact ⟨_, h, by simp⟩
theorem slSucc {l : Prs} {k : Nat} (hk : k < l.length) (i : Nat) : sl (l.take (k + 1)) i = if l[k].1 = (i : Int) then sl (l.take k) i ++ [l[k].2] else sl (l.take k) i := by
  unfold sl
  rw [List.take_succ_eq_append_getElem hk, List.filterMap_append]
  split
  · rename_i e; simp [e]
  · rename_i e; simp [e]
theorem slLen (l : Prs) (i : Nat) : (sl l i).length ≤ l.length := List.length_filterMap_le _ _
/-- The numbers below n that follow i, in order. -/
def sucI (n : Nat) (f : Nat → Nat → Bool) (i : Nat) : List Int := ((List.range n).filter (f i)).map fun (b : Nat) => (b : Int)
theorem sucMem {n : Nat} {f : Nat → Nat → Bool} {i : Nat} {y : Int} : y ∈ sucI n f i ↔ ∃ b : Nat, y = (b : Int) ∧ b < n ∧ f i b = true := by
  unfold sucI
  rw [List.mem_map]
  constructor
  · rintro ⟨b, h1, rfl⟩
    rw [List.mem_filter, List.mem_range] at h1
    exact ⟨b, rfl, h1.1, h1.2⟩
  · rintro ⟨b, rfl, h1, h2⟩
    exact ⟨b, List.mem_filter.2 ⟨List.mem_range.2 h1, h2⟩, rfl⟩
theorem sucSrt (n : Nat) (f : Nat → Nat → Bool) (i : Nat) : Srt (sucI n f i) := by
  unfold Srt sucI
  rw [List.pairwise_map]
  have : ((List.range n).filter (f i)).Pairwise (· < ·) := List.Pairwise.filter _ List.pairwise_lt_range
  exact this.imp fun h => by omega
theorem sucLen (n : Nat) (f : Nat → Nat → Bool) (i : Nat) : (sucI n f i).length ≤ n := by
  unfold sucI
  rw [List.length_map]
  have := List.length_filter_le (f i) (List.range n)
  simpa using this
theorem sucMk {n : Nat} {l : Prs} (h : okR n l = true) {i : Nat} (_ : i < n) : mk (sl l i) = sucI n (hasP l) i := by
  refine (mkEq (sucSrt n (hasP l) i) fun y => ?_).symm
  rw [sucMem, slMem]
  constructor
  · rintro ⟨b, rfl, h1, h2⟩
    unfold hasP at h2
    rwa [decide_eq_true_iff] at h2
  · intro hp
    have := (okIff.1 h).2.2 _ hp
    unfold inR at this
    refine ⟨y.toNat, by omega, by omega, ?_⟩
    unfold hasP
    rw [decide_eq_true_iff, Int.toNat_of_nonneg (by omega)]
    exact hp

/-- The slices vs are rows of integers of the call's own, no two in one block. -/
def RowsI (w : World) (base : Nat) (vs : List Value) (C : Nat → List Int) (n : Nat) : Prop :=
  (∀ i, i < n → ∃ v, vs[i]? = some v ∧ OwnI w base v (C i)) ∧ ∀ i j u v g, i < n → j < n → i ≠ j → vs[i]? = some u → vs[j]? = some v → u.ownBlock = some g → v.ownBlock ≠ some g
theorem RowsI.chg {w w' : World} {F : Nat → Prop} {base : Nat} {vs : List Value} {C : Nat → List Int} {n : Nat} (h : RowsI w base vs C n) (hc : Chg w w' F) (hF : ∀ i v g, i < n → vs[i]? = some v → v.ownBlock = some g → F g) : RowsI w' base vs C n :=
  ⟨fun i hi => by obtain ⟨v, h1, h2⟩ := h.1 i hi; exact ⟨v, h1, h2.chg hc fun g hg => hF i v g hi h1 hg⟩, h.2⟩
theorem RowsI.start (w : World) (base n : Nat) (l : Prs) : RowsI w base (List.replicate n (.slice none 0 0)) (sl (l.take 0)) n :=
  ⟨fun i hi => ⟨_, by rw [List.getElem?_replicate, if_pos hi], by simp [sl]; exact OwnI.nil _ _⟩, fun i j u v g hi _ _ h1 _ h3 => by
    rw [List.getElem?_replicate, if_pos hi] at h1
    injection h1 with h1
    subst h1
    simp [Value.ownBlock] at h3⟩
theorem rowsPut {wr X w2 : World} {base bg g n i : Nat} {vs : List Value} {C : Nat → List Int} {v v' : Value} {y : Int} (h : RowsI wr base vs C n) (ho : OwnL wr bg (.slice (some ⟨g, 0, none⟩) n n) vs) (hlen : vs.length = n) (hi : i < n) (hv : vs[i]? = some v)
    (c1 : Below wr.heap.size wr X) (hg : X.grownBy w2 v.ownBlock) (hm : Moved X v v' (C i).length 1) (ho' : OwnI w2 base v' (C i ++ [y])) (C' : Nat → List Int) (hC : ∀ j, C' j = if j = i then C i ++ [y] else C j) :
    RowsI (w2.setCell ⟨g, i, none⟩ v') base (vs.set i v') C' n ∧ OwnL (w2.setCell ⟨g, i, none⟩ v') bg (.slice (some ⟨g, 0, none⟩) n n) (vs.set i v') := by
  have hX : RowsI X base vs C n := h.chg (Chg.ofBelow c1 fun _ => True) fun _ _ _ _ _ _ => trivial
  have hoX : OwnL X bg (.slice (some ⟨g, 0, none⟩) n n) vs := ho.chg (Chg.ofBelow c1 fun _ => True) fun _ _ => trivial
  have hc2 : Chg X w2 (fun k => v.ownBlock ≠ some k) := Chg.ofGrown hg fun k hk => hk
  obtain ⟨v0, e0, hown0⟩ := hX.1 i hi
  rw [hv] at e0
  injection e0 with e0
  subst e0
  have hgv : ∀ k, v.ownBlock = some k → k ≠ g := fun k hk e => ownApart hown0 hoX (by decide) hk (by rw [e]; rfl)
  have ho2 : OwnL w2 bg (.slice (some ⟨g, 0, none⟩) n n) vs := hoX.chg hc2 fun k hk hv2 => by
    have : g = k := by simpa [Value.ownBlock] using hk
    exact hgv k hv2 this.symm
  have hgv' : ∀ k, v'.ownBlock = some k → k ≠ g := fun k hk e => ownApart ho' ho2 (by decide) hk (by rw [e]; rfl)
  have hc3 : Chg w2 (w2.setCell ⟨g, i, none⟩ v') (fun k => k ≠ g) := Chg.setCell w2 ⟨g, i, none⟩ v'
  refine ⟨⟨fun j hj => ?_, fun j k a b q hj hk hjk ha hb hq => ?_⟩, ?_⟩
  · rw [hC j]
    by_cases e : j = i
    · subst e
      rw [if_pos rfl]
      exact ⟨v', by rw [List.getElem?_set_self (by omega)], ho'.chg hc3 hgv'⟩
    · rw [if_neg e]
      obtain ⟨u, h1, h2⟩ := hX.1 j hj
      refine ⟨u, by rw [List.getElem?_set_ne (Ne.symm e)]; exact h1, ((OwnI.chg h2 hc2 fun q hq hv2 => hX.2 j i u v q hj hi e h1 hv hq hv2).chg hc3 fun q hq e' => ?_)⟩
      exact ownApart h2 hoX (by decide) hq (by rw [e']; rfl)
  · have hb2 : ∀ q, v'.ownBlock = some q → v.ownBlock = some q ∨ X.heap.size ≤ q := fun q hq => by
      rcases movedBlock hm with e | e
      · exact .inl (by rw [← e]; exact hq)
      · exact .inr (by rw [e] at hq; injection hq with hq; omega)
    have hlt : ∀ m, m < n → m ≠ i → ∀ u q, vs[m]? = some u → u.ownBlock = some q → v.ownBlock ≠ some q ∧ q < X.heap.size := fun m hm hmi u q hu huq => by
      obtain ⟨u', h1, h2⟩ := hX.1 m hm
      rw [hu] at h1
      injection h1 with h1
      subst h1
      exact ⟨hX.2 m i u v q hm hi hmi hu hv huq, (h2.lt huq).2⟩
    by_cases ej : j = i
    · subst ej
      rw [List.getElem?_set_self (by omega)] at ha
      injection ha with ha
      subst ha
      rw [List.getElem?_set_ne hjk] at hb
      intro hbq
      obtain ⟨h1, h2⟩ := hlt k hk (Ne.symm hjk) b q hb hbq
      rcases hb2 q hq with h3 | h3
      · exact h1 h3
      · omega
    · rw [List.getElem?_set_ne (Ne.symm ej)] at ha
      obtain ⟨h1, h2⟩ := hlt j hj ej a q ha hq
      by_cases ek : k = i
      · subst ek
        rw [List.getElem?_set_self (by omega)] at hb
        injection hb with hb
        subst hb
        intro hbq
        rcases hb2 q hbq with h3 | h3
        · exact h1 h3
        · omega
      · rw [List.getElem?_set_ne (Ne.symm ek)] at hb
        exact hX.2 j k a b q hj hk hjk ha hb hq
  · subst hlen
    have := (World.ownsRow.stored ho2 i v').1
    unfold OwnL
    rw [List.length_set]
    exact this

theorem frozenBlock {w w' : World} {a : Addr} (h : w'.heap[a.block]? = w.heap[a.block]?) : w'.frozen? a = w.frozen? a := by unfold World.frozen?; rw [h]
theorem grownCell {X w2 : World} {r : Option Nat} (hg : X.grownBy w2 r) {a : Addr} (ha : a.block < X.heap.size) (hne : r ≠ some a.block) : w2.cell? a = X.cell? a ∧ w2.frozen? a = X.frozen? a :=
  ⟨World.cell?_of_block (hg.block _ ha (Ne.symm hne)), frozenBlock (hg.block _ ha (Ne.symm hne))⟩
/-- One step of a region that draws its order: append of one integer onto a row of the call's own. -/
theorem stepInt (w : World) {ops : Array Oper} {o : Oper} {a : Act} {K : Act → World → Prop} {Q : Exit → Act → World → Prop} {E : Prop} (hgd : o.guard = none) (s x : Operand)
    (ho : o.op = .call { callee := .builtin .append, args := #[s, x], argTypes := #[25, 25] })
    (base : Nat) (v : Value) (l : List Int) (hs : a.eval s = v) (hown : OwnI w base v l) (g : Nat) (y : Int) (hx : a.eval x = .slice (some ⟨g, 0, none⟩) 1 1) (hr : Rd w (some ⟨g, 0, none⟩) 1 [y]) (hb : l.length + 1 ≤ 1000000) (hbase : base ≤ w.heap.size)
    (h : ∀ v' w', OwnI w' base v' (l ++ [y]) → w.grownBy w' v.ownBlock → Moved w v v' l.length 1 → K (a.put o.dst v') w') :
    if Region.wanted o (yielded ops a.tmps) = true then Oper.wp Tryd.prog o a w K Q else E := by
  obtain ⟨i0, hi, hz0, hz1, hz2⟩ := info_parts infoInt
  refine stepApp w hgd s x 25 ho base 3 i0 _ 8 Tryd.underlying25 hi hz0 hz1 hz2 rfl v l.length (iv l) hs hown (some ⟨g, 0, none⟩) 1 1 (iv [y]) hx rfl hr (ivOne _) (by omega) (by unfold maxLen; omega) hbase fun v' w' h1 _ h3 h4 => h v' w' ?_ h3 h4
  unfold OwnI iv
  rw [List.length_append, List.map_append]
  exact h1

/-- The slice reads as the slices C 0, .., C (n - 1). -/
def RdF (w : World) (A : Option Addr) (c : Nat) (C : Nat → List Int) (n : Nat) : Prop :=
  ∃ vs, Rds w A c vs ∧ vs.length = n ∧ ∀ i, i < n → ∃ A' c', vs[i]? = some (.slice A' (C i).length c') ∧ Rd w A' c' (C i)
section
variable {w w' : World} {A : Option Addr} {c n : Nat} {C : Nat → List Int}
theorem RdF.below (h : RdF w A c C n) (hb : Below w.heap.size w w') : RdF w' A c C n := by
  obtain ⟨vs, h1, h2, h3⟩ := h
  refine ⟨vs, h1.below hb, h2, fun i hi => ?_⟩
  obtain ⟨A', c', e, hr⟩ := h3 i hi
  exact ⟨A', c', e, hr.below hb⟩
theorem RdF.one (h : RdF w A c C n) {k : Nat} (hk : k < n) : ∃ ad A' c', A = some ad ∧ ad.block < w.heap.size ∧ w.cell? (ad.add k) = some (.slice A' (C k).length c') ∧ Rd w A' c' (C k) := by
  obtain ⟨vs, h1, h2, h3⟩ := h
  obtain ⟨A', c', e, hr⟩ := h3 k hk
  obtain ⟨ad, ea, hb, hc⟩ := h1.at_ (by omega)
  exact ⟨ad, A', c', ea, hb, hc k _ e, hr⟩
theorem RdF.le (h : RdF w A c C n) : n ≤ c := by obtain ⟨vs, h1, h2, _⟩ := h; rw [← h2]; exact h1.le
theorem RdF.max (h : RdF w A c C n) : c ≤ maxLen := by obtain ⟨vs, h1, _, _⟩ := h; exact h1.max
end
/-- The call returns a slice that reads as the slices C 0, .., C (n - 1); nothing that was in memory has changed. -/
def GivesF (C : Nat → List Int) (n : Nat) (w : World) (e : Ending) (w' : World) : Prop := ∃ A c, e = .returned (.slice A n c) ∧ RdF w' A c C n ∧ Below w.heap.size w w'
end Go.Proofs.YtjioiaeiggjneaaDoor
