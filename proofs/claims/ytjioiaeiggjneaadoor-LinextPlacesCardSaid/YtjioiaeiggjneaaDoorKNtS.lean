/-
  What lies in memory while Nth works.
-/
import Derived.Test.YtjioiaeiggjneaaDoorKRkS
import Derived.Test.YtjioiaeiggjneaaDoorKLinE
namespace Go.Proofs.YtjioiaeiggjneaaDoor
open Go Go.RowKit

/-- The box of rank lies at block w0; those of ways and done, and the order with its box, lie behind w3. -/
structure NtB (w0 : Nat) (w3 : World) (q s i : Nat) (l : List Nat) (W : World) : Prop where
  chg : Chg w3 W (fun b => b ≠ w0)
  lw : w0 < w3.heap.size
  rk : Boxed W w0 3 (.int .i64 (i : Int))
  bm : Boxed W w3.heap.size 47 (.map (some q))
  bd : Boxed W (w3.heap.size + 1) 51 (.int .u64 (s : Int))
  bo : ∃ v, Boxed W (w3.heap.size + 1 + 1 + 1) 25 v ∧ OwnI W (w3.heap.size + 1 + 1) v (l.map Int.ofNat)
section
variable {w0 : Nat} {w3 W W' : World} {q s i : Nat} {l : List Nat}
theorem NtB.lt (h : NtB w0 w3 q s i l W) : w3.heap.size + 1 + 1 + 1 < W.heap.size := by obtain ⟨v, hv, _⟩ := h.bo; exact hv.lt
theorem NtB.keep (h : NtB w0 w3 q s i l W) {F : Nat → Prop} (hc : Chg W W' F) (h1 : ∀ b, b < w3.heap.size → b ≠ w0 → F b) (h2 : ∀ b cur T, W.heap[b]? = some (.cells cur T (0, 0)) → F b) : NtB w0 w3 q s i l W' := by
  obtain ⟨v, hv, ho⟩ := h.bo
  have kb : ∀ {b : Nat} {T : TypeId} {u : Value}, Boxed W b T u → Boxed W' b T u := fun hb => (hc.block _ hb.lt (h2 _ _ _ hb)).trans hb
  refine ⟨h.chg.trans hc (fun b hb hne => h1 b hb hne), h.lw, kb h.rk, kb h.bm, kb h.bd, v, kb hv, ?_⟩
  refine ownChg ho hc fun g hg => ?_
  rcases ho.2 with ⟨rfl, _⟩ | ⟨k, cap, cur, rfl, _, hk, _⟩
  · simp [Value.ownBlock] at hg
  · have e : k = g := by simpa [Value.ownBlock] using hg
    subst e
    exact h2 _ _ _ hk
theorem NtB.below (h : NtB w0 w3 q s i l W) (hb : Below W.heap.size W W') : NtB w0 w3 q s i l W' := h.keep (Chg.ofBelow hb fun _ => True) (fun _ _ _ => trivial) fun _ _ _ _ => trivial
theorem NtB.drew (h : NtB w0 w3 q s i l W) : NtB w0 w3 q s i l W.drew := h.below ((Below.refl W.heap.size W).drew)
theorem NtB.own (h : NtB w0 w3 q s i l W) {row : Option Nat} (hg : W.grownBy W' row) (hr : ∀ r, row = some r → w3.heap.size ≤ r ∧ ∃ o : Obj, W.heap[r]? = some o ∧ o.isCells = false) : NtB w0 w3 q s i l W' := by
  refine h.keep (F := fun b => row ≠ some b) (Chg.ofGrown hg fun _ h => h) (fun b hb _ e => by have := (hr b e).1; omega) fun b cur T hb e => ?_
  obtain ⟨_, o, ho, hc⟩ := hr b e
  rw [hb] at ho
  injection ho with ho
  subst ho
  cases hc
theorem ownSet {W : World} {base : Nat} {v : Value} {l : List Int} (h : OwnI W base v l) (a : Addr) (u : Value) (ha : v.ownBlock ≠ some a.block) : OwnI (W.setCell a u) base v l :=
  ownChg h (Chg.setCell W a u) fun g hg e => ha (by rw [hg, e])
theorem OwnI.apartBox {W : World} {base b : Nat} {v u : Value} {l : List Int} {T : TypeId} (h : OwnI W base v l) (hb : Boxed W b T u) (hT : T ≠ 3) : v.ownBlock ≠ some b := by
  intro e
  rcases h.2 with ⟨rfl, _⟩ | ⟨k, cap, cur, rfl, _, hk, _⟩
  · simp [Value.ownBlock] at e
  · have e' : k = b := by simpa [Value.ownBlock] using e
    subst e'
    have h2 : some (Obj.cells #[u] T (0, 0)) = some (Obj.cells cur 3 (0, 0)) := (show W.heap[k]? = some (Obj.cells #[u] T (0, 0)) from hb).symm.trans hk
    injection h2 with h2
    injection h2 with _ h2
    exact hT h2
theorem NtB.setI (h : NtB w0 w3 q s i l W) (i' : Nat) : NtB w0 w3 q s i' l (W.setCell ⟨w0, 0, none⟩ (.int .i64 (i' : Int))) := by
  obtain ⟨v, hv, ho⟩ := h.bo
  have hl := h.lw
  refine ⟨h.chg.trans (Chg.setCell W ⟨w0, 0, none⟩ _) fun b _ hne => hne, hl, h.rk.set _, h.bm.other (by omega) _, h.bd.other (by omega) _, v, hv.other (by omega) _, ownSet ho _ _ fun e => ?_⟩
  have := (ho.lt e).1
  simp only at this
  omega
set_option maxRecDepth 100000 in
/-- One number more. -/
theorem NtB.push (h : NtB w0 w3 q s i l W) (hl : l.length ≤ 64) (x s' : Nat) : ∃ v g2 n2 c2 Z, W.cell? ⟨w3.heap.size + 1 + 1 + 1, 0, none⟩ = some v ∧
    (Builtin.append_ #[25, 25] 25 #[v, .slice (some ⟨W.heap.size, 0, none⟩) 1 1]).run Tryd.prog (W.alloc (.cells #[.int .i64 (x : Int)] 3)) = .ok (.slice (some ⟨g2, 0, none⟩) n2 c2) Z ∧
    Z.frozen? ⟨w3.heap.size + 1 + 1 + 1, 0, none⟩ = false ∧ (∃ u, Z.cell? ⟨w3.heap.size + 1 + 1 + 1, 0, none⟩ = some u) ∧ Z.frozen? ⟨w3.heap.size + 1, 0, none⟩ = false ∧ (∃ u, Z.cell? ⟨w3.heap.size + 1, 0, none⟩ = some u) ∧
    NtB w0 w3 q s' i (l ++ [x]) ((Z.setCell ⟨w3.heap.size + 1 + 1 + 1, 0, none⟩ (.slice (some ⟨g2, 0, none⟩) n2 c2)).setCell ⟨w3.heap.size + 1, 0, none⟩ (.int .u64 (s' : Int))) ∧
    KeepsOthers W ((Z.setCell ⟨w3.heap.size + 1 + 1 + 1, 0, none⟩ (.slice (some ⟨g2, 0, none⟩) n2 c2)).setCell ⟨w3.heap.size + 1, 0, none⟩ (.int .u64 (s' : Int))) := by
  obtain ⟨v, hv, ho⟩ := h.bo
  obtain ⟨U, hU⟩ : ∃ U, W.alloc (.cells #[.int .i64 (x : Int)] 3) = U := ⟨_, rfl⟩
  have hbU : Below W.heap.size W U := by rw [← hU]; exact belowAlloc W _
  have hUn := h.below hbU
  have ho' : OwnI U (w3.heap.size + 1 + 1) v (l.map Int.ofNat) := by rw [← hU]; exact ho.alloc _
  have hvU : Boxed U (w3.heap.size + 1 + 1 + 1) 25 v := (hbU.block _ hv.lt).trans hv
  have hrU : Rd U (some ⟨W.heap.size, 0, none⟩) 1 [(x : Int)] := by rw [← hU]; exact litI W x
  obtain ⟨i0, hi, hz0, hz1, hz2⟩ := info_parts infoInt
  have hlen : (l.map Int.ofNat).length = l.length := List.length_map _
  have hzU := hUn.lt
  obtain ⟨v2, Z, hrun, hown, _, hgrow, _⟩ := runApp (P := Tryd.prog) U (w3.heap.size + 1 + 1) 25 25 3 i0 _ 8 Tryd.underlying25 hi hz0 hz1 hz2 rfl v _ _ ho' (some ⟨W.heap.size, 0, none⟩) 1 1 (iv [(x : Int)]) rfl hrU (ivOne _) (by rw [hlen]; omega) (by rw [hlen]; unfold maxLen; omega) (by omega)
  have hz := hUn.lt
  have hne3 : v.ownBlock ≠ some (w3.heap.size + 1 + 1 + 1) := ho'.apartBox hvU (by decide)
  have hlow : ∀ g, v.ownBlock = some g → w3.heap.size + 1 + 1 ≤ g := fun g hg => (ho'.lt hg).1
  have hc : Chg U Z (fun b => v.ownBlock ≠ some b) := Chg.ofGrown hgrow fun _ h => h
  have kb : ∀ {b : Nat} {T : TypeId} {u : Value}, Boxed U b T u → v.ownBlock ≠ some b → Boxed Z b T u := fun hb hn => (hc.block _ hb.lt hn).trans hb
  have hlw := h.lw
  have n0 : v.ownBlock ≠ some w0 := fun e => by have := hlow _ e; omega
  have n1 : v.ownBlock ≠ some w3.heap.size := fun e => by have := hlow _ e; omega
  have n2 : v.ownBlock ≠ some (w3.heap.size + 1) := fun e => by have := hlow _ e; omega
  have z0 := kb hUn.rk n0
  have z1 := kb hUn.bm n1
  have z2 := kb hUn.bd n2
  have z3 := kb hvU hne3
  have hown2 : OwnI Z (w3.heap.size + 1 + 1) v2 ((l ++ [x]).map Int.ofNat) := by
    unfold OwnI
    rw [List.map_append, List.length_append]
    have e : iv (List.map Int.ofNat l ++ List.map Int.ofNat [x]) = iv (List.map Int.ofNat l) ++ iv [(x : Int)] := by simp [iv]
    rw [e]
    exact hown
  obtain ⟨g2, n2, c2, rfl⟩ : ∃ g2 n2 c2, v2 = .slice (some ⟨g2, 0, none⟩) n2 c2 := by
    rcases hown.2 with ⟨_, h0⟩ | ⟨g2, cap, cur, h0, _⟩
    · omega
    · exact ⟨g2, _, cap, h0⟩
  refine ⟨v, g2, n2, c2, Z, hv.cell, by rw [hU]; exact hrun, z3.frozen, ⟨_, z3.cell⟩, z2.frozen, ⟨_, z2.cell⟩, ⟨?_, hlw, ?_, ?_, ?_, .slice (some ⟨g2, 0, none⟩) n2 c2, ?_, ?_⟩, ?_⟩
  · have c1 : Chg w3 Z (fun b => b ≠ w0) := hUn.chg.trans hc fun b hb _ e => by have := hlow _ e; omega
    exact (c1.trans (Chg.setCell Z ⟨w3.heap.size + 1 + 1 + 1, 0, none⟩ _) fun b hb _ => by show b ≠ w3.heap.size + 1 + 1 + 1; omega).trans (Chg.setCell _ ⟨w3.heap.size + 1, 0, none⟩ _) fun b hb _ => by show b ≠ w3.heap.size + 1; omega
  · exact (z0.other (by omega) _).other (by omega) _
  · exact (z1.other (by omega) _).other (by omega) _
  · exact (z2.other (by omega) _).set _
  · exact (z3.set _).other (by omega) _
  · refine ownSet (ownSet hown2 _ _ (hown2.apartBox z3 (by decide))) _ _ fun e => ?_
    have := (hown2.lt e).1
    simp only at this
    omega
  · have k1 : KeepsOthers W U := by rw [← hU]; exact KeepsOthers.alloc W _
    have k2 : KeepsOthers U Z := KeepsOthers.of_grownBy hgrow fun j o hj ho2 => by
      rcases ho'.2 with ⟨rfl, _⟩ | ⟨k, cap, cur, rfl, _, hk, _⟩
      · simp [Value.ownBlock] at hj
      · have e : k = j := by simpa [Value.ownBlock] using hj
        subst e
        rw [hk] at ho2
        injection ho2 with ho2
        subst ho2
        rfl
    exact ((k1.trans k2).trans (KeepsOthers.setCell _ _ _)).trans (KeepsOthers.setCell _ _ _)
/-- The table is no box. -/
theorem MapT.notBox {W : World} {q b : Nat} {D : List Nat} {V : Nat → Int} {T : TypeId} {v : Value} (h : MapT W q D V) (hb : Boxed W b T v) : q ≠ b := fun e => by
  obtain ⟨_, ⟨es, clock, hm, _⟩, _⟩ := h
  have h3 : W.heap[b]? = some (Obj.cells #[v] T (0, 0)) := hb
  rw [← e, hm] at h3
  cases h3
/-- What next reads is kept where the boxes of integers alone have changed. -/
theorem fixNe {N : Nat} {f : Nat → Nat → Bool} {g c b : Nat} {z : Int} {W W' : World} (h : FixG N f (some ⟨g, 0, none⟩) c W) (hN : 0 < N) (hb : Boxed W b 3 (.int .i64 z)) (hc : Chg W W' (fun q => q ≠ b)) : FixG N f (some ⟨g, 0, none⟩) c W' := by
  have hk := hb.cell
  have ht : 0 ≠ b := fun e => by
    have h0 := h.tbl 0 (by decide)
    have h1 : W.cell? ⟨b, 0, none⟩ = some (.int .u8 ((Lib.deBruijn64tab.getD 0 0 : Nat) : Int)) := by rw [← e]; exact h0
    rw [hk] at h1
    cases h1
  have hg : g ≠ b := fun e => by
    obtain ⟨ad, e1, _, h0⟩ := Rds.one h.bef (k := 0) (by simpa using hN)
    injection e1 with e1
    subst e1
    rw [e] at h0
    have h0' : W.cell? ⟨b, 0, none⟩ = _ := h0
    rw [hk] at h0'
    simp at h0'
  refine ⟨tblKeep h.tbl (hc.block _ h.tbl.block ht), h.bef.le, h.bef.max, fun hp => ?_⟩
  obtain ⟨ad, e1, lt, hcell⟩ := h.bef.at_ hp
  refine ⟨ad, e1, Nat.lt_of_lt_of_le lt hc.size, fun j u hu => (World.cell?_of_block ?_).trans (hcell j u hu)⟩
  rw [adB]
  refine hc.block _ lt ?_
  injection e1 with e1
  subst e1
  exact hg
end
end Go.Proofs.YtjioiaeiggjneaaDoor
