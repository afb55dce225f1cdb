/-
  append onto an empty slice: a copy in new memory, whatever the elements are. Without the program's functions.
-/
import Derived.Test.YtiaendggmamnkaaGreatDoorEWp
import Derived.Test.YtiaendggmamnkaaGreatDoorEOw
import Derived.Maps.AppendAt
import Derived.Test.YtiaendggmamnkaaGreatDoorEAsW
import Derived.OwnWalk
import Derived.Lib.AppendZeros
import Derived.KernelRfl
namespace Go.Proofs.YtiaendggmamnkaaGreatDoor
open Go Go.RowKit

/-- m cells of type e that are new since block base. -/
def FreshRow (w : World) (base : Nat) (A : Option Addr) (m : Nat) (e : TypeId) : Prop := 0 < m → ∃ g cur, A = some ⟨g, 0, none⟩ ∧ base ≤ g ∧ w.heap[g]? = some (.cells cur e (0, 0)) ∧ m ≤ cur.size
theorem FreshRow.below {w w' : World} {base m : Nat} {A : Option Addr} {e : TypeId} (h : FreshRow w base A m e) (hb : Below w.heap.size w w') : FreshRow w' base A m e := fun hm => by
  obtain ⟨g, cur, e1, e2, e3, e4⟩ := h hm
  exact ⟨g, cur, e1, e2, (hb.block g (Array.getElem?_eq_some_iff.1 e3).1).trans e3, e4⟩
theorem FreshRow.mono {w : World} {base base' m : Nat} {A : Option Addr} {e : TypeId} (h : FreshRow w base A m e) (hb : base' ≤ base) : FreshRow w base' A m e := fun hm => by
  obtain ⟨g, cur, e1, e2, e3, e4⟩ := h hm
  exact ⟨g, cur, e1, Nat.le_trans hb e2, e3, e4⟩
/-- A kind of elements that is told by its k cells, and by older memory. -/
structure Told {α : Type} (k : Nat) (E : World → Nat → Nat → α → Prop) : Prop where
  cells : ∀ {w : World} {b o : Nat} {x : α}, E w b o x → ∀ j, j < k → (w.cell? ⟨b, o + j, none⟩).isSome = true
  copy : ∀ {w w' : World} {b o b' o' : Nat} {x : α}, E w b o x → Below w.heap.size w w' → (∀ j, j < k → w'.cell? ⟨b', o' + j, none⟩ = w.cell? ⟨b, o + j, none⟩) → E w' b' o' x
theorem toldS : Told 1 ES := ⟨fun {w b o x} h j hj => by
    have : j = 0 := by omega
    subst this
    unfold ES at h
    rw [Nat.add_zero, h]; rfl, fun {w w' b o b' o' x} h _ hc => by
    have := hc 0 (by omega)
    unfold ES at h ⊢
    rwa [Nat.add_zero, Nat.add_zero, h] at this⟩
theorem toldV : Told 2 EV := ⟨fun {w b o x} h j hj => by
    rcases (by omega : j = 0 ∨ j = 1) with rfl | rfl
    · rw [Nat.add_zero, h.1]; rfl
    · rw [h.2]; rfl, fun {w w' b o b' o' x} h _ hc => by
    have h0 := hc 0 (by omega)
    have h1 := hc 1 (by omega)
    rw [Nat.add_zero, Nat.add_zero, h.1] at h0
    rw [h.2] at h1
    exact ⟨h0, h1⟩⟩
/-- What a copy gives. -/
def GoodCp {α : Type} (k : Nat) (E : World → Nat → Nat → α → Prop) (e : TypeId) (l : List α) (n : Nat) (w : World) (v : Value) (w' : World) : Prop :=
  ∃ A c, v = .slice A n c ∧ RdE k E w' A c l ∧ FreshRow w' w.heap.size A (n * k) e ∧ Below w.heap.size w w'
section
variable {P : Program} (w : World) {α : Type} {k : Nat} {E : World → Nat → Nat → α → Prop}
theorem cpNone (t ty e : TypeId) (i : TypeInfo) (ht : P.underlying t = some (.slice e)) (hi : P.info? e = some i) (A0 A : Option Addr) (c : Nat) :
    (Builtin.append_ #[t, t] ty #[.slice A0 0 0, .slice A 0 c]).run P w = .ok (.slice A0 0 0) w := by
  cases A0 <;> cases A <;> simp [Builtin.append_, run_underlying ht, sizeOf, typeInfo, hi, Builtin.lenOf, Builtin.firstCells, storeCells, loadCells, loadCellsFrom]
/-- append of all elements of a slice onto an empty one without room. -/
theorem runCp (hE : Told k E) (t ty e : TypeId) (i : TypeInfo) (z : Value) (ht : P.underlying t = some (.slice e)) (hi : P.info? e = some i) (hz : i.zero = some z) (hsize : i.size = k)
    (A0 A : Option Addr) (l : List α) (n c : Nat) (hn : l.length = n) (hr : RdE k E w A c l) (hby : n * i.bytes ≤ 140737488355328) :
    ∃ v w', (Builtin.append_ #[t, t] ty #[.slice A0 0 0, .slice A n c]).run P w = .ok v w' ∧ GoodCp k E e l n w v w' := by
  rcases Nat.eq_zero_or_pos n with h0 | h0
  · subst h0
    have : l = [] := List.eq_nil_of_length_eq_zero hn
    subst this
    exact ⟨_, _, cpNone w t ty e i ht hi A0 A c, A0, 0, rfl, ⟨Nat.le_refl _, Nat.zero_le _, fun h => absurd h (by simp)⟩, (fun h => absurd h (by omega)), Below.refl _ _⟩
  · obtain ⟨b, off, rfl, hb, hc⟩ := hr.at_ (by omega)
    have hle := hr.le
    have hmx := hr.max
    rw [hn] at hle
    unfold maxLen at hmx
    obtain ⟨cs, hcs⟩ : ∃ cs : List Value, cs = (List.range (n * k)).map fun j => (w.cell? ⟨b, off + j, none⟩).getD undef := ⟨_, rfl⟩
    have hlen : cs.length = n * k := by rw [hcs]; simp
    have hall : ∀ j, j < n * k → w.cell? ⟨b, off + j, none⟩ = some (cs.getD j undef) := fun j hj => by
      have hk : 0 < k := by rcases Nat.eq_zero_or_pos k with h | h; · subst h; simp at hj
                            · exact h
      have hq : j / k < l.length := by rw [hn]; exact Nat.div_lt_of_lt_mul (by rwa [Nat.mul_comm])
      have h1 := hE.cells (hc (j / k) hq) (j % k) (Nat.mod_lt _ hk)
      have e1 : off + j / k * k + j % k = off + j := by have := Nat.div_add_mod j k; rw [Nat.mul_comm] at this; omega
      rw [e1] at h1
      rw [hcs, List.getD_eq_getElem?_getD, List.getElem?_map, List.getElem?_range hj]
      simp only [Option.map_some, Option.getD_some]
      obtain ⟨u, hu⟩ := Option.isSome_iff_exists.1 h1
      rw [hu]; rfl
    have hnews : ∀ j v, cs[j]? = some v → w.cell? ((⟨b, off, none⟩ : Addr).add j) = some v := fun j v hv => by
      have hj : j < n * k := by rw [← hlen]; exact (List.getElem?_eq_some_iff.1 hv).1
      rw [Addr.add_lit, hall j hj, List.getD_eq_getElem?_getD, hv]; rfl
    have hfin : ∀ (cap : Nat) (zs : Array Value), n ≤ cap → cap ≤ maxLen → GoodCp k E e l n w (.slice (some ⟨w.heap.size, 0, none⟩) n cap) (w.drew.alloc (.cells (cs.toArray ++ zs) e)) := fun cap zs h1 h2 => by
      have hbl : Below w.heap.size w (w.drew.alloc (.cells (cs.toArray ++ zs) e)) := (Below.refl w.heap.size w).drew.alloc (Nat.le_refl _) _
      have hnew : (w.drew.alloc (.cells (cs.toArray ++ zs) e)).heap[w.heap.size]? = some (.cells (cs.toArray ++ zs) e (0, 0)) := heap_alloc_new w.drew _
      refine ⟨_, _, rfl, ⟨by rw [hn]; exact h1, h2, fun _ => ⟨w.heap.size, 0, rfl, (Array.getElem?_eq_some_iff.1 hnew).1, fun j hj => ?_⟩⟩, fun _ => ⟨_, _, rfl, Nat.le_refl _, hnew, ?_⟩, hbl⟩
      · refine hE.copy (hc j hj) hbl fun q hq => ?_
        have hjq : j * k + q < n * k := by
          have : (j + 1) * k ≤ n * k := Nat.mul_le_mul_right k (by omega)
          rw [Nat.add_mul, Nat.one_mul] at this
          omega
        rw [cell_of_row _ _ _ _ e (0, 0) hnew, Nat.zero_add, show off + j * k + q = off + (j * k + q) by omega, hall _ hjq, Array.getElem?_append_left (by simpa [hlen] using hjq)]
        rw [List.getElem?_toArray, List.getD_eq_getElem?_getD, List.getElem?_eq_getElem (by rw [hlen]; exact hjq)]
        rfl
      · simp [hlen]
    cases A0 with
    | none =>
      have hrun := run_append_nil (P := P) w t ty e i z ht hi hz ⟨b, off, none⟩ n c cs (by rw [hlen, hsize]) hnews h0 (by omega) (by omega)
      exact ⟨_, _, hrun, hfin _ _ (grownCap_ge w n 0 e) (grownCap_le_maxLen w n 0 e (by unfold maxLen; omega))⟩
    | some a0 =>
      have hrun := run_append_grow (P := P) w t ty e i z ht hi hz a0 0 0 [] (by simp) (fun j v h => by simp at h) ⟨b, off, none⟩ n c cs (by rw [hlen, hsize]) hnews (by omega) (by omega) (growslice_fits (by omega) (by rw [Nat.zero_add]; exact hby))
      rw [Nat.zero_add] at hrun
      simp only [Array.empty_append] at hrun
      exact ⟨_, _, hrun, hfin _ _ (grownCap_ge w n 0 e) (grownCap_le_maxLen w n 0 e (by unfold maxLen; omega))⟩
end
end Go.Proofs.YtiaendggmamnkaaGreatDoor

namespace Go.Proofs.YtiaendggmamnkaaGreatDoor
open Go Go.RowKit

theorem toldX : ∀ d, Told 5 (EX d)
  | 0 => ⟨fun h => h.elim, fun h => h.elim⟩
  | d + 1 => ⟨fun {w b o x} h j hj => by
    obtain ⟨h0, h1, h2, h3, _, v, h4, _⟩ := h
    rcases (by omega : j = 0 ∨ j = 1 ∨ j = 2 ∨ j = 3 ∨ j = 4) with rfl | rfl | rfl | rfl | rfl
    · rw [Nat.add_zero, h0]; rfl
    · rw [h1]; rfl
    · rw [h2]; rfl
    · rw [h3]; rfl
    · rw [h4]; rfl, fun {w w' b o b' o' x} h hb hc => by
    obtain ⟨h0, h1, h2, h3, hs, v, h4, h5⟩ := h
    have g0 := hc 0 (by omega)
    rw [Nat.add_zero, Nat.add_zero, h0] at g0
    exact ⟨g0, (hc 1 (by omega)).trans h1, (hc 2 (by omega)).trans h2, (hc 3 (by omega)).trans h3, hs, v, (hc 4 (by omega)).trans h4, h5.below (stabX d) hb⟩⟩
theorem toldM (dx : Nat) : ∀ d, Told 9 (EM dx d)
  | 0 => ⟨fun h => h.elim, fun h => h.elim⟩
  | d + 1 => ⟨fun {w b o x} h j hj => by
    obtain ⟨h0, h1, h2, h3, h4, h5, ⟨v6, h6, _⟩, ⟨v7, h7, _⟩, v8, h8, _⟩ := h
    rcases (by omega : j = 0 ∨ j = 1 ∨ j = 2 ∨ j = 3 ∨ j = 4 ∨ j = 5 ∨ j = 6 ∨ j = 7 ∨ j = 8) with rfl | rfl | rfl | rfl | rfl | rfl | rfl | rfl | rfl
    · rw [Nat.add_zero, h0]; rfl
    · rw [h1]; rfl
    · rw [h2]; rfl
    · rw [h3]; rfl
    · rw [h4]; rfl
    · rw [h5]; rfl
    · rw [h6]; rfl
    · rw [h7]; rfl
    · rw [h8]; rfl, fun {w w' b o b' o' x} h hb hc => by
    obtain ⟨h0, h1, h2, h3, h4, h5, ⟨v6, h6, r6⟩, ⟨v7, h7, r7⟩, v8, h8, r8⟩ := h
    have g0 := hc 0 (by omega)
    rw [Nat.add_zero, Nat.add_zero, h0] at g0
    exact ⟨g0, (hc 1 (by omega)).trans h1, (hc 2 (by omega)).trans h2, (hc 3 (by omega)).trans h3, (hc 4 (by omega)).trans h4, (hc 5 (by omega)).trans h5, ⟨v6, (hc 6 (by omega)).trans h6, r6.below (stabX dx) hb⟩, ⟨v7, (hc 7 (by omega)).trans h7, r7.below (stabM dx d) hb⟩, v8, (hc 8 (by omega)).trans h8, r8.below (stabM dx d) hb⟩⟩
theorem infoAV : (Tryz.prog.info? 56).map (fun i => (i.zero, i.size, i.bytes)) = some (some (.agg #[.string ⟨#[]⟩, .int .i64 0]), 2, 24) := by kernel_rfl
theorem iCopy16V (l : List (ByteArray × Int)) (n c : Nat) (hn : l.length = n) (hs : n ≤ 4000000) (A : Option Addr) (w : World) (hr : RdE 2 EV w A c l) :
    Calls Tryz.prog 62 #[.slice A n c] w fun e w' => ∃ v, e = .returned v ∧ GoodCp 2 EV 56 l n w v w' := by
  obtain ⟨v, w1, hrun, hg⟩ : ∃ v w', (Builtin.append_ #[22, 22] 22 #[.slice none 0 0, .slice A n c]).run Tryz.prog w = .ok v w' ∧ GoodCp 2 EV 56 l n w v w' := by
    obtain ⟨i0, hi, hz0, hz1, hz2⟩ := info_parts infoAV
    exact runCp w toldV 22 22 56 i0 _ Tryz.underlying22 hi hz0 hz1 none A l n c hn hr (by rw [hz2]; omega)
  have HG := Lib.hid hg
  clear hg hr hn hs
  go_enter Tryz.func62, Tryz.ntmps62
  go_wp2_with (at_builtin; refine Lib.wpList_append_run _ rfl _ _ _ _ rfl _ _ rfl rfl _ _ hrun ?_)
  go_ret
  exact ⟨v, rfl, HG.out⟩
theorem infoAS : (Tryz.prog.info? 9).map (fun i => (i.zero, i.size, i.bytes)) = some (some (.string ⟨#[]⟩), 1, 16) := by kernel_rfl
theorem iCopy16S (l : List ByteArray) (n c : Nat) (hn : l.length = n) (hs : n ≤ 4000000) (A : Option Addr) (w : World) (hr : RdE 1 ES w A c l) :
    Calls Tryz.prog 63 #[.slice A n c] w fun e w' => ∃ v, e = .returned v ∧ GoodCp 1 ES 9 l n w v w' := by
  obtain ⟨v, w1, hrun, hg⟩ : ∃ v w', (Builtin.append_ #[23, 23] 23 #[.slice none 0 0, .slice A n c]).run Tryz.prog w = .ok v w' ∧ GoodCp 1 ES 9 l n w v w' := by
    obtain ⟨i0, hi, hz0, hz1, hz2⟩ := info_parts infoAS
    exact runCp w toldS 23 23 9 i0 _ Tryz.underlying23 hi hz0 hz1 none A l n c hn hr (by rw [hz2]; omega)
  have HG := Lib.hid hg
  clear hg hr hn hs
  go_enter Tryz.func63, Tryz.ntmps63
  go_wp2_with (at_builtin; refine Lib.wpList_append_run _ rfl _ _ _ _ rfl _ _ rfl rfl _ _ hrun ?_)
  go_ret
  exact ⟨v, rfl, HG.out⟩
theorem infoAH : (Tryz.prog.info? 73).map (fun i => (i.zero, i.size, i.bytes)) = some (some (.agg #[.string ⟨#[]⟩, .int .i64 0]), 2, 24) := by kernel_rfl
theorem iCopy16H (l : List (ByteArray × Int)) (n c : Nat) (hn : l.length = n) (hs : n ≤ 4000000) (A : Option Addr) (w : World) (hr : RdE 2 EV w A c l) :
    Calls Tryz.prog 65 #[.slice A n c] w fun e w' => ∃ v, e = .returned v ∧ GoodCp 2 EV 73 l n w v w' := by
  obtain ⟨v, w1, hrun, hg⟩ : ∃ v w', (Builtin.append_ #[25, 25] 25 #[.slice none 0 0, .slice A n c]).run Tryz.prog w = .ok v w' ∧ GoodCp 2 EV 73 l n w v w' := by
    obtain ⟨i0, hi, hz0, hz1, hz2⟩ := info_parts infoAH
    exact runCp w toldV 25 25 73 i0 _ Tryz.underlying25 hi hz0 hz1 none A l n c hn hr (by rw [hz2]; omega)
  have HG := Lib.hid hg
  clear hg hr hn hs
  go_enter Tryz.func65, Tryz.ntmps65
  go_wp2_with (at_builtin; refine Lib.wpList_append_run _ rfl _ _ _ _ rfl _ _ rfl rfl _ _ hrun ?_)
  go_ret
  exact ⟨v, rfl, HG.out⟩
end Go.Proofs.YtiaendggmamnkaaGreatDoor
