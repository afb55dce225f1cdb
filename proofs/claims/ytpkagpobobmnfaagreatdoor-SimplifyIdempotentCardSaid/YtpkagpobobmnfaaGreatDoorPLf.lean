/-
  Iterators of Loops that read one row alone; what a loop over headers leaves.
-/
import Derived.Test.YtpkagpobobmnfaaGreatDoorPCb
import Derived.Test.YtpkagpobobmnfaaGreatDoorPAr
import Derived.Test.YtpkagpobobmnfaaGreatDoorPOwn
import Derived.Test.YtpkagpobobmnfaaGreatDoorPCg
import Derived.BigRegionIn
import Derived.Test.YtpkagpobobmnfaaGreatDoorPCv
import Derived.Test.YtpkagpobobmnfaaGreatDoorPCt
import Derived.Test.YtpkagpobobmnfaaGreatDoorPCc
import Derived.Test.YtpkagpobobmnfaaGreatDoorPG3
import Derived.Test.YtpkagpobobmnfaaGreatDoorPOp
import Derived.Test.YtpkagpobobmnfaaGreatDoorPMk
import Derived.Test.YtpkagpobobmnfaaGreatDoorProg
import Derived.Test.YtpkagpobobmnfaaGreatDoorRows
import Derived.Deep.QuietTactic
import Derived.BigQuiet
import Derived.Outline
import Derived.LoopTactic
import Derived.Test.YtpkagpobobmnfaaGreatDoorPIU
import Derived.ArgAppend
import Derived.Lib.AppendZeros
import Derived.Test.YtpkagpobobmnfaaGreatDoorPInT
namespace Go.Proofs.YtpkagpobobmnfaaGreatDoor
open Go Go.RowKit Go.Shelf

theorem rdPlain9 {w : World} {A : Option Addr} {c : Nat} {l : List Int} (h : Rd w A c l) (hl : 0 < l.length) : ∃ b off, A = some ⟨b, off, none⟩ ∧ b < w.heap.size ∧ ∀ j (_ : j < l.length), w.cell? ⟨b, off + j, none⟩ = some (.int .i64 (l.getD j 0)) := by
  obtain ⟨⟨b, off, spot⟩, e, hb, hc⟩ := Rds.at_ h (by simpa using hl)
  have h0 := hc 0 (.int .i64 l[0]) (by simp [List.getElem?_eq_getElem hl])
  have hspot : spot = none := by simpa [Addr.add] using World.cell?_spot h0
  subst hspot
  refine ⟨b, off, e, hb, fun j hj => ?_⟩
  have := hc j (.int .i64 l[j]) (by simp [List.getElem?_eq_getElem hj])
  rw [Addr.add_lit] at this
  rw [this]
  simp [List.getD, hj]
theorem containsB9 (l : List Int) (n : Int) : l.contains n = memB l n := by
  rw [Bool.eq_iff_iff]; simp [memB]
theorem iContains9 (l : List Int) (m : Nat) (hm : l.length = m) (n : Int) (r : Bool) (hr : memB l n = r) (A : Option Addr) (c : Nat) (w : World) (ha : Rd w A c l) :
    Calls Tryz.prog 44 #[.slice A m c, .int .i64 n] w fun e w' => e = .returned (.bool r) ∧ w = w' := by
  subst hr
  subst hm
  rcases Nat.eq_zero_or_pos l.length with h0 | h0
  · obtain rfl : l = [] := List.eq_nil_of_length_eq_zero h0
    exact (Tryz.slices_Contains_int_empty A c n w).mono fun e w' ⟨h1, h2⟩ => ⟨by rw [h1]; rfl, h2.symm⟩
  · obtain ⟨b, off, rfl, _, hc⟩ := rdPlain9 ha h0
    have h1 := ha.le
    have h2 := ha.max
    unfold maxLen at h2
    refine (Tryz.slices_Contains_int b off l.length c l n w (Nat.le_refl _) (by omega) hc).mono fun e w' ⟨h1, h2⟩ => ⟨by rw [h1, List.take_length, containsB9], h2.symm⟩
/-! What lies in memory while a loop is laid down: the body sorted; the header too; both in one row; that row in a list; the list appended. -/
end Go.Proofs.YtpkagpobobmnfaaGreatDoor

namespace Go.Proofs.YtpkagpobobmnfaaGreatDoor
open Go Go.RowKit Go.Shelf

theorem cellsOf {X : World} {base n : Nat} {g : Nat} {vs : List Value} {T : TypeId} {m : Nat} (h : X.ownsRow base T 1 (.slice (some ⟨g, 0, none⟩) n m) n vs) : ∃ o, X.heap[g]? = some o ∧ o.isCells = true := by
  rcases h.2 with ⟨h2, _⟩ | ⟨g', cap, cur, e, _, hg, _⟩
  · simp at h2
  · injection e with e
    injection e with e
    injection e with e
    subst e
    exact ⟨_, hg, rfl⟩
section
variable {C : List I8} {ex : Bool} {n : Nat} {w X Y : World} {A : Option Addr} {c : Nat} {T : Nat → Int → Bool}
end
end Go.Proofs.YtpkagpobobmnfaaGreatDoor

namespace Go.Proofs.YtpkagpobobmnfaaGreatDoor
open Go Go.RowKit

def icC (i : I8) : List Value := [.int .i64 i.op, .int .i64 i.a, .int .i64 i.b, .int .i64 i.c, .int .i64 i.obj, .int .i64 i.n, .int .i64 i.fn, .int .i64 i.ord]
def icCs : List I8 → List Value
  | [] => []
  | p :: l => .int .i64 p.op :: .int .i64 p.a :: .int .i64 p.b :: .int .i64 p.c :: .int .i64 p.obj :: .int .i64 p.n :: .int .i64 p.fn :: .int .i64 p.ord :: icCs l
theorem icCsLen : ∀ l, (icCs l).length = l.length * 8
  | [] => rfl
  | p :: l => by
    have := icCsLen l
    simp only [icCs, List.length_cons]
    omega
theorem icCsApp : ∀ a b, icCs (a ++ b) = icCs a ++ icCs b
  | [], b => rfl
  | p :: a, b => by simp only [List.cons_append, icCs, icCsApp a b]
theorem icCsAt : ∀ (l : List I8) (j : Nat) (h : j < l.length) (i : Nat), i < 8 → (icCs l)[j * 8 + i]? = (icC l[j])[i]?
  | p :: l, 0, _, i, hi => by
    have : i = 0 ∨ i = 1 ∨ i = 2 ∨ i = 3 ∨ i = 4 ∨ i = 5 ∨ i = 6 ∨ i = 7 := by omega
    rcases this with rfl | rfl | rfl | rfl | rfl | rfl | rfl | rfl <;> rfl
  | p :: l, j + 1, h, i, hi => by
    have := icCsAt l j (by simpa using h) i hi
    rw [icCs, show (j + 1) * 8 + i = j * 8 + i + 1 + 1 + 1 + 1 + 1 + 1 + 1 + 1 by omega]
    simp only [List.getElem?_cons_succ, List.getElem_cons_succ]
    exact this
theorem icCsOne : ∀ l : List I8, ∀ u ∈ icCs l, u.oneCell' = true
  | [], u, h => by cases h
  | p :: l, u, h => by
    rw [icCs] at h
    simp only [List.mem_cons] at h
    rcases h with rfl | rfl | rfl | rfl | rfl | rfl | rfl | rfl | h
    all_goals first
      | rfl
      | exact icCsOne l u h
theorem infoIns : (Tryz.prog.info? 55).map (fun i => (i.zero, i.size, i.bytes)) = some (some (.agg #[.int .i64 0, .int .i64 0, .int .i64 0, .int .i64 0, .int .i64 0, .int .i64 0, .int .i64 0, .int .i64 0]), 8, 64) := by kernel_rfl
/-- The instructions L in a row of the call's own. -/
def OwnC8 (w : World) (base : Nat) (v : Value) (L : List I8) : Prop := w.ownsRow base 55 8 v L.length (icCs L)
section
variable {w X : World} {base : Nat} {v : Value} {L : List I8}
theorem OwnC8.nil (w : World) (base : Nat) : OwnC8 w base (.slice none 0 0) [] := World.ownsRow_nil _ _ _ _
theorem OwnC8.chg {F : Nat → Prop} (h : OwnC8 w base v L) (hc : Chg w X F) (hF : ∀ g, v.ownBlock = some g → F g) : OwnC8 X base v L := by
  refine ⟨h.1, ?_⟩
  rcases h.2 with h2 | ⟨g, cap, cur, rfl, hb, hg, r⟩
  · exact .inl h2
  · exact .inr ⟨g, cap, cur, rfl, hb, (hc.block g (World.ownsRow.lt h g rfl).2 (hF g rfl)).trans hg, r⟩
theorem OwnC8.below (h : OwnC8 w base v L) (hb : Below w.heap.size w X) : OwnC8 X base v L := h.chg (Chg.ofBelow hb fun _ => True) fun _ _ => trivial
theorem OwnC8.rd (h : OwnC8 w base v L) : ∃ A c, v = .slice A L.length c ∧ RdE 8 EI w A c L := by
  have hown := h
  rcases h.2 with ⟨rfl, h0⟩ | ⟨g, cap, cur, rfl, hb, hg, hcp, hm, hs, ht⟩
  · have : L = [] := List.eq_nil_of_length_eq_zero h0
    subst this
    exact ⟨none, 0, rfl, RdE.nil⟩
  · refine ⟨some ⟨g, 0, none⟩, cap, rfl, hcp, hm, fun _ => ⟨g, 0, rfl, (World.ownsRow.lt hown g rfl).2, fun j hj => ?_⟩⟩
    have hcell : ∀ i, i < 8 → w.cell? ⟨g, 0 + j * 8 + i, none⟩ = (icC L[j])[i]? := fun i hi => by
      have h5 := icCsAt L j hj i hi
      have hu : ∃ u, (icC L[j])[i]? = some u := ⟨_, List.getElem?_eq_getElem (show i < (icC L[j]).length from hi)⟩
      obtain ⟨u, hu⟩ := hu
      rw [hu] at h5 ⊢
      have h6 := World.ownsRow.cells hown (g := g) rfl (j * 8 + i) u h5
      rw [Addr.add_lit] at h6
      rw [show 0 + j * 8 + i = 0 + (j * 8 + i) by omega]
      exact h6
    exact ⟨hcell 0 (by omega), hcell 1 (by omega), hcell 2 (by omega), hcell 3 (by omega), hcell 4 (by omega), hcell 5 (by omega), hcell 6 (by omega), hcell 7 (by omega)⟩
/-- append of an instruction. -/
theorem OwnC8.push (h : OwnC8 w base v L) (hL : L.length ≤ 1000) (hbase : base ≤ w.heap.size) {i : I8} {g : Nat} (hg : Blk w g 55 (icC i).toArray) (ty : TypeId) :
    ∃ v' w', (Builtin.append_ #[22, 22] ty #[v, .slice (some ⟨g, 0, none⟩) 1 1]).run Tryz.prog w = .ok v' w' ∧ OwnC8 w' base v' (L ++ [i]) ∧ w.grownBy w' v.ownBlock ∧ (v'.ownBlock = v.ownBlock ∨ v'.ownBlock = some w.heap.size) := by
  obtain ⟨i0, hi, hz0, hz1, hz2⟩ := info_parts infoIns
  have hnews : ∀ j u, (icCs [i])[j]? = some u → w.cell? ((⟨g, 0, none⟩ : Addr).add j) = some u := by
    intro j u hu
    have hj : j < 8 := by have := (List.getElem?_eq_some_iff.1 hu).1; rw [icCsLen] at this; simpa using this
    have := icCsAt [i] 0 (by simp) j hj
    rw [Nat.zero_mul, Nat.zero_add] at this
    rw [this] at hu
    rw [Addr.add_lit, Nat.zero_add, hg.cell j]
    rw [List.getElem?_toArray]
    exact hu
  obtain ⟨v', w', hrun, k1, hgr, _, hblk⟩ := run_append_own_at (P := Tryz.prog) w base 22 ty 55 i0 _ 8 64 Tryz.underlying22 hi hz0 hz1 hz2 rfl (by decide) v L.length (icCs L) h ⟨g, 0, none⟩ 1 1 (icCs [i]) (by rw [icCsLen]; rfl) hnews (icCsOne _) (by unfold maxLen; omega) (by omega) hbase
  exact ⟨v', w', hrun, by unfold OwnC8; rw [icCsApp, List.length_append]; exact k1, hgr, hblk⟩
end
end Go.Proofs.YtpkagpobobmnfaaGreatDoor
