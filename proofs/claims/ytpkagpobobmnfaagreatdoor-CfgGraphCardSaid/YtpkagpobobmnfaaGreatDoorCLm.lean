/-
  Natural loops: where the back edges begin, the body of a loop; the specification's passes. Without any program.
-/
import Derived.Test.YtpkagpobobmnfaaGreatDoorCCv
namespace Go.Proofs.YtpkagpobobmnfaaGreatDoor

/-- Does a back edge of header h begin at x? -/
noncomputable def bgB (n : Nat) (g : Nat → List Nat) (h x : Nat) : Bool := decide (h ∈ g x) && dmB n g h x
/-- The search for the body enters it. -/
noncomputable def alh (n : Nat) (g : Nat → List Nat) (h x : Nat) : Bool := rcB n g (-1) x && decide (x ≠ h)
/-- Those of which x is a successor. -/
def pvr (n : Nat) (g : Nat → List Nat) (x : Nat) : List Nat := (List.range n).filter fun i => decide (x ∈ g i)
theorem pvrMem {n : Nat} {g : Nat → List Nat} {x i : Nat} : i ∈ pvr n g x ↔ i < n ∧ x ∈ g i := by unfold pvr; rw [List.mem_filter, List.mem_range, decide_eq_true_iff]
theorem alhIff {n : Nat} {g : Nat → List Nat} {h x : Nat} : alh n g h x = true ↔ rcB n g (-1) x = true ∧ x ≠ h := by unfold alh; rw [Bool.and_eq_true, decide_eq_true_iff]
theorem rcLt {n : Nat} {g : Nat → List Nat} {d : Int} {x : Nat} (h : rcB n g d x = true) : x < n := (avdIff.1 (rcIff.1 h).right).1
/-- Is x in the loop of h, x not h? -/
noncomputable def bdB (n : Nat) (g : Nat → List Nat) (h x : Nat) : Bool := @decide (∃ s, bgB n g h s = true ∧ Rc (pvr n g) (alh n g h) s x) (Classical.propDecidable _)
theorem bdIff {n : Nat} {g : Nat → List Nat} {h x : Nat} : bdB n g h x = true ↔ ∃ s, bgB n g h s = true ∧ Rc (pvr n g) (alh n g h) s x := by unfold bdB; exact @decide_eq_true_iff _ (Classical.propDecidable _)
/-- The loop of h: the header, and the others in order. -/
noncomputable def lpL (n : Nat) (g : Nat → List Nat) (h : Nat) : List Int := (h : Int) :: ((List.range n).filter (bdB n g h)).map Int.ofNat
/-- Does a back edge lead to h? -/
noncomputable def bkB (n : Nat) (g : Nat → List Nat) (h : Nat) : Bool := (List.range n).any (bgB n g h)
/-- The loops of the headers below k. -/
noncomputable def lpP (n : Nat) (g : Nat → List Nat) (k : Nat) : List (List Int) := ((List.range k).filter (bkB n g)).map (lpL n g)
theorem lpPS {n : Nat} {g : Nat → List Nat} {k : Nat} : lpP n g (k + 1) = lpP n g k ++ if bkB n g k = true then [lpL n g k] else [] := by
  unfold lpP
  rw [List.range_succ, List.filter_append, List.map_append, List.filter_cons, List.filter_nil]
  cases bkB n g k <;> rfl
section
variable {n : Nat} {g : Nat → List Nat} {h : Nat} {T E : Nat → Bool} {i p : Nat}
/-! The table in which the back edges' beginnings are noted. -/
/-! The passes. -/
end
/-! Two loops; the header dominates. -/
section
variable {n : Nat} {g : Nat → List Nat} {h : Nat}
end
end Go.Proofs.YtpkagpobobmnfaaGreatDoor

namespace Go.Proofs.YtpkagpobobmnfaaGreatDoor
open Go Go.RowKit Go.Shelf

theorem ownMono9 {w : World} {base base' : Nat} {v : Value} {l : List Int} (h : OwnI w base v l) (hb : base' ≤ base) : OwnI w base' v l := by
  unfold OwnI at h ⊢
  refine ⟨h.1, h.2.imp id ?_⟩
  rintro ⟨g, cap, cur, h1, h2, h3⟩
  exact ⟨g, cap, cur, h1, Nat.le_trans hb h2, h3⟩
end Go.Proofs.YtpkagpobobmnfaaGreatDoor

namespace Go.Proofs.YtpkagpobobmnfaaGreatDoor
open Go Go.RowKit Go.Shelf

theorem litV9 (w : World) (v : Value) (T : TypeId) : Rds (w.alloc (.cells #[v] T)) (some ⟨w.heap.size, 0, none⟩) 1 [v] :=
  ⟨Nat.le_refl _, by unfold maxLen; omega, fun _ => ⟨_, rfl, by simp, fun j u hu => by
    have hj : j = 0 := by
      have := (List.getElem?_eq_some_iff.1 hu).1
      simpa using this
    subst hj
    have : u = v := by simpa using hu.symm
    subst this
    exact (Blk.new w T #[u]).cell 0⟩⟩
theorem apart9 {w : World} {base base' : Nat} {F : Nat → Prop} {va : Value} {ws : List Value} (ho : OwnL w base' va ws) : ∀ {vs : List Value} {ls : List (List Int)}, IsL w base F vs ls → IsL w base (fun g => va.ownBlock ≠ some g) vs ls
  | [], [], _ => trivial
  | _ :: _, _ :: _, h => ⟨h.1, fun _ hg => ownApart h.1 ho (by decide) hg, apart9 ho h.2.2⟩
theorem lpPLen {n : Nat} {g : Nat → List Nat} {k : Nat} : (lpP n g k).length ≤ k := by
  unfold lpP
  rw [List.length_map]
  exact Nat.le_trans (List.length_filter_le _ _) (by simp)
/-- What Loops gives. -/
noncomputable def loR (C : List I8) : List (List Int) := if cfE C = 0 then lpP C.length (sc C) C.length else []
/-- The call gives a list of lists and an error. -/
def GivesQ9 (ls : List (List Int)) (k : Int) (w : World) (e : Ending) (w' : World) : Prop := ∃ A c, e = .returned (.tuple #[.slice A ls.length c, .int .i64 k]) ∧ RdL w' A c ls ∧ Below w.heap.size w w'
/-- The loops found so far. -/
structure LoSt (B0 : World) (n : Nat) (g : Nat → List Nat) (k : Nat) (v : Value) (X : World) : Prop where
  ex : ∃ vs, OwnL X B0.heap.size v vs ∧ IsL X B0.heap.size (fun _ => True) vs (lpP n g k)
  bel : Below B0.heap.size B0 X
theorem LoSt.below {B0 X Y : World} {n k : Nat} {g : Nat → List Nat} {v : Value} (h : LoSt B0 n g k v X) (hb : Below X.heap.size X Y) : LoSt B0 n g k v Y := by
  obtain ⟨⟨vs, h1, h2⟩, h3⟩ := h
  exact ⟨⟨vs, ownChg h1 (Chg.ofBelow hb fun _ => True) fun _ _ => trivial, h2.chg (Chg.ofBelow hb fun _ => True) fun _ _ _ => trivial⟩, belowThen h3 hb⟩
end Go.Proofs.YtpkagpobobmnfaaGreatDoor
