/-
  The exit's row, filled register by register.
-/
import Derived.Test.YtkanamdfjegcbaaDoorCLfRd
namespace Go.Proofs.YtkanamdfjegcbaaDoor
open Go Go.RowKit Go.Shelf

def rL (r : Nat) : List Int := (List.range r).map Int.ofNat
theorem rLLen (r : Nat) : (rL r).length = r := by simp [rL]
theorem rLUp (r : Nat) : rL (r + 1) = rL r ++ [(r : Int)] := by unfold rL; rw [List.range_succ, List.map_append]; rfl
/-- The table with the first r registers at the exit. -/
def tR (n r : Nat) (k : Nat) (x : Int) : Bool := decide (k = n) && decide (0 ≤ x ∧ x < (r : Int))
theorem tRZero (n : Nat) : (fun k => tR n 0 k) = fun _ _ => false := by
  funext k x
  unfold tR
  rw [Bool.and_eq_false_iff]
  exact .inr (decide_eq_false (by omega))
theorem tROff {n r j : Nat} (h : j ≠ n) : rgL (tR n r j) = [] := by
  have e : tR n r j = fun _ => false := by funext x; unfold tR; rw [decide_eq_false h, Bool.false_and]
  rw [e]; rfl
theorem tRAt {n r : Nat} (h : r ≤ 8) : rgL (tR n r n) = rL r := by
  have e : tR n r n = fun x => decide (0 ≤ x ∧ x < (r : Int)) := by funext x; unfold tR; rw [decide_eq_true rfl, Bool.true_and]
  rw [e]
  rcases (by omega : r = 0 ∨ r = 1 ∨ r = 2 ∨ r = 3 ∨ r = 4 ∨ r = 5 ∨ r = 6 ∨ r = 7 ∨ r = 8) with rfl | rfl | rfl | rfl | rfl | rfl | rfl | rfl | rfl <;> decide
theorem tRStart {C : List I8} {n : Nat} (hn : C.length = n) : LfT C true (tR n 8) := by
  have h := lfStart (C := C) (ex := true)
  have e : (fun (k : Nat) (r : Int) => decide (k = C.length) && (true && rgB r)) = tR n 8 := by
    funext k r
    unfold tR rgB
    rw [hn, Bool.true_and]
    rfl
  rw [e] at h
  exact h
theorem RvSt.only {T T' : Nat → Int → Bool} {n1 k : Nat} {w0 X Y : World} (h : RvSt T n1 w0 X) (hk : k < n1) (d : Below (w0.heap.size + 1) X Y) (hs : X.heap.size ≤ Y.heap.size) (hT : ∀ j, j ≠ k → rgL (T j) = []) (hT' : ∀ j, j ≠ k → rgL (T' j) = []) {l : List Int} (hl : rgL (T' k) = l) {A : Option Addr} {c : Nat} (hr : Rd Y A c l) :
    RvSt T' n1 w0 (Y.setCell ⟨w0.heap.size, k, none⟩ (.slice A l.length c)) := by
  obtain ⟨⟨vs, h1, h2, h3, h4⟩, h5⟩ := h
  have hc0 : Chg X Y (fun q => q < w0.heap.size + 1) := ⟨d.os, d.tape, d.output, hs, fun q _ hq => d.block q hq⟩
  have h2' := ownChg h2 hc0 (fun q hq => by
    have : w0.heap.size = q := by simpa [Value.ownBlock] using hq
    show q < _; omega)
  have h5' : Below w0.heap.size w0 Y := ⟨d.os.trans h5.os, d.tape.trans h5.tape, d.output.trans h5.output, Nat.le_trans h5.size hs, fun q hq => (d.block q (by omega)).trans (h5.block q hq)⟩
  have hc := chgSet Y ⟨w0.heap.size, k, none⟩ (.slice A l.length c)
  have hrd : ∀ {A1 : Option Addr} {c1 : Nat} {l1 : List Int}, Rd Y A1 c1 l1 → Rd (Y.setCell ⟨w0.heap.size, k, none⟩ (.slice A l.length c)) A1 c1 l1 := fun {A1 c1 l1} hr => by
    refine Rd.chg hr hc fun ad e hl => ?_
    obtain ⟨ad', e', _, hcell⟩ := hr.one hl
    rw [e] at e'
    injection e' with e'
    subst e'
    have := slNot9 h2' h3 hcell (fun _ _ _ e => by cases e)
    rw [addBlock] at this
    exact this
  refine ⟨⟨vs.set k (.slice A l.length c), by rw [List.length_set]; exact h1, (World.ownsRow.stored h2' k (.slice A l.length c)).1, fun v hv => ?_, fun j hjn => ?_⟩, ⟨hc.os.trans h5'.os, hc.tape.trans h5'.tape, hc.output.trans h5'.output, Nat.le_trans h5'.size hc.size, fun q hq => (hc.block q (Nat.lt_of_lt_of_le hq h5'.size) (show q ≠ w0.heap.size by omega)).trans (h5'.block q hq)⟩⟩
  · rcases List.mem_or_eq_of_mem_set hv with hv | rfl
    · exact h3 v hv
    · exact ⟨_, _, _, rfl⟩
  · by_cases e : j = k
    · subst e
      rw [hl]
      exact ⟨A, c, by rw [List.getElem?_set_self (by omega)], hrd hr⟩
    · obtain ⟨A1, c1, e1, hr1⟩ := h4 j hjn
      rw [hT j e] at e1 hr1
      rw [hT' j e]
      exact ⟨A1, c1, by rw [List.getElem?_set_ne (fun h => e h.symm)]; exact e1, ⟨Nat.zero_le _, hr1.max, fun h0 => absurd h0 (by simp)⟩⟩
end Go.Proofs.YtkanamdfjegcbaaDoor
