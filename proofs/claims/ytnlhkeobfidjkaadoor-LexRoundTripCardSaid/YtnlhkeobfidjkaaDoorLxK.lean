/-
  What Join returns: the texts of the tokens with what parts them.
-/
import Derived.Test.YtnlhkeobfidjkaaDoorLxJ
import Derived.Lib.UnsafeStr
namespace Go.Proofs.YtnlhkeobfidjkaaDoor
open Go Go.RowKit

/-- What Join has written before token k. -/
def cat (l : List Tok) : Nat → List UInt8
  | 0 => []
  | k + 1 => cat l k ++ (sepL l k ++ ((l[k]?).map (·.text)).getD [])
theorem catNext {l : List Tok} {k : Nat} (h : k < l.length) : cat l (k + 1) = cat l k ++ (sepL l k ++ l[k].text) := by
  rw [cat, List.getElem?_eq_getElem h]; rfl
theorem catMono (l : List Tok) {j k : Nat} (h : j ≤ k) : (cat l j).length ≤ (cat l k).length := by
  induction h with
  | refl => exact Nat.le_refl _
  | step _ ih => rw [cat, List.length_append]; omega
theorem sepLe (l : List Tok) (k : Nat) : (sepL l k).length ≤ 1 := by
  unfold sepL
  split
  · exact Nat.zero_le _
  · split
    · exact Nat.zero_le _
    · exact Nat.le_refl _
theorem catLe {l : List Tok} (h : ∀ t ∈ l, t.text.length ≤ 140737488351232) : ∀ k, k ≤ l.length → (cat l k).length ≤ k * 140737488351233
  | 0, _ => by simp [cat]
  | k + 1, hk => by
    have h1 := catLe h k (by omega)
    have h2 := sepLe l k
    have h3 := h _ (List.getElem_mem (show k < l.length by omega))
    rw [catNext (by omega), List.length_append, List.length_append]
    omega
/-- The result of Join (P9.2). -/
def joinR (l : List Tok) : List UInt8 × Int := if l.all okB9 then (if (cat l l.length).length > 16384 then ([], 4) else (cat l l.length, 0)) else ([], 14)
theorem joinBad {l : List Tok} {k : Nat} (hk : k < l.length) (h : okB9 l[k] = false) : joinR l = ([], 14) := by
  have : l.all okB9 = false := by
    rw [← Bool.not_eq_true, List.all_eq_true]
    intro h2
    rw [h2 _ (List.getElem_mem hk)] at h; cases h
  unfold joinR; rw [this]; rfl
theorem joinAll {l : List Tok} (h : ∀ i (_ : i < l.length), okB9 l[i] = true) : l.all okB9 = true := by
  rw [List.all_eq_true]
  intro t ht
  obtain ⟨i, hi, rfl⟩ := List.getElem_of_mem ht
  exact h i hi
theorem joinLong {l : List Tok} (h : ∀ i (_ : i < l.length), okB9 l[i] = true) {k : Nat} (hk : k ≤ l.length) (h2 : 16384 < (cat l k).length) : joinR l = ([], 4) := by
  have := catMono l hk
  unfold joinR; rw [joinAll h, if_pos rfl, if_pos (by omega)]
theorem joinOk {l : List Tok} (h : ∀ i (_ : i < l.length), okB9 l[i] = true) (h2 : (cat l l.length).length ≤ 16384) : joinR l = (cat l l.length, 0) := by
  unfold joinR; rw [joinAll h, if_pos rfl, if_neg (by omega)]
/-- The call gives what Join returns. -/
def GivesJ (r : List UInt8 × Int) (w : World) (e : Ending) (w' : World) : Prop := e = .returned (.tuple #[.string (bs r.1), .int .i64 r.2]) ∧ Below w.heap.size w w'
theorem givesJ {r x : List UInt8 × Int} {w w' : World} {s : ByteArray} {z : Int} (h : r = x) (h1 : bs x.1 = s) (h2 : x.2 = z) (hb : Below w.heap.size w w') : GivesJ r w (.returned (.tuple #[.string s, .int .i64 z])) w' := by
  subst h; subst h1; subst h2; exact ⟨rfl, hb⟩
theorem tokEq (t : Tok) {s : ByteArray} (h : bs t.text = s) : (⟨t.kind, s.data.toList, t.n, t.pos⟩ : Tok) = t := by
  rw [← h, bsTo]
theorem okNext {l : List Tok} {k : Nat} (h : ∀ i (_ : i < l.length), i < k → okB9 l[i] = true) (hk : k < l.length) (h2 : okB9 l[k] = true) : ∀ i (_ : i < l.length), i < k + 1 → okB9 l[i] = true := by
  intro i hi hik
  rcases Nat.lt_or_ge i k with h3 | h3
  · exact h i hi h3
  · have e : i = k := by omega
    subst e; exact h2
theorem strBs {l : List UInt8} {s : ByteArray} (h : bs l = s) : Lib.strCells s = Lib.byteCells l := by
  rw [← h, Lib.strCells_eq, bsTo]
end Go.Proofs.YtnlhkeobfidjkaaDoor
