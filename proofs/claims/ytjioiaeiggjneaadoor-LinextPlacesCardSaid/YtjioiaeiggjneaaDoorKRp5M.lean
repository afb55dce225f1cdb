/-
  The specification's way to tell a linear extension, by positions: the same as by what can follow. Without any program.
-/
import Derived.Test.YtjioiaeiggjneaaDoorKRkS
import Derived.Test.YtjioiaeiggjneaaDoorKLinW
import Derived.Test.YtjioiaeiggjneaaDoorKLinY
namespace Go.Proofs.YtjioiaeiggjneaaDoor
open Go

/-- The place of a number in a list, from k on, or -1. -/
def posN : List Int → Int → Nat → Int
  | [], _, _ => -1
  | a :: t, x, k => if a = x then (k : Int) else posN t x (k + 1)
def posI (o : List Int) (x : Int) : Int := posN o x 0
theorem posDrop {o : List Int} {x : Int} {k : Nat} (hk : k < o.length) : posN (o.drop k) x k = if o[k] = x then (k : Int) else posN (o.drop (k + 1)) x (k + 1) := by
  rw [List.drop_eq_getElem_cons hk, posN]
theorem posEnd {o : List Int} {x : Int} {k : Nat} (hk : o.length ≤ k) : posN (o.drop k) x k = -1 := by rw [List.drop_of_length_le hk]; rfl
theorem posSpecN : ∀ (o : List Int) (x : Int) (k : Nat), (x ∉ o ∧ posN o x k = -1) ∨ ∃ i, ∃ h : i < o.length, posN o x k = ((k + i : Nat) : Int) ∧ o[i] = x ∧ ∀ j (hj : j < o.length), j < i → o[j] ≠ x
  | [], x, k => .inl ⟨by simp, rfl⟩
  | a :: t, x, k => by
    by_cases ha : a = x
    · exact .inr ⟨0, by simp, by rw [posN, if_pos ha]; rfl, ha, fun j _ hj => by omega⟩
    · rcases posSpecN t x (k + 1) with ⟨h1, h2⟩ | ⟨i, hi, h1, h2, h3⟩
      · exact .inl ⟨by simp [h1]; exact fun e => ha e.symm, by rw [posN, if_neg ha]; exact h2⟩
      · refine .inr ⟨i + 1, by simpa using hi, by rw [posN, if_neg ha, h1]; congr 1; omega, by simpa using h2, fun j hj hji => ?_⟩
        rcases j with _ | j
        · exact ha
        · simpa using h3 j (by simpa using hj) (by omega)
theorem posSpec (o : List Int) (x : Int) : (x ∉ o ∧ posI o x = -1) ∨ ∃ i, ∃ h : i < o.length, posI o x = (i : Int) ∧ o[i] = x ∧ ∀ j (hj : j < o.length), j < i → o[j] ≠ x := by
  rcases posSpecN o x 0 with h | ⟨i, hi, h1, h2⟩
  · exact .inl h
  · exact .inr ⟨i, hi, by unfold posI; rw [h1, Nat.zero_add], h2⟩
theorem posMem {o : List Int} {x : Int} : posI o x < 0 ↔ x ∉ o := by
  rcases posSpec o x with ⟨h1, h2⟩ | ⟨i, hi, h1, h2, _⟩
  · rw [h2]; simp [h1]
  · rw [h1]
    constructor
    · intro h; omega
    · intro h; exact absurd (h2 ▸ List.getElem_mem hi) h
theorem posBound {o : List Int} {x : Int} : -1 ≤ posI o x ∧ posI o x < o.length ∨ posI o x = -1 := by
  rcases posSpec o x with ⟨h1, h2⟩ | ⟨i, hi, h1, h2, _⟩
  · exact .inr h2
  · rw [h1]; left; omega
theorem nodupLeA {α : Type} [DecidableEq α] : ∀ {l m : List α}, l.Nodup → (∀ x ∈ l, x ∈ m) → l.length ≤ m.length
  | [], _, _, _ => Nat.zero_le _
  | a :: l, m, hn, h => by
    have ha := h a (by simp)
    have h1 := List.nodup_cons.1 hn
    have h2 : l.length ≤ (m.erase a).length := nodupLeA h1.2 fun x hx => by
      have hne : x ≠ a := fun e => by subst e; exact h1.1 hx
      exact (List.mem_erase_of_ne hne).2 (h x (by simp [hx]))
    rw [List.length_erase_of_mem ha] at h2
    have := List.length_pos_of_mem ha
    rw [List.length_cons]
    omega
/-- Does the specification take the list for a linear extension? -/
def isR (N : Int) (l : Prs) (o : List Int) : Bool := okR N l && (decide ((o.length : Int) = N) && ((List.range N.toNat).all (fun n => decide (0 ≤ posI o n)) && l.all (fun p => decide (posI o p.1 < posI o p.2))))
theorem okIAll {N : Nat} {f : Nat → Nat → Bool} : ∀ {o : List Int} {s : Nat}, okI N f s o = true ↔ ∀ k (h : k < o.length), 0 ≤ o[k] ∧ o[k].toNat ∈ nxtL N f ((nats (o.take k)).foldl addS s)
  | [], s => by simp [okI]
  | a :: t, s => by
    rw [okI, Bool.and_eq_true, Bool.and_eq_true, decide_eq_true_iff, nxtSBit, decide_eq_true_iff, okIAll]
    constructor
    · rintro ⟨⟨h1, h2⟩, h3⟩ k hk
      rcases k with _ | k
      · exact ⟨h1, h2⟩
      · have := h3 k (by simpa using hk)
        simpa [nats] using this
    · intro h
      refine ⟨h 0 (by simp), fun k hk => ?_⟩
      have := h (k + 1) (by simpa using hk)
      simpa [nats] using this
theorem okIff0 {N : Nat} {f : Nat → Nat → Bool} {o : List Int} : okI N f 0 o = true ↔ ∀ k (h : k < o.length), 0 ≤ o[k] ∧ o[k].toNat < N ∧ o[k].toNat ∉ nats (o.take k) ∧ ∀ p, p < N → f p o[k].toNat = true → p ∈ nats (o.take k) := by
  rw [okIAll]
  refine forall_congr' fun k => forall_congr' fun h => and_congr_right fun _ => ?_
  rw [nxtMem, canIff, foldBit, Nat.zero_testBit, Bool.false_or, decide_eq_false_iff_not]
  refine and_congr_right fun _ => and_congr_right fun _ => ?_
  refine forall_congr' fun p => forall_congr' fun _ => forall_congr' fun _ => ?_
  rw [foldBit, Nat.zero_testBit, Bool.false_or, decide_eq_true_iff]
theorem natsTake {o : List Int} {k p : Nat} : p ∈ nats (o.take k) ↔ ∃ j, ∃ h : j < o.length, j < k ∧ o[j].toNat = p := by
  unfold nats
  rw [List.mem_map]
  constructor
  · rintro ⟨x, hx, rfl⟩
    obtain ⟨j, hj, rfl⟩ := List.getElem_of_mem hx
    have hj' : j < k ∧ j < o.length := by rw [List.length_take] at hj; omega
    exact ⟨j, hj'.2, hj'.1, by rw [List.getElem_take]⟩
  · rintro ⟨j, h1, h2, rfl⟩
    exact ⟨o[j], by rw [List.mem_take_iff_getElem]; exact ⟨j, by omega, rfl⟩, rfl⟩
theorem hasPIff {l : Prs} {a b : Nat} : hasP l a b = true ↔ ((a : Int), (b : Int)) ∈ l := by unfold hasP; rw [decide_eq_true_iff]
theorem isEq (N : Int) (l : Prs) (o : List Int) : isR N l o = isB N l o := by
  unfold isR isB allowB
  cases hk : okR N l
  · rfl
  rw [Bool.true_and, Bool.true_and]
  have hk2 : 0 ≤ N ∧ N ≤ 64 ∧ ∀ p ∈ l, 0 ≤ p.1 ∧ p.1 < N ∧ 0 ≤ p.2 ∧ p.2 < N := by unfold okR at hk; exact of_decide_eq_true hk
  obtain ⟨m, rfl⟩ : ∃ m : Nat, N = m := ⟨N.toNat, by omega⟩
  have hm : (m : Int).toNat = m := rfl
  rw [hm]
  by_cases hl : o.length = m
  case neg =>
    rw [decide_eq_false (show ¬ ((o.length : Int) = m) by omega), decide_eq_false hl]
    rfl
  rw [decide_eq_true (show (o.length : Int) = m by omega), decide_eq_true hl, Bool.true_and, Bool.true_and]
  rw [Bool.eq_iff_iff, Bool.and_eq_true, List.all_eq_true, List.all_eq_true, okIff0]
  constructor
  · rintro ⟨h1, h2⟩
    have hin : ∀ n, n < m → (n : Int) ∈ o := fun n hn => by
      have := h1 n (List.mem_range.2 hn)
      rw [decide_eq_true_iff] at this
      exact Decidable.byContradiction fun h => by have := posMem.2 h; omega
    -- no place can be left out
    have hkey : ∀ k, k < o.length → ¬ ∀ n, n < m → ∃ i, ∃ h : i < o.length, i ≠ k ∧ o[i] = (n : Int) := fun k hk hall => by
      have := nodupLeA (l := (List.range m).map Int.ofNat) (m := o.eraseIdx k) (List.Pairwise.map _ (fun a b hab e => hab (Int.ofNat.inj e)) List.nodup_range) fun x hx => by
        obtain ⟨n, hn, rfl⟩ := List.mem_map.1 hx
        obtain ⟨i, hi, hik, e⟩ := hall n (List.mem_range.1 hn)
        exact List.mem_eraseIdx_iff_getElem.2 ⟨i, hi, hik, e⟩
      rw [List.length_map, List.length_range, List.length_eraseIdx_of_lt hk] at this
      omega
    have hrng : ∀ k (h : k < o.length), 0 ≤ o[k] ∧ o[k] < m := fun k hk => by
      refine Decidable.byContradiction fun hn => hkey k hk fun n hnm => ?_
      obtain ⟨i, hi, e⟩ := List.getElem_of_mem (hin n hnm)
      refine ⟨i, hi, fun hik => hn ?_, e⟩
      subst hik
      rw [e]; omega
    have hdis : ∀ j k (hj : j < o.length) (hk : k < o.length), j < k → o[j] ≠ o[k] := fun j k hj hk hjk e => by
      refine hkey k hk fun n hnm => ?_
      obtain ⟨i, hi, e2⟩ := List.getElem_of_mem (hin n hnm)
      by_cases hik : i = k
      · subst hik
        exact ⟨j, hj, by omega, e.trans e2⟩
      · exact ⟨i, hi, hik, e2⟩
    have hpos : ∀ k (hk : k < o.length), posI o o[k] = (k : Int) := fun k hk => by
      rcases posSpec o o[k] with ⟨h, _⟩ | ⟨i, hi, h3, h4, h5⟩
      · exact absurd (List.getElem_mem hk) h
      · rcases Nat.lt_trichotomy i k with h | h | h
        · exact absurd h4 (hdis i k hi hk h)
        · rw [h3, h]
        · exact absurd rfl (h5 k hk h)
    intro k hk
    have hr := hrng k hk
    refine ⟨hr.1, by omega, fun hmem => ?_, fun p hp hf => ?_⟩
    · obtain ⟨j, hj, hjk, e⟩ := natsTake.1 hmem
      have hr2 := hrng j hj
      exact hdis j k hj hk hjk (by omega)
    · have hmem := hasPIff.1 hf
      have h3 := h2 _ hmem
      rw [decide_eq_true_iff] at h3
      have e1 : (((o[k].toNat : Nat)) : Int) = o[k] := by omega
      simp only [e1, hpos k hk] at h3
      rcases posSpec o (p : Int) with ⟨h, _⟩ | ⟨i, hi, h4, h5, _⟩
      · exact absurd (hin p hp) h
      · rw [h4] at h3
        exact natsTake.2 ⟨i, hi, by omega, by rw [h5]; rfl⟩
  · intro h
    have hdis : ∀ j k (hj : j < o.length) (hk : k < o.length), j < k → o[j].toNat ≠ o[k].toNat := fun j k hj hk hjk e => (h k hk).2.2.1 (natsTake.2 ⟨j, hj, hjk, e⟩)
    have hnd : (nats o).Nodup := by
      unfold nats List.Nodup
      rw [List.pairwise_iff_getElem]
      intro i j hi hj hij
      rw [List.getElem_map, List.getElem_map]
      exact hdis i j (by simpa using hi) (by simpa using hj) hij
    have hin : ∀ n, n < m → n ∈ nats o := fun n hn => Decidable.byContradiction fun hno => by
      have := nodupLeA (l := n :: nats o) (m := List.range m) (List.nodup_cons.2 ⟨hno, hnd⟩) fun x hx => by
        rcases List.mem_cons.1 hx with rfl | hx
        · exact List.mem_range.2 hn
        · unfold nats at hx
          obtain ⟨y, hy, rfl⟩ := List.mem_map.1 hx
          obtain ⟨k, hk, rfl⟩ := List.getElem_of_mem hy
          exact List.mem_range.2 (h k hk).2.1
      unfold nats at this
      rw [List.length_cons, List.length_map, List.length_range] at this
      omega
    have hat : ∀ n, n < m → ∃ k, ∃ hk : k < o.length, o[k] = (n : Int) := fun n hn => by
      have := hin n hn
      unfold nats at this
      obtain ⟨y, hy, e⟩ := List.mem_map.1 this
      obtain ⟨k, hk, rfl⟩ := List.getElem_of_mem hy
      exact ⟨k, hk, by have := (h k hk).1; omega⟩
    have hpos : ∀ k (hk : k < o.length), posI o o[k] = (k : Int) := fun k hk => by
      rcases posSpec o o[k] with ⟨h1, _⟩ | ⟨i, hi, h3, h4, h5⟩
      · exact absurd (List.getElem_mem hk) h1
      · rcases Nat.lt_trichotomy i k with h1 | h1 | h1
        · exact absurd (by rw [h4]) (hdis i k hi hk h1)
        · rw [h3, h1]
        · exact absurd rfl (h5 k hk h1)
    refine ⟨fun n hn => ?_, fun p hp => ?_⟩
    · obtain ⟨k, hk, e⟩ := hat n (List.mem_range.1 hn)
      rw [decide_eq_true_iff, ← e, hpos k hk]
      omega
    · have hr := hk2.2.2 p hp
      obtain ⟨k, hkl, e⟩ := hat p.2.toNat (by omega)
      have e2 : ((p.2.toNat : Nat) : Int) = p.2 := by omega
      rw [e2] at e
      have h3 := (h k hkl).2.2.2 p.1.toNat (by omega) (by
        rw [e]
        refine hasPIff.2 ?_
        have e1 : ((p.1.toNat : Nat) : Int) = p.1 := by omega
        rw [e1, e2]
        exact hp)
      obtain ⟨j, hj, hjk, e3⟩ := natsTake.1 h3
      have e4 : o[j] = p.1 := by have := (h j hj).1; omega
      rw [decide_eq_true_iff, ← e, ← e4, hpos k hkl, hpos j hj]
      omega
end Go.Proofs.YtjioiaeiggjneaaDoor
