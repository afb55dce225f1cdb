/-
  Plain facts about the clocks of a message log: how they are made, that their order is reachability. Without any program.
-/
import Derived.Test.YtdppccipajfamaaAgMath
namespace Go.Proofs.Ytdppccipajfamaa

/-- The clock of the last event of x among the first k. -/
def lastUp (ag : List Int) (S : List Ck) (x : Int) : Nat → Ck
  | 0 => []
  | j + 1 => if ag.getD j 0 = x then S.getD j [] else lastUp ag S x j
/-- The clock that event k receives. -/
def rcv (fr : List Int) (S : List Ck) (k : Nat) : Ck := if 0 ≤ fr.getD k 0 then S.getD (fr.getD k 0).toNat [] else []
/-- The clock of event k. -/
def nx (ag fr : List Int) (S : List Ck) (k : Nat) : Ck := advC (joinC (lastUp ag S (ag.getD k 0) k) (rcv fr S k)) (ag.getD k 0)
/-- The clocks of the first k events. -/
def stA (ag fr : List Int) : Nat → List Ck
  | 0 => []
  | k + 1 => stA ag fr k ++ [nx ag fr (stA ag fr k) k]
theorem stLen (ag fr : List Int) : ∀ k, (stA ag fr k).length = k
  | 0 => rfl
  | k + 1 => by rw [stA, List.length_append, stLen ag fr k]; rfl
/-- The clock of event k. -/
def cl (ag fr : List Int) (k : Nat) : Ck := nx ag fr (stA ag fr k) k
theorem stGet (ag fr : List Int) : ∀ k j, j < k → (stA ag fr k).getD j [] = cl ag fr j
  | 0, _, h => by omega
  | k + 1, j, h => by
    rw [stA]
    by_cases e : j < k
    · rw [← stGet ag fr k j e, List.getD_eq_getElem?_getD, List.getD_eq_getElem?_getD, List.getElem?_append_left (by rw [stLen]; exact e)]
    · obtain rfl : j = k := by omega
      rw [List.getD_eq_getElem?_getD, List.getElem?_append_right (by rw [stLen]; exact Nat.le_refl _), stLen]
      simp [cl]
theorem stAt (ag fr : List Int) (k j : Nat) (h : j < (stA ag fr k).length) : (stA ag fr k)[j] = cl ag fr j := by
  rw [← stGet ag fr k j (by rwa [stLen] at h), List.getD_eq_getElem?_getD, List.getElem?_eq_getElem h]; rfl
/-- The clock of the last event of x among the first k, by the clocks of the log. -/
def lst (ag fr : List Int) (x : Int) : Nat → Ck
  | 0 => []
  | j + 1 => if ag.getD j 0 = x then cl ag fr j else lst ag fr x j
theorem lastLst (ag fr : List Int) (x : Int) (n : Nat) : ∀ k, k ≤ n → lastUp ag (stA ag fr n) x k = lst ag fr x k
  | 0, _ => rfl
  | k + 1, h => by rw [lastUp, lst, stGet ag fr n k (by omega), lastLst ag fr x n k (by omega)]
/-- The clock that event k receives, by the clocks of the log. -/
def rc (ag fr : List Int) (k : Nat) : Ck := if 0 ≤ fr.getD k 0 then cl ag fr (fr.getD k 0).toNat else []
/-- A message log: each event receives from an earlier one, or from none. -/
def Log (fr : List Int) (n : Nat) : Prop := ∀ k, k < n → -1 ≤ fr.getD k 0 ∧ fr.getD k 0 < k
theorem clEq {ag fr : List Int} {n : Nat} (hl : Log fr n) {k : Nat} (hk : k < n) : cl ag fr k = advC (joinC (lst ag fr (ag.getD k 0) k) (rc ag fr k)) (ag.getD k 0) := by
  have h := hl k hk
  rw [cl, nx, lastLst ag fr _ k k (Nat.le_refl _), rcv, rc]
  split
  · rw [stGet ag fr k _ (by omega)]
  · rfl
theorem vlCl (ag fr : List Int) (k : Nat) : VL (cl ag fr k) := vlJoin _ _
theorem vlLst (ag fr : List Int) (x : Int) : ∀ k, VL (lst ag fr x k)
  | 0 => vlNil
  | k + 1 => by
    rw [lst]; split
    · exact vlCl _ _ _
    · exact vlLst ag fr x k
theorem vlRc (ag fr : List Int) (k : Nat) : VL (rc ag fr k) := by
  unfold rc; split
  · exact vlCl _ _ _
  · exact vlNil
theorem joinNil {c : Ck} (hc : VL c) : joinC c [] = c := vlExt (vlJoin _ _) hc fun x => by
  rw [cntJoin hc vlNil]
  have := cntBd hc x
  show max (cnt c x) 0 = cnt c x
  omega
theorem lstCases (ag fr : List Int) (x : Int) : ∀ k, (lst ag fr x k = [] ∧ ∀ j, j < k → ag.getD j 0 ≠ x) ∨ ∃ j, j < k ∧ ag.getD j 0 = x ∧ lst ag fr x k = cl ag fr j ∧ ∀ i, i < k → ag.getD i 0 = x → i ≤ j
  | 0 => Or.inl ⟨rfl, fun j h => by omega⟩
  | k + 1 => by
    rw [lst]
    split
    · rename_i e
      exact Or.inr ⟨k, by omega, e, rfl, fun i hi _ => by omega⟩
    · rename_i e
      rcases lstCases ag fr x k with ⟨h1, h2⟩ | ⟨j, h1, h2, h3, h4⟩
      · exact Or.inl ⟨h1, fun j hj => by
          by_cases ej : j = k
          · subst ej; exact e
          · exact h2 j (by omega)⟩
      · exact Or.inr ⟨j, by omega, h2, h3, fun i hi ei => by
          by_cases ej : i = k
          · subst ej; exact absurd ei e
          · exact h4 i (by omega) ei⟩
/-- The counts: how large, and which. -/
theorem clCnt {ag fr : List Int} {n : Nat} (hl : Log fr n) (hn : n ≤ 1000000) : ∀ k, k < n → (∀ y, cnt (cl ag fr k) y ≤ k + 1) ∧ ∀ y, cnt (cl ag fr k) y = max (cnt (lst ag fr (ag.getD k 0) k) y) (cnt (rc ag fr k) y) + if ag.getD k 0 = y then 1 else 0 := by
  intro k
  induction k using Nat.strongRecOn with
  | _ k ih =>
    intro hk
    have hlast : ∀ y, cnt (lst ag fr (ag.getD k 0) k) y ≤ k := fun y => by
      rcases lstCases ag fr (ag.getD k 0) k with ⟨h1, _⟩ | ⟨j, h1, _, h3, _⟩
      · rw [h1]; show (0 : Int) ≤ k; omega
      · rw [h3]; have := (ih j h1 (by omega)).1 y; omega
    have hrc : ∀ y, cnt (rc ag fr k) y ≤ k := fun y => by
      unfold rc
      split
      · have h := hl k hk
        have := (ih (fr.getD k 0).toNat (by omega) (by omega)).1 y
        omega
      · show (0 : Int) ≤ k; omega
    have hj : ∀ y, cnt (joinC (lst ag fr (ag.getD k 0) k) (rc ag fr k)) y = max (cnt (lst ag fr (ag.getD k 0) k) y) (cnt (rc ag fr k) y) := cntJoin (vlLst _ _ _ _) (vlRc _ _ _)
    have e := clEq (ag := ag) hl hk
    have ha := (advSays (vlJoin (lst ag fr (ag.getD k 0) k) (rc ag fr k)) (x := ag.getD k 0) (by rw [hj]; have := hlast (ag.getD k 0); have := hrc (ag.getD k 0); omega)).2
    have h2 : ∀ y, cnt (cl ag fr k) y = max (cnt (lst ag fr (ag.getD k 0) k) y) (cnt (rc ag fr k) y) + if ag.getD k 0 = y then 1 else 0 := fun y => by rw [e, ha, hj]
    refine ⟨fun y => ?_, h2⟩
    rw [h2]
    have := hlast y
    have := hrc y
    split <;> omega

/-- Event j can be reached from event i by at most s steps. -/
def rchIn (ag fr : List Int) (i : Nat) : Nat → Nat → Prop
  | 0, j => j = i
  | s + 1, j => rchIn ag fr i s j ∨ ∃ k, rchIn ag fr i s k ∧ k < j ∧ (ag.getD k 0 = ag.getD j 0 ∨ fr.getD j 0 = (k : Int))
/-- Event j can be reached from event i. -/
def Rch (ag fr : List Int) (i j : Nat) : Prop := ∃ s, rchIn ag fr i s j
theorem Rch.here {ag fr : List Int} {i : Nat} : Rch ag fr i i := ⟨0, rfl⟩
theorem Rch.step {ag fr : List Int} {i k j : Nat} (h : Rch ag fr i k) (hlt : k < j) (hor : ag.getD k 0 = ag.getD j 0 ∨ fr.getD j 0 = (k : Int)) : Rch ag fr i j := by
  obtain ⟨s, hs⟩ := h
  exact ⟨s + 1, Or.inr ⟨k, hs, hlt, hor⟩⟩
theorem Rch.last {ag fr : List Int} {i j : Nat} (h : Rch ag fr i j) : j = i ∨ ∃ k, Rch ag fr i k ∧ k < j ∧ (ag.getD k 0 = ag.getD j 0 ∨ fr.getD j 0 = (k : Int)) := by
  obtain ⟨s, hs⟩ := h
  induction s with
  | zero => exact Or.inl hs
  | succ s ih =>
    rcases hs with hs | ⟨k, hk, hlt, hor⟩
    · exact ih hs
    · exact Or.inr ⟨k, ⟨s, hk⟩, hlt, hor⟩
theorem rchLe {ag fr : List Int} {i : Nat} : ∀ {j : Nat}, Rch ag fr i j → i ≤ j := by
  intro j
  induction j using Nat.strongRecOn with
  | _ j ih =>
    intro h
    rcases h.last with rfl | ⟨k, hk, hlt, _⟩
    · exact Nat.le_refl _
    · have := ih k hlt hk; omega
theorem rchUp {ag fr : List Int} {n : Nat} (hl : Log fr n) (hn : n ≤ 1000000) : ∀ j, j < n → ∀ i, Rch ag fr i j → ∀ y, cnt (cl ag fr i) y ≤ cnt (cl ag fr j) y := by
  intro j
  induction j using Nat.strongRecOn with
  | _ j ih =>
    intro hj i hr y
    rcases hr.last with rfl | ⟨k, hk, hlt, hor⟩
    · exact Int.le_refl _
    · have h1 := ih k hlt (by omega) i hk y
      have hc := (clCnt (ag := ag) hl hn j hj).2 y
      suffices h : cnt (cl ag fr k) y ≤ cnt (cl ag fr j) y by omega
      rcases hor with e | e
      · rcases lstCases ag fr (ag.getD j 0) j with ⟨_, h2⟩ | ⟨j0, g1, g2, g3, g4⟩
        · exact absurd e (h2 k hlt)
        · have hle := g4 k hlt e
          have h3 : cnt (cl ag fr k) y ≤ cnt (cl ag fr j0) y := by
            by_cases ej : k = j0
            · subst ej; exact Int.le_refl _
            · exact ih j0 g1 (by omega) k (.step .here (by omega) (Or.inl (by rw [e, g2]))) y
          rw [g3] at hc
          split at hc <;> omega
      · have h2 : rc ag fr j = cl ag fr k := by unfold rc; rw [e, if_pos (by omega)]; rfl
        rw [h2] at hc
        split at hc <;> omega
theorem ownPos {ag fr : List Int} {n : Nat} (hl : Log fr n) (hn : n ≤ 1000000) {i : Nat} (hi : i < n) : 1 ≤ cnt (cl ag fr i) (ag.getD i 0) := by
  have h := (clCnt (ag := ag) hl hn i hi).2 (ag.getD i 0)
  rw [if_pos rfl] at h
  have := cntBd (vlRc ag fr i) (ag.getD i 0)
  omega
theorem ownUp {ag fr : List Int} {n : Nat} (hl : Log fr n) (hn : n ≤ 1000000) {i j : Nat} (hij : i < j) (hj : j < n) (e : ag.getD i 0 = ag.getD j 0) : cnt (cl ag fr i) (ag.getD i 0) < cnt (cl ag fr j) (ag.getD i 0) := by
  have h := (clCnt (ag := ag) hl hn j hj).2 (ag.getD i 0)
  rw [if_pos e.symm] at h
  rcases lstCases ag fr (ag.getD j 0) j with ⟨_, h2⟩ | ⟨j0, g1, g2, g3, g4⟩
  · exact absurd e (h2 i hij)
  · have hle := g4 i hij e
    have h3 : cnt (cl ag fr i) (ag.getD i 0) ≤ cnt (cl ag fr j0) (ag.getD i 0) := by
      by_cases ej : i = j0
      · subst ej; exact Int.le_refl _
      · exact rchUp hl hn j0 (by omega) i (.step .here (by omega) (Or.inl (by rw [e, g2]))) _
    rw [g3] at h
    omega
theorem rchOf {ag fr : List Int} {n : Nat} (hl : Log fr n) (hn : n ≤ 1000000) {i : Nat} (hi : i < n) : ∀ j, j < n → cnt (cl ag fr i) (ag.getD i 0) ≤ cnt (cl ag fr j) (ag.getD i 0) → Rch ag fr i j := by
  intro j
  induction j using Nat.strongRecOn with
  | _ j ih =>
    intro hj hle
    by_cases e : ag.getD j 0 = ag.getD i 0
    · rcases Nat.lt_trichotomy i j with h | h | h
      · exact .step .here h (Or.inl e.symm)
      · subst h; exact .here
      · have := ownUp (ag := ag) hl hn h hi e
        rw [e] at this
        omega
    · have hc := (clCnt (ag := ag) hl hn j hj).2 (ag.getD i 0)
      rw [if_neg e] at hc
      have hp := ownPos (ag := ag) hl hn hi
      by_cases h1 : cnt (cl ag fr i) (ag.getD i 0) ≤ cnt (lst ag fr (ag.getD j 0) j) (ag.getD i 0)
      · rcases lstCases ag fr (ag.getD j 0) j with ⟨g, _⟩ | ⟨j0, g1, g2, g3, _⟩
        · rw [g] at h1
          have h0 : cnt [] (ag.getD i 0) = 0 := rfl
          omega
        · rw [g3] at h1
          exact .step (ih j0 g1 (by omega) h1) g1 (Or.inl g2)
      · have h2 : cnt (cl ag fr i) (ag.getD i 0) ≤ cnt (rc ag fr j) (ag.getD i 0) := by omega
        unfold rc at h2
        split at h2
        · rename_i hf
          have h := hl j hj
          exact .step (ih (fr.getD j 0).toNat (by omega) (by omega) h2) (by omega) (Or.inr (by omega))
        · have h0 : cnt [] (ag.getD i 0) = 0 := rfl
          omega
theorem causal {ag fr : List Int} {n : Nat} (hl : Log fr n) (hn : n ≤ 1000000) {i j : Nat} (hi : i < n) (hj : j < n) : leB (cl ag fr i) (cl ag fr j) = true ↔ Rch ag fr i j := by
  rw [leIff (vlCl _ _ _) (vlCl _ _ _)]
  exact ⟨fun h => rchOf hl hn hi j hj (h _), fun h => rchUp hl hn j hj i h⟩

/-! How long the clocks are. -/
theorem subLen : ∀ {L M : List Int}, L.Pairwise (· < ·) → (∀ x ∈ L, x ∈ M) → L.length ≤ M.length
  | [], M, _, _ => Nat.zero_le _
  | x :: L, M, h, hs => by
    obtain ⟨h1, h2⟩ := List.pairwise_cons.1 h
    have hx : x ∈ M := hs x (by simp)
    have ih := subLen (M := M.erase x) h2 fun y hy => (List.mem_erase_of_ne (by have := h1 y hy; omega)).2 (hs y (List.mem_cons_of_mem _ hy))
    have := List.length_erase_of_mem hx
    have := List.length_pos_of_mem hx
    rw [List.length_cons]
    omega
theorem joinMem {a b : Ck} {t : Int × Int} (h : t ∈ joinC a b) : (∃ s ∈ a, s.1 = t.1) ∨ ∃ s ∈ b, s.1 = t.1 := by
  by_cases hv : VL a ∧ VL b
  · have hp := (cntPos (vlJoin a b) (x := t.1)).2 ⟨t, h, rfl⟩
    rw [cntJoin hv.1 hv.2] at hp
    by_cases h1 : 0 < cnt a t.1
    · exact Or.inl ((cntPos hv.1).1 h1)
    · exact Or.inr ((cntPos hv.2).1 (by omega))
  · rw [joinC, mrgC, if_neg hv] at h; cases h
/-- All agents of the clock are among the first k of the log. -/
def Amg (ag : List Int) (k : Nat) (c : Ck) : Prop := ∀ t ∈ c, t.1 ∈ ag.take k
theorem amgMono {ag : List Int} {k k' : Nat} {c : Ck} (h : Amg ag k c) (hk : k ≤ k') : Amg ag k' c := fun t ht => by
  have := h t ht
  obtain ⟨i, hi, e⟩ := List.mem_take_iff_getElem.1 this
  exact List.mem_take_iff_getElem.2 ⟨i, by omega, e⟩
theorem amgJoin {ag : List Int} {k : Nat} {a b : Ck} (ha : Amg ag k a) (hb : Amg ag k b) : Amg ag k (joinC a b) := fun t ht => by
  rcases joinMem ht with ⟨s, hs, e⟩ | ⟨s, hs, e⟩
  · rw [← e]; exact ha s hs
  · rw [← e]; exact hb s hs
theorem amgLen {ag : List Int} {k : Nat} {c : Ck} (hc : VL c) (h : Amg ag k c) : c.length ≤ k := by
  have h1 : (c.map (·.1)).Pairwise (· < ·) := List.pairwise_map.2 hc.2
  have := subLen (M := ag.take k) h1 fun x hx => by
    obtain ⟨t, ht, rfl⟩ := List.mem_map.1 hx
    exact h t ht
  rw [List.length_map, List.length_take] at this
  omega
theorem amgCl {ag fr : List Int} {n : Nat} (hl : Log fr n) (hn : n ≤ ag.length) : ∀ k, k < n → Amg ag (k + 1) (cl ag fr k) := by
  intro k
  induction k using Nat.strongRecOn with
  | _ k ih =>
    intro hk
    rw [clEq hl hk]
    refine amgJoin (amgJoin ?_ ?_) ?_
    · rcases lstCases ag fr (ag.getD k 0) k with ⟨h1, _⟩ | ⟨j, h1, _, h3, _⟩
      · rw [h1]; intro t ht; cases ht
      · rw [h3]; exact amgMono (ih j h1 (by omega)) (by omega)
    · unfold rc
      split
      · have h := hl k hk
        exact amgMono (ih (fr.getD k 0).toNat (by omega) (by omega)) (by omega)
      · intro t ht; cases ht
    · intro t ht
      obtain rfl : t = _ := List.mem_singleton.1 ht
      refine List.mem_take_iff_getElem.2 ⟨k, by omega, ?_⟩
      rw [List.getD_eq_getElem?_getD, List.getElem?_eq_getElem (by omega)]; rfl
theorem lenCl {ag fr : List Int} {n : Nat} (hl : Log fr n) (hn : n ≤ ag.length) {k : Nat} (hk : k < n) : (cl ag fr k).length ≤ k + 1 := amgLen (vlCl _ _ _) (amgCl hl hn k hk)
theorem lenLst {ag fr : List Int} {n : Nat} (hl : Log fr n) (hn : n ≤ ag.length) (x : Int) {k : Nat} (hk : k ≤ n) : (lst ag fr x k).length ≤ k := by
  rcases lstCases ag fr x k with ⟨h1, _⟩ | ⟨j, h1, _, h3, _⟩
  · rw [h1]; simp
  · rw [h3]; have := lenCl (ag := ag) hl hn (k := j) (by omega); omega
theorem lenRc {ag fr : List Int} {n : Nat} (hl : Log fr n) (hn : n ≤ ag.length) {k : Nat} (hk : k < n) : (rc ag fr k).length ≤ k := by
  unfold rc
  split
  · have h := hl k hk
    have := lenCl (ag := ag) hl hn (k := (fr.getD k 0).toNat) (by omega)
    omega
  · simp
/-! The error of a message log. -/
instance (fr : List Int) (n : Nat) : Decidable (Log fr n) := inferInstanceAs (Decidable (∀ k, k < n → _))
def errL (n m : Nat) (fr : List Int) : Int := if n ≠ m then 1 else if 512 < n then 4 else if Log fr m then 0 else 1
theorem logSucc {fr : List Int} {k : Nat} (h : Log fr k) (hk : k < fr.length) (h1 : -1 ≤ fr[k]) (h2 : fr[k] < k) : Log fr (k + 1) := fun j hj => by
  by_cases e : j = k
  · subst e
    rw [List.getD_eq_getElem?_getD, List.getElem?_eq_getElem hk]
    exact ⟨h1, h2⟩
  · exact h j (by omega)
theorem logNot {fr : List Int} {k n : Nat} (hk : k < fr.length) (hn : k < n) (h : fr[k] < -1 ∨ (k : Int) ≤ fr[k]) : ¬ Log fr n := fun hl => by
  have := hl k hn
  rw [List.getD_eq_getElem?_getD, List.getElem?_eq_getElem hk] at this
  have e : (some fr[k]).getD 0 = fr[k] := rfl
  rw [e] at this
  omega
theorem errNe {n m : Nat} {fr : List Int} (h : n ≠ m) : errL n m fr = 1 := if_pos h
theorem errMany {n : Nat} {fr : List Int} (h : 512 < n) : errL n n fr = 4 := by rw [errL, if_neg (by simp), if_pos h]
theorem errBad {n : Nat} {fr : List Int} (h : ¬ 512 < n) (hl : ¬ Log fr n) : errL n n fr = 1 := by rw [errL, if_neg (by simp), if_neg h, if_neg hl]
theorem errOk {n : Nat} {fr : List Int} (h : ¬ 512 < n) (hl : Log fr n) : errL n n fr = 0 := by rw [errL, if_neg (by simp), if_neg h, if_pos hl]
theorem errZero {n m : Nat} {fr : List Int} (h : errL n m fr = 0) : n = m ∧ n ≤ 512 ∧ Log fr n := by
  unfold errL at h
  split at h
  · omega
  · rename_i h1
    split at h
    · omega
    · split at h
      · rename_i h3
        have e : n = m := by omega
        subst e
        exact ⟨rfl, by omega, h3⟩
      · omega
end Go.Proofs.Ytdppccipajfamaa
