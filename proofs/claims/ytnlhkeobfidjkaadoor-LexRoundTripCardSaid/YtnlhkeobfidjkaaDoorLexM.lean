/-
  The tokens of a text, without any program: what they are, that the texts of tokens give them again, that a line feed parts a text.
-/
namespace Go.Proofs.YtnlhkeobfidjkaaDoor
/-- A token: kind, text, number, offset. -/
structure Tok where
  kind : Int
  text : List UInt8
  n : Int
  pos : Int
deriving DecidableEq
def isLet (c : UInt8) : Bool := (decide (97 ≤ c.toNat) && decide (c.toNat ≤ 122)) || (decide (65 ≤ c.toNat) && decide (c.toNat ≤ 90))
def isDg (c : UInt8) : Bool := decide (48 ≤ c.toNat) && decide (c.toNat ≤ 57)
def isWd (c : UInt8) : Bool := isLet c || isDg c || c == 95
def symL : List UInt8 := [40, 41, 123, 125, 44, 59, 61, 58]
def isSym (c : UInt8) : Bool := symL.contains c
/-- What begins with a character: 0 nothing, 1 a blank or tab, 2 a comment, 3 a word, 4 a number, 5 a symbol, 6 a line feed. -/
def cls (c : UInt8) : Nat :=
  if c == 32 || c == 9 then 1 else if c == 35 then 2 else if isLet c then 3 else if isDg c || c == 45 then 4 else if isSym c then 5 else if c == 10 then 6 else 0
/-- The characters that continue it. -/
def rst (k : Nat) (c : UInt8) : Bool := if k = 2 then c != 10 else if k = 3 ∨ k = 4 then isWd c else false
def more (c : UInt8) (r : List UInt8) : Nat := (r.takeWhile (rst (cls c))).length
theorem moreLe (c : UInt8) (r : List UInt8) : more c r ≤ r.length := (List.takeWhile_prefix _).length_le
section
variable (pE pV : List UInt8 → Int)
/-- The token with a text of class k at an offset, or its error. -/
def mkTok (k : Nat) (t : List UInt8) (pos : Nat) : Except (Int × Nat) Tok :=
  if k = 4 then (if pE t = 0 then .ok ⟨2, t, pV t, pos⟩ else .error (pE t, pos)) else .ok ⟨if k = 3 then 1 else if k = 5 then 3 else 4, t, 0, pos⟩
def consR (t : Tok) : Except (Int × Nat) (List Tok) → Except (Int × Nat) (List Tok)
  | .ok l => .ok (t :: l)
  | .error e => .error e
def combR (a : List Tok) : Except (Int × Nat) (List Tok) → Except (Int × Nat) (List Tok)
  | .ok l => .ok (a ++ l)
  | .error e => .error e
def scn : Nat → List UInt8 → Nat → Except (Int × Nat) (List Tok)
  | 0, _, _ => .ok []
  | _ + 1, [], _ => .ok []
  | f + 1, c :: r, pos =>
    if cls c = 0 then .error (14, pos)
    else if cls c ≤ 2 then scn f (r.drop (more c r)) (pos + 1 + more c r)
    else match mkTok pE pV (cls c) (c :: r.take (more c r)) pos with
      | .error e => .error e
      | .ok t => consR t (scn f (r.drop (more c r)) (pos + 1 + more c r))
theorem scnFuel : ∀ (f g : Nat) (l : List UInt8) (pos : Nat), l.length ≤ f → l.length ≤ g → scn pE pV f l pos = scn pE pV g l pos
  | 0, 0, _, _, _, _ => rfl
  | 0, g + 1, [], _, _, _ => rfl
  | f + 1, 0, [], _, _, _ => rfl
  | 0, _, c :: r, _, h, _ => by simp at h
  | _, 0, c :: r, _, _, h => by simp at h
  | f + 1, g + 1, [], _, _, _ => rfl
  | f + 1, g + 1, c :: r, pos, hf, hg => by
    have h1 : (r.drop (more c r)).length ≤ f := by simp at hf ⊢; omega
    have h2 : (r.drop (more c r)).length ≤ g := by simp at hg ⊢; omega
    rw [scn, scn, scnFuel f g _ _ h1 h2]
/-- The tokens of a text, from an offset on, or the fault. -/
def lx (l : List UInt8) (pos : Nat) : Except (Int × Nat) (List Tok) := scn pE pV l.length l pos
theorem lxNil (pos : Nat) : lx pE pV [] pos = .ok [] := rfl
theorem lxCons (c : UInt8) (r : List UInt8) (pos : Nat) : lx pE pV (c :: r) pos =
    if cls c = 0 then .error (14, pos)
    else if cls c ≤ 2 then lx pE pV (r.drop (more c r)) (pos + 1 + more c r)
    else match mkTok pE pV (cls c) (c :: r.take (more c r)) pos with
      | .error e => .error e
      | .ok t => consR t (lx pE pV (r.drop (more c r)) (pos + 1 + more c r)) := by
  unfold lx
  rw [List.length_cons, scn, scnFuel pE pV r.length (r.drop (more c r)).length _ _ (by simp) (Nat.le_refl _)]

theorem twApp {α : Type} (p : α → Bool) (d : α) (u : List α) (h : p d = false) : ∀ r : List α, (r ++ d :: u).takeWhile p = r.takeWhile p
  | [] => by simp [List.takeWhile, h]
  | a :: r => by
    rw [List.cons_append, List.takeWhile_cons, List.takeWhile_cons, twApp p d u h r]
theorem twTw {α : Type} (p : α → Bool) : ∀ r : List α, (r.takeWhile p).takeWhile p = r.takeWhile p
  | [] => rfl
  | a :: r => by
    cases hp : p a
    · simp [hp]
    · simp [hp, twTw p r]
theorem takeTw {α : Type} (p : α → Bool) : ∀ r : List α, r.take (r.takeWhile p).length = r.takeWhile p
  | [] => rfl
  | a :: r => by
    cases hp : p a
    · simp [hp]
    · simp [hp, takeTw p r]
theorem moreApp {c d : UInt8} {u : List UInt8} (h : rst (cls c) d = false) (r : List UInt8) : more c (r ++ d :: u) = more c r := by
  unfold more; rw [twApp _ d u h]
theorem lxApp {c d : UInt8} {u : List UInt8} (h : rst (cls c) d = false) (r : List UInt8) (pos : Nat) : lx pE pV (c :: r ++ d :: u) pos =
    if cls c = 0 then .error (14, pos)
    else if cls c ≤ 2 then lx pE pV (r.drop (more c r) ++ d :: u) (pos + 1 + more c r)
    else match mkTok pE pV (cls c) (c :: r.take (more c r)) pos with
      | .error e => .error e
      | .ok t => consR t (lx pE pV (r.drop (more c r) ++ d :: u) (pos + 1 + more c r)) := by
  rw [List.cons_append, lxCons, moreApp h, List.drop_append_of_le_length (moreLe c r), List.take_append_of_le_length (moreLe c r)]
theorem rst10 (k : Nat) : rst k 10 = false := by
  unfold rst; split
  · rfl
  · split
    · decide
    · rfl
theorem rst32 (k : Nat) (h : k ≠ 2) : rst k 32 = false := by
  unfold rst; rw [if_neg h]; split
  · decide
  · rfl
theorem mkTokErr {k : Nat} {t : List UInt8} {pos : Nat} {e : Int × Nat} (h : mkTok pE pV k t pos = .error e) : e.1 ≠ 0 := by
  unfold mkTok at h
  split at h
  · split at h
    · cases h
    · cases h; assumption
  · cases h
theorem mkTokOk {k : Nat} {t : List UInt8} {pos : Nat} {x : Tok} (h : mkTok pE pV k t pos = .ok x) : x.text = t ∧ x.pos = pos := by
  unfold mkTok at h
  split at h
  · split at h
    · cases h; exact ⟨rfl, rfl⟩
    · cases h
  · cases h; exact ⟨rfl, rfl⟩
theorem lxErr : ∀ (n : Nat) (l : List UInt8) (pos : Nat) (e : Int × Nat), l.length ≤ n → lx pE pV l pos = .error e → e.1 ≠ 0 := by
  intro n
  induction n with
  | zero => intro l pos e hn h; have : l = [] := List.eq_nil_of_length_eq_zero (by omega); subst this; cases h
  | succ n ih =>
    intro l pos e hn h
    cases l with
    | nil => cases h
    | cons c r =>
      have hl : (r.drop (more c r)).length ≤ n := by simp at hn ⊢; omega
      rw [lxCons] at h
      split at h
      · cases h; exact fun h => by cases h
      · split at h
        · exact ih _ _ _ hl h
        · cases hm : mkTok pE pV (cls c) (c :: r.take (more c r)) pos with
          | error e' => rw [hm] at h; cases h; exact mkTokErr pE pV hm
          | ok t =>
            rw [hm] at h
            simp only at h
            cases hx : lx pE pV (r.drop (more c r)) (pos + 1 + more c r) with
            | error e' => rw [hx] at h; cases h; exact ih _ _ _ hl hx
            | ok a => rw [hx] at h; cases h
theorem consComb (t : Tok) (a : List Tok) (r : Except (Int × Nat) (List Tok)) : consR t (combR a r) = combR (t :: a) r := by cases r <;> rfl
theorem combNil (r : Except (Int × Nat) (List Tok)) : combR [] r = r := by cases r <;> rfl
theorem combComb (a b : List Tok) (r : Except (Int × Nat) (List Tok)) : combR a (combR b r) = combR (a ++ b) r := by cases r <;> simp [combR]
theorem combCons (a : List Tok) (t : Tok) (r : Except (Int × Nat) (List Tok)) : combR a (consR t r) = combR (a ++ [t]) r := by cases r <;> simp [combR, consR]
theorem cls10 : cls 10 = 6 := by decide
theorem cls32 : cls 32 = 1 := by decide
theorem lxOne (u : List UInt8) (pos : Nat) : lx pE pV (10 :: u) pos = consR ⟨4, [10], 0, pos⟩ (lx pE pV u (pos + 1)) := by
  have hm : more 10 u = 0 := by
    unfold more; rw [cls10]
    cases u with
    | nil => rfl
    | cons a u => rw [List.takeWhile_cons]; simp [rst]
  rw [lxCons, hm, cls10]; rfl
theorem lxBlank (u : List UInt8) (pos : Nat) : lx pE pV (32 :: u) pos = lx pE pV u (pos + 1) := by
  have hm : more 32 u = 0 := by
    unfold more; rw [cls32]
    cases u with
    | nil => rfl
    | cons a u => rw [List.takeWhile_cons]; simp [rst]
  rw [lxCons, hm, cls32]; rfl
/-- The tokens of a text with a line feed behind it and more. -/
theorem lxLine : ∀ (n : Nat) (l u : List UInt8) (pos : Nat), l.length ≤ n → lx pE pV (l ++ 10 :: u) pos = (match lx pE pV l pos with
    | .error e => .error e
    | .ok a => combR (a ++ [⟨4, [10], 0, (pos + l.length : Nat)⟩]) (lx pE pV u (pos + l.length + 1))) := by
  intro n
  induction n with
  | zero => intro l u pos hn; have : l = [] := List.eq_nil_of_length_eq_zero (by omega); subst this; rw [List.nil_append, lxOne, lxNil]; cases lx pE pV u (pos + 1) <;> rfl
  | succ n ih =>
    intro l u pos hn
    cases l with
    | nil => rw [List.nil_append, lxOne, lxNil]; cases lx pE pV u (pos + 1) <;> rfl
    | cons c r =>
      have hl : (r.drop (more c r)).length ≤ n := by simp at hn ⊢; omega
      have hp : pos + 1 + more c r + (r.drop (more c r)).length = pos + (c :: r).length := by have := moreLe c r; simp; omega
      rw [lxApp pE pV (rst10 _), lxCons]
      by_cases h0 : cls c = 0
      · rw [if_pos h0, if_pos h0]
      · rw [if_neg h0, if_neg h0]
        by_cases h2 : cls c ≤ 2
        · rw [if_pos h2, if_pos h2, ih _ _ _ hl, hp]
        · rw [if_neg h2, if_neg h2]
          cases hm : mkTok pE pV (cls c) (c :: r.take (more c r)) pos with
          | error e' => rfl
          | ok t =>
            simp only
            rw [ih _ _ _ hl, hp]
            cases lx pE pV (r.drop (more c r)) (pos + 1 + more c r) with
            | error e' => rfl
            | ok a => exact consComb _ _ _
def shT (k : Nat) (t : Tok) : Tok := ⟨t.kind, t.text, t.n, t.pos + k⟩
def shR (k : Nat) : Except (Int × Nat) (List Tok) → Except (Int × Nat) (List Tok)
  | .ok l => .ok (l.map (shT k))
  | .error e => .error (e.1, e.2 + k)
theorem mkTokShift (s k : Nat) (t : List UInt8) (pos : Nat) : mkTok pE pV k t (pos + s) = (match mkTok pE pV k t pos with | .ok x => .ok (shT s x) | .error e => .error (e.1, e.2 + s)) := by
  unfold mkTok
  by_cases h : k = 4
  · rw [if_pos h, if_pos h]
    by_cases h2 : pE t = 0
    · rw [if_pos h2, if_pos h2]; rfl
    · rw [if_neg h2, if_neg h2]
  · rw [if_neg h, if_neg h]; rfl
theorem lxShift (k : Nat) : ∀ (n : Nat) (l : List UInt8) (pos : Nat), l.length ≤ n → lx pE pV l (pos + k) = shR k (lx pE pV l pos) := by
  intro n
  induction n with
  | zero => intro l pos hn; have : l = [] := List.eq_nil_of_length_eq_zero (by omega); subst this; rfl
  | succ n ih =>
    intro l pos hn
    cases l with
    | nil => rfl
    | cons c r =>
      have hl : (r.drop (more c r)).length ≤ n := by simp at hn ⊢; omega
      rw [lxCons, lxCons, show pos + k + 1 + more c r = pos + 1 + more c r + k by omega, ih _ _ hl]
      by_cases h0 : cls c = 0
      · rw [if_pos h0, if_pos h0]; rfl
      · rw [if_neg h0, if_neg h0]
        by_cases h2 : cls c ≤ 2
        · rw [if_pos h2, if_pos h2]
        · rw [if_neg h2, if_neg h2]
          rw [mkTokShift pE pV k]
          cases mkTok pE pV (cls c) (c :: r.take (more c r)) pos with
          | error e' => rfl
          | ok t => simp only; cases lx pE pV (r.drop (more c r)) (pos + 1 + more c r) <;> rfl
/-- Every token is found at its offset. -/
theorem lxFound : ∀ (n : Nat) (l : List UInt8) (pos : Nat) (a : List Tok), l.length ≤ n → lx pE pV l pos = .ok a → ∀ t ∈ a, ∃ q : Nat, t.pos = (pos + q : Nat) ∧ q + t.text.length ≤ l.length ∧ (l.drop q).take t.text.length = t.text := by
  intro n
  induction n with
  | zero => intro l pos a hn h; have : l = [] := List.eq_nil_of_length_eq_zero (by omega); subst this; cases h; simp
  | succ n ih =>
    intro l pos a hn h
    cases l with
    | nil => cases h; simp
    | cons c r =>
      have hl : (r.drop (more c r)).length ≤ n := by simp at hn ⊢; omega
      have hle := moreLe c r
      have up : ∀ b, lx pE pV (r.drop (more c r)) (pos + 1 + more c r) = .ok b → ∀ t ∈ b, ∃ q : Nat, t.pos = (pos + q : Nat) ∧ q + t.text.length ≤ (c :: r).length ∧ ((c :: r).drop q).take t.text.length = t.text := by
        intro b hb t ht
        obtain ⟨q, h1, h2, h3⟩ := ih _ _ _ hl hb t ht
        refine ⟨q + more c r + 1, by rw [h1]; congr 1; omega, by simp at h2 ⊢; omega, ?_⟩
        rw [List.drop_succ_cons, show q + more c r = more c r + q by omega, ← List.drop_drop]
        exact h3
      rw [lxCons] at h
      split at h
      · cases h
      · split at h
        · exact up _ h
        · cases hm : mkTok pE pV (cls c) (c :: r.take (more c r)) pos with
          | error e' => rw [hm] at h; cases h
          | ok t =>
            rw [hm] at h
            simp only at h
            obtain ⟨e1, e2⟩ := mkTokOk pE pV hm
            cases hx : lx pE pV (r.drop (more c r)) (pos + 1 + more c r) with
            | error e' => rw [hx] at h; cases h
            | ok b =>
              rw [hx] at h; cases h
              intro t' ht'
              rcases List.mem_cons.1 ht' with rfl | ht'
              · refine ⟨0, by rw [e2]; rfl, by rw [e1]; simp; omega, ?_⟩
                rw [e1, List.drop_zero, List.length_cons, List.take_succ_cons, List.length_take, Nat.min_eq_left hle]
              · exact up _ hx t' ht'
/-- Tokens alike: all but the offset. -/
def key (t : Tok) : Int × List UInt8 × Int := (t.kind, t.text, t.n)
def alike (a b : List Tok) : Prop := a.map key = b.map key
/-- A token is valid. -/
def okT (t : Tok) : Bool := match t.text with
  | [] => false
  | c :: r => decide (3 ≤ cls c) && (more c r == r.length) && (match mkTok pE pV (cls c) t.text 0 with
    | .ok u => u.kind == t.kind && u.n == t.n
    | .error _ => false)
theorem okTParts {t : Tok} (h : okT pE pV t = true) : ∃ c r, t.text = c :: r ∧ 3 ≤ cls c ∧ more c r = r.length ∧ ∀ pos, mkTok pE pV (cls c) t.text pos = .ok ⟨t.kind, t.text, t.n, pos⟩ := by
  unfold okT at h
  split at h
  · cases h
  · rename_i c r he
    rw [Bool.and_eq_true, Bool.and_eq_true, decide_eq_true_iff, beq_iff_eq] at h
    obtain ⟨⟨h1, h2⟩, h3⟩ := h
    refine ⟨c, r, he, h1, h2, fun pos => ?_⟩
    unfold mkTok at h3 ⊢
    by_cases h4 : cls c = 4
    · rw [if_pos h4] at h3 ⊢
      by_cases h5 : pE t.text = 0
      · rw [if_pos h5] at h3 ⊢
        simp at h3
        simp [h3]
      · rw [if_neg h5] at h3; cases h3
    · rw [if_neg h4] at h3 ⊢
      simp at h3
      simp [h3]
theorem okTOf {c : UInt8} {r : List UInt8} {pos : Nat} {t : Tok} (h1 : 3 ≤ cls c) (h : mkTok pE pV (cls c) (c :: r.take (more c r)) pos = .ok t) : okT pE pV t = true := by
  have e := (mkTokOk pE pV h).1
  unfold okT
  rw [e]
  simp only
  rw [Bool.and_eq_true, Bool.and_eq_true, decide_eq_true_iff, beq_iff_eq]
  refine ⟨⟨h1, ?_⟩, ?_⟩
  · show more c (r.take (more c r)) = _
    unfold more
    rw [takeTw, twTw]
  · unfold mkTok at h ⊢
    by_cases h4 : cls c = 4
    · rw [if_pos h4] at h ⊢
      split at h
      · cases h; rename_i h5; rw [if_pos h5]; simp
      · cases h
    · rw [if_neg h4] at h ⊢
      cases h; simp
theorem lxOk : ∀ (n : Nat) (l : List UInt8) (pos : Nat) (a : List Tok), l.length ≤ n → lx pE pV l pos = .ok a → (∀ t ∈ a, okT pE pV t = true) ∧ (a.map fun t => t.text.length).sum ≤ l.length := by
  intro n
  induction n with
  | zero => intro l pos a hn h; have : l = [] := List.eq_nil_of_length_eq_zero (by omega); subst this; cases h; simp
  | succ n ih =>
    intro l pos a hn h
    cases l with
    | nil => cases h; simp
    | cons c r =>
      have hl : (r.drop (more c r)).length ≤ n := by simp at hn ⊢; omega
      have hle := moreLe c r
      rw [lxCons] at h
      split at h
      · cases h
      · split at h
        · obtain ⟨h1, h2⟩ := ih _ _ _ hl h
          exact ⟨h1, by simp at h2 ⊢; omega⟩
        · cases hm : mkTok pE pV (cls c) (c :: r.take (more c r)) pos with
          | error e' => rw [hm] at h; cases h
          | ok t =>
            rw [hm] at h
            simp only at h
            have e1 := (mkTokOk pE pV hm).1
            cases hx : lx pE pV (r.drop (more c r)) (pos + 1 + more c r) with
            | error e' => rw [hx] at h; cases h
            | ok b =>
              rw [hx] at h; cases h
              obtain ⟨h1, h2⟩ := ih _ _ _ hl hx
              refine ⟨fun t' ht' => ?_, ?_⟩
              · rcases List.mem_cons.1 ht' with rfl | ht'
                · exact okTOf pE pV (by omega) hm
                · exact h1 _ ht'
              · rw [List.map_cons, List.sum_cons, e1]
                simp at h2 ⊢; omega
/-- What stands before a token. -/
def sepT (p : Option Tok) (t : Tok) : List UInt8 := match p with
  | none => []
  | some q => if q.kind = 4 ∨ t.kind = 4 then [] else [32]
def jn : Option Tok → List Tok → List UInt8
  | _, [] => []
  | p, t :: l => sepT p t ++ t.text ++ jn (some t) l
theorem kind4 {t : Tok} (h : okT pE pV t = true) (hk : t.kind = 4) : t.text = [10] := by
  obtain ⟨c, r, he, h1, h2, h3⟩ := okTParts pE pV h
  have h4 := h3 0
  unfold mkTok at h4
  split at h4
  · split at h4
    · injection h4 with h4; injection h4 with h4; rw [hk] at h4; cases h4
    · cases h4
  · injection h4 with h4; injection h4 with h4
    rw [hk] at h4
    have c6 : cls c = 6 := by
      split at h4
      · cases h4
      · split at h4
        · cases h4
        · rename_i g3 g5
          have : cls c ≤ 6 := by unfold cls; (repeat' split) <;> decide
          omega
    have hc : c = 10 := by
      unfold cls at c6
      repeat' split at c6
      all_goals first | (cases c6; done) | skip
      rename_i hc
      simpa using hc
    have hr : r = [] := by
      unfold more at h2
      rw [c6] at h2
      cases r with
      | nil => rfl
      | cons a r => rw [List.takeWhile_cons] at h2; simp [rst] at h2
    rw [he, hc, hr]
theorem lxTok {t : Tok} (h : okT pE pV t = true) (pos : Nat) : lx pE pV t.text pos = .ok [⟨t.kind, t.text, t.n, pos⟩] := by
  obtain ⟨c, r, he, h1, h2, h3⟩ := okTParts pE pV h
  have h4 := h3 pos
  rw [he] at h4 ⊢
  rw [lxCons, if_neg (by omega), if_neg (by omega), h2, List.take_length, h4, List.drop_length]
  rfl
theorem lxTokApp {t : Tok} (h : okT pE pV t = true) (pos : Nat) (d : UInt8) (u : List UInt8) (hd : t.kind = 4 ∨ d = 10 ∨ d = 32) :
    lx pE pV (t.text ++ d :: u) pos = consR ⟨t.kind, t.text, t.n, pos⟩ (lx pE pV (d :: u) (pos + t.text.length)) := by
  obtain ⟨c, r, he, h1, h2, h3⟩ := okTParts pE pV h
  have h4 := h3 pos
  have hr : rst (cls c) d = false := by
    rcases hd with hk | rfl | rfl
    · have := kind4 pE pV h hk
      rw [he] at this
      injection this with hc _
      subst hc
      simp [cls10, rst]
    · exact rst10 _
    · exact rst32 _ (by omega)
  rw [he] at h4 ⊢
  rw [lxApp pE pV hr, if_neg (by omega), if_neg (by omega), h2, List.take_length, h4, List.drop_length]
  simp only [List.nil_append, List.length_cons]
  rw [show pos + 1 + r.length = pos + (r.length + 1) by omega]
theorem jnScan : ∀ (l : List Tok) (p : Option Tok) (pos : Nat), (∀ t ∈ l, okT pE pV t = true) → (∃ a, lx pE pV (jn p l) pos = .ok a ∧ alike a l)
  | [], p, pos, _ => ⟨[], rfl, rfl⟩
  | t :: l, p, pos, h => by
    have ht := h t (by simp)
    have main : ∀ pos, ∃ a, lx pE pV (t.text ++ jn (some t) l) pos = .ok a ∧ alike a (t :: l) := by
      intro pos
      cases l with
      | nil => exact ⟨[⟨t.kind, t.text, t.n, pos⟩], by rw [jn, List.append_nil]; exact lxTok pE pV ht pos, rfl⟩
      | cons t2 l2 =>
        obtain ⟨c2, r2, he2, _⟩ := okTParts pE pV (h t2 (by simp))
        have hj : ∃ d u, jn (some t) (t2 :: l2) = d :: u ∧ (t.kind = 4 ∨ d = 10 ∨ d = 32) := by
          rw [jn, sepT, he2]
          by_cases h4 : t.kind = 4
          · exact ⟨c2, r2 ++ jn (some t2) l2, by simp [h4], .inl h4⟩
          · by_cases h5 : t2.kind = 4
            · have := kind4 pE pV (h t2 (by simp)) h5
              rw [he2] at this
              injection this with hc hr
              exact ⟨10, r2 ++ jn (some t2) l2, by simp [h5, hc], .inr (.inl rfl)⟩
            · exact ⟨32, c2 :: (r2 ++ jn (some t2) l2), by simp [h4, h5], .inr (.inr rfl)⟩
        obtain ⟨d, u, hj, hd⟩ := hj
        obtain ⟨a, ha, hal⟩ := jnScan (t2 :: l2) (some t) (pos + t.text.length) fun x hx => h x (List.mem_cons_of_mem _ hx)
        rw [hj] at ha ⊢
        rw [lxTokApp pE pV ht pos d u hd, ha]
        exact ⟨_, rfl, by unfold alike at hal ⊢; rw [List.map_cons, List.map_cons, hal]; rfl⟩
    rw [jn]
    have hs : sepT p t = [] ∨ sepT p t = [32] := by
      unfold sepT; split
      · exact .inl rfl
      · split
        · exact .inl rfl
        · exact .inr rfl
    rcases hs with e | e
    · rw [e, List.nil_append]; exact main pos
    · rw [e, List.append_assoc, List.singleton_append, lxBlank]; exact main (pos + 1)
theorem jnLen : ∀ (l : List Tok) (p : Option Tok), (jn p l).length ≤ (l.map fun t => t.text.length).sum + l.length
  | [], p => by simp [jn]
  | t :: l, p => by
    have := jnLen l (some t)
    have hs : (sepT p t).length ≤ 1 := by unfold sepT; (repeat' split) <;> simp
    rw [jn]
    simp
    omega
end
end Go.Proofs.YtnlhkeobfidjkaaDoor
