/-
  Acyclic, its pure part: what the recursive function value keeps; rows of Booleans that tell which numbers were entered and left.
-/
import Derived.Test.YtjioiaeiggjneaaDoorKRSuc
import Derived.Test.YtjioiaeiggjneaaDoorKRowI
namespace Go.Proofs.YtjioiaeiggjneaaDoor
open Go.RowKit Go.Maps

/-- How many numbers below n are not entered. -/
def notIn (n : Nat) (E : Nat → Bool) : Nat := (List.range n).countP fun x => !E x
theorem notInLt {n : Nat} {E F : Nat → Bool} (h : ∀ x, E x = true → F x = true) {t : Nat} (ht : t < n) (hs : E t = false) (hT : F t = true) : notIn n F < notIn n E :=
  countLt (p := fun x => !F x) (q := fun x => !E x) (fun x _ hx => by
    rw [Bool.not_eq_true'] at hx ⊢
    cases e : E x
    · rfl
    · rw [h _ e] at hx; cases hx) ⟨t, List.mem_range.2 ht, by rw [hs]; rfl, by rw [hT]; rfl⟩
theorem notInLe {n : Nat} {E F : Nat → Bool} (h : ∀ x, E x = true → F x = true) : notIn n F ≤ notIn n E := by
  unfold notIn
  refine List.countP_mono_left fun x _ hx => ?_
  rw [Bool.not_eq_true'] at hx ⊢
  cases e : E x
  · rfl
  · rw [h _ e] at hx; cases hx
/-- E is entered, L is left: no number that was left lies on a cycle, and all its successors were left. -/
structure AcOk (n : Nat) (f : Nat → Nat → Bool) (E L : Nat → Bool) : Prop where
  shut : ∀ x y, x < n → y < n → L x = true → f x y = true → L y = true
  free : ∀ x, x < n → L x = true → tcT n f x x = false
  sub : ∀ x, L x = true → E x = true
/-- .. and each number that was entered and not left is on the way to a. -/
structure AcIn (n : Nat) (f : Nat → Nat → Bool) (E L : Nat → Bool) (a : Nat) : Prop extends AcOk n f E L where
  gray : ∀ x, x < n → E x = true → L x = false → tcT n f x a = true
/-- From (E, L) to (E', L') more was entered and left, and as much is entered and not left. -/
structure AcMid (n : Nat) (f : Nat → Nat → Bool) (E L E' L' : Nat → Bool) : Prop extends AcOk n f E' L' where
  mono : ∀ x, E x = true → E' x = true
  gray : ∀ x, x < n → E' x = true → L' x = false → E x = true ∧ L x = false
  keepL : ∀ x, x < n → L x = true → L' x = true
  keepG : ∀ x, x < n → E x = true → L x = false → L' x = false
theorem AcMid.refl {n : Nat} {f : Nat → Nat → Bool} {E L : Nat → Bool} (h : AcOk n f E L) : AcMid n f E L E L := ⟨h, fun _ h => h, fun _ _ h h' => ⟨h, h'⟩, fun _ _ h => h, fun _ _ _ h => h⟩
theorem AcMid.trans {n : Nat} {f : Nat → Nat → Bool} {E L E' L' E'' L'' : Nat → Bool} (h : AcMid n f E L E' L') (k : AcMid n f E' L' E'' L'') : AcMid n f E L E'' L'' :=
  ⟨k.toAcOk, fun x hx => k.mono x (h.mono x hx), fun x hx h1 h2 => by obtain ⟨h3, h4⟩ := k.gray x hx h1 h2; exact h.gray x hx h3 h4, fun x hx h1 => k.keepL x hx (h.keepL x hx h1), fun x hx h1 h2 => k.keepG x hx (h.mono x h1) (h.keepG x hx h1 h2)⟩
/-- a was entered, and its first j successors were gone into. -/
structure AcLoop (n : Nat) (f : Nat → Nat → Bool) (E L : Nat → Bool) (a j : Nat) (E' L' : Nat → Bool) : Prop extends AcMid n f (with_ E a) L E' L' where
  done : ∀ i (h : i < (sucI n f a).length) (t : Nat), i < j → (sucI n f a)[i] = (t : Int) → L' t = true
theorem acLoop0 {n : Nat} {f : Nat → Nat → Bool} {E L : Nat → Bool} {a : Nat} (h : AcIn n f E L a) : AcLoop n f E L a 0 (with_ E a) L :=
  ⟨AcMid.refl ⟨h.shut, h.free, fun x hx => withIff.2 (.inl (h.sub x hx))⟩, fun _ _ _ h => absurd h (by omega)⟩
theorem acInto {n : Nat} {f : Nat → Nat → Bool} {E L E' L' : Nat → Bool} {a j t : Nat} (h0 : AcIn n f E L a) (ha : a < n) (h : AcLoop n f E L a j E' L') (hf : f a t = true) : AcIn n f E' L' t :=
  ⟨h.toAcOk, fun x hx h1 h2 => by
    obtain ⟨h3, h4⟩ := h.gray x hx h1 h2
    rcases withIff.1 h3 with h3 | rfl
    · exact tcTrans ha (h0.gray x hx h3 h4) (tcOne hf)
    · exact tcOne hf⟩
theorem acNext {n : Nat} {f : Nat → Nat → Bool} {E L E' L' E'' L'' : Nat → Bool} {a j t : Nat} (h : AcLoop n f E L a j E' L') (hj : j < (sucI n f a).length) (e : (sucI n f a)[j] = (t : Int)) (_ : t < n) (k : AcMid n f E' L' E'' L'') (hd : L'' t = true) : AcLoop n f E L a (j + 1) E'' L'' :=
  ⟨h.toAcMid.trans k, fun i hi u hij hu => by
    by_cases ei : i = j
    · subst ei
      obtain rfl : t = u := by rw [e] at hu; omega
      exact hd
    · have hun : u < n := by
        have hm := List.getElem_mem hi
        rw [hu] at hm
        obtain ⟨b, hb, hbn, _⟩ := sucMem.1 hm
        omega
      exact k.keepL u hun (h.done i hi u (by omega) hu)⟩
theorem shutWay {n : Nat} {f : Nat → Nat → Bool} {L : Nat → Bool} (h : ∀ x y, x < n → y < n → L x = true → f x y = true → L y = true) {x y : Nat} (hx : x < n) (hy : y < n) (hL : L x = true) (ht : tcT n f x y = true) : L y = true := by
  have := tcLeast (n := n) (f := f) (g := fun a b => !L a || L b) (fun a b ha hb hf => by
    cases e : L a
    · rfl
    · show (!true || L b) = true; rw [h a b ha hb e hf]; rfl) (fun a b c _ _ _ h1 h2 => by
      cases e : L a
      · rfl
      · have h1 : (!L a || L b) = true := h1
        have h2 : (!L b || L c) = true := h2
        rw [e] at h1
        have h1 : L b = true := by simpa using h1
        rw [h1] at h2
        have h2 : L c = true := by simpa using h2
        show (!true || L c) = true
        rw [h2]; rfl) hx hy ht
  have this : (!L x || L y) = true := this
  rw [hL] at this
  simpa using this
theorem acOut {n : Nat} {f : Nat → Nat → Bool} {E L E' L' : Nat → Bool} {a j : Nat} (h0 : AcIn n f E L a) (ha : a < n) (hE : E a = false) (h : AcLoop n f E L a j E' L') (hj : (sucI n f a).length ≤ j) : AcMid n f E L E' (with_ L' a) ∧ with_ L' a a = true := by
  have hLa : L a = false := by
    cases e : L a
    · rfl
    · rw [h0.sub a e] at hE; cases hE
  have hL'a : L' a = false := h.keepG a ha (withIff.2 (.inr rfl)) hLa
  have hsuc : ∀ y, y < n → f a y = true → L' y = true := fun y hy hf => by
    obtain ⟨i, hi, e⟩ := List.getElem_of_mem (sucMem.2 ⟨y, rfl, hy, hf⟩)
    exact h.done i hi y (by omega) e
  refine ⟨⟨⟨fun x y hx hy h1 h2 => ?_, fun x hx h1 => ?_, fun x h1 => ?_⟩, fun x h1 => h.mono x (withIff.2 (.inl h1)), fun x hx h1 h2 => ?_, fun x hx h1 => withIff.2 (.inl (h.keepL x hx h1)), fun x hx h1 h2 => ?_⟩, withIff.2 (.inr rfl)⟩
  · rcases withIff.1 h1 with h1 | rfl
    · exact withIff.2 (.inl (h.shut x y hx hy h1 h2))
    · exact withIff.2 (.inl (hsuc y hy h2))
  · rcases withIff.1 h1 with h1 | rfl
    · exact h.free x hx h1
    · cases e : tcT n f x x
      · rfl
      · rw [tcStep, Bool.or_eq_true] at e
        rcases e with e | e
        · rw [hsuc x hx e] at hL'a; cases hL'a
        · obtain ⟨y, hy, h3, h4⟩ := cmpIff.1 e
          rw [shutWay h.shut hy hx (hsuc y hy h3) h4] at hL'a; cases hL'a
  · rcases withIff.1 h1 with h1 | rfl
    · exact h.sub x h1
    · exact h.mono x (withIff.2 (.inr rfl))
  · have h3 : L' x = false := by
      cases e : L' x
      · rfl
      · rw [withIff.2 (.inl e)] at h2; cases h2
    obtain ⟨h4, h5⟩ := h.gray x hx h1 h3
    rcases withIff.1 h4 with h4 | rfl
    · exact ⟨h4, h5⟩
    · rw [withIff.2 (.inr rfl)] at h2; cases h2
  · have h3 := h.keepG x hx (withIff.2 (.inl h1)) h2
    cases e : with_ L' a x
    · rfl
    · rcases withIff.1 e with e | rfl
      · rw [e] at h3; cases h3
      · rw [h1] at hE; cases hE

end Go.Proofs.YtjioiaeiggjneaaDoor
