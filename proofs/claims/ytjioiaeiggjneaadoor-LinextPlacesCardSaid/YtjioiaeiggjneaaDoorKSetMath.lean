/-
  Plain facts about sorted lists of integers as sets, without any program: insertion, the set of a list, merging.
-/
import Derived.Lib.SlicesCompact
namespace Go.Proofs.YtjioiaeiggjneaaDoor

/-- Strictly increasing. -/
def Srt (l : List Int) : Prop := l.Pairwise (· < ·)
instance (l : List Int) : Decidable (Srt l) := inferInstanceAs (Decidable (l.Pairwise (· < ·)))
def srtB (l : List Int) : Bool := decide (Srt l)
def memB (l : List Int) (n : Int) : Bool := decide (n ∈ l)
def subB (a b : List Int) : Bool := decide (∀ x ∈ a, x ∈ b)

theorem srtCons {x : Int} {l : List Int} : Srt (x :: l) ↔ (∀ y ∈ l, x < y) ∧ Srt l := List.pairwise_cons
theorem srtNil : Srt [] := List.Pairwise.nil

theorem srtExt : ∀ {a b : List Int}, Srt a → Srt b → (∀ x, x ∈ a ↔ x ∈ b) → a = b
  | [], [], _, _, _ => rfl
  | [], y :: b, _, _, h => absurd ((h y).2 (by simp)) (by simp)
  | x :: a, [], _, _, h => absurd ((h x).1 (by simp)) (by simp)
  | x :: a, y :: b, ha, hb, h => by
    obtain ⟨hx, ha'⟩ := srtCons.1 ha
    obtain ⟨hy, hb'⟩ := srtCons.1 hb
    have e : x = y := by
      have h1 := (h x).1 (by simp)
      have h2 := (h y).2 (by simp)
      rw [List.mem_cons] at h1 h2
      rcases h1 with h1 | h1
      · exact h1
      · rcases h2 with h2 | h2
        · exact h2.symm
        · have := hx y h2; have := hy x h1; omega
    subst e
    rw [srtExt ha' hb' fun z => ?_]
    have hz := h z
    rw [List.mem_cons, List.mem_cons] at hz
    constructor
    · intro hm
      rcases hz.1 (Or.inr hm) with h1 | h1
      · subst h1; have := hx z hm; omega
      · exact h1
    · intro hm
      rcases hz.2 (Or.inr hm) with h1 | h1
      · subst h1; have := hy z hm; omega
      · exact h1

/-- n put before the first element that is not smaller. -/
def ins (n : Int) (l : List Int) : List Int := l.takeWhile (· < n) ++ n :: l.dropWhile (· < n)
theorem memIns {n x : Int} {l : List Int} : x ∈ ins n l ↔ x = n ∨ x ∈ l := by
  unfold ins
  have h := List.takeWhile_append_dropWhile (p := (· < n)) (l := l)
  conv => rhs; rw [← h]
  simp only [List.mem_append, List.mem_cons]
  grind
theorem lenIns (n : Int) (l : List Int) : (ins n l).length = l.length + 1 := by
  unfold ins
  have h := congrArg List.length (List.takeWhile_append_dropWhile (p := (· < n)) (l := l))
  simp only [List.length_append, List.length_cons] at h ⊢
  omega
theorem srtIns : ∀ {n : Int} {l : List Int}, Srt l → n ∉ l → Srt (ins n l)
  | n, [], _, _ => by simp [ins, Srt]
  | n, a :: l, h, hn => by
    obtain ⟨ha, hl⟩ := srtCons.1 h
    rw [List.mem_cons, not_or] at hn
    by_cases hlt : a < n
    · have e : ins n (a :: l) = a :: ins n l := by simp [ins, hlt]
      rw [e]
      refine srtCons.2 ⟨fun y hy => ?_, srtIns hl hn.2⟩
      rcases memIns.1 hy with rfl | hy
      · exact hlt
      · exact ha y hy
    · have e : ins n (a :: l) = n :: a :: l := by simp [ins, hlt]
      rw [e]
      refine srtCons.2 ⟨fun y hy => ?_, h⟩
      rw [List.mem_cons] at hy
      have h1 := hn.1
      rcases hy with rfl | hy
      · omega
      · have := ha y hy; omega
theorem cutWhile {n : Int} : ∀ {l : List Int} {k : Nat}, (∀ x ∈ l.take k, x < n) → (∀ h : k < l.length, ¬ l[k] < n) → k ≤ l.length → l.takeWhile (· < n) = l.take k ∧ l.dropWhile (· < n) = l.drop k
  | [], k, _, _, hk => by simp
  | a :: l, 0, _, h2, _ => by
    have := h2 (by simp)
    simp at this
    simp [List.takeWhile_cons, List.dropWhile_cons]
    omega
  | a :: l, k + 1, h1, h2, hk => by
    have ha : a < n := h1 a (by simp)
    have ih := cutWhile (l := l) (k := k) (fun x hx => h1 x (by simp [hx])) (fun h => by have := h2 (by simp; omega); simpa using this) (by simpa using hk)
    simp [ha, ih.1, ih.2]
theorem insAt {n : Int} {l : List Int} {k : Nat} (h1 : ∀ x ∈ l.take k, x < n) (h2 : ∀ h : k < l.length, ¬ l[k] < n) (hk : k ≤ l.length) : l.take k ++ [n] ++ l.drop k = ins n l := by
  obtain ⟨e1, e2⟩ := cutWhile h1 h2 hk
  unfold ins
  rw [e1, e2]
  simp

/-- One element more. -/
def addL (o : List Int) (x : Int) : List Int := if x ∈ o then o else ins x o
theorem memAdd {o : List Int} {x y : Int} : y ∈ addL o x ↔ y ∈ o ∨ y = x := by
  unfold addL
  split
  · constructor
    · exact Or.inl
    · rintro (h | rfl)
      · exact h
      · assumption
  · rw [memIns]; exact Or.comm
theorem srtAdd {o : List Int} {x : Int} (h : Srt o) : Srt (addL o x) := by
  unfold addL
  split
  · exact h
  · exact srtIns h (by assumption)
theorem lenAdd (o : List Int) (x : Int) : (addL o x).length ≤ o.length + 1 := by
  unfold addL
  split
  · omega
  · rw [lenIns]; omega
theorem addYes {o : List Int} {x : Int} (h : memB o x = true) : addL o x = o := by
  unfold addL; rw [if_pos (of_decide_eq_true h)]
theorem addNo {o : List Int} {x : Int} (h : memB o x = false) : addL o x = ins x o := by
  unfold addL; rw [if_neg (of_decide_eq_false h)]

/-- The set of a list. -/
def mk (l : List Int) : List Int := l.foldl addL []
theorem mkSucc {l : List Int} {k : Nat} (h : k < l.length) : mk (l.take (k + 1)) = addL (mk (l.take k)) l[k] := by
  unfold mk
  rw [List.take_succ_eq_append_getElem h, List.foldl_append]
  rfl
theorem foldFacts : ∀ (l o : List Int), Srt o → Srt (l.foldl addL o) ∧ (∀ x, x ∈ l.foldl addL o ↔ x ∈ o ∨ x ∈ l) ∧ (l.foldl addL o).length ≤ o.length + l.length
  | [], o, h => ⟨h, by simp, by simp⟩
  | a :: l, o, h => by
    obtain ⟨h1, h2, h3⟩ := foldFacts l (addL o a) (srtAdd h)
    refine ⟨h1, fun x => ?_, ?_⟩
    · rw [List.foldl_cons, h2, memAdd, List.mem_cons]
      grind
    · have := lenAdd o a
      rw [List.foldl_cons, List.length_cons]
      omega
theorem srtMk (l : List Int) : Srt (mk l) := (foldFacts l [] srtNil).1
theorem memMk {l : List Int} {x : Int} : x ∈ mk l ↔ x ∈ l := by
  have := (foldFacts l [] srtNil).2.1 x
  simpa [mk] using this
theorem lenMk (l : List Int) : (mk l).length ≤ l.length := by
  have := (foldFacts l [] srtNil).2.2
  simpa [mk] using this
theorem mkEq {r l : List Int} (h : Srt r) (hm : ∀ x, x ∈ r ↔ x ∈ l) : r = mk l := srtExt h (srtMk l) fun x => by rw [hm, memMk]
theorem mkCongr {a b : List Int} (h : ∀ x, x ∈ a ↔ x ∈ b) : mk a = mk b := mkEq (srtMk a) fun x => by rw [memMk, h]
theorem mkSelf {l : List Int} (h : Srt l) : mk l = l := (mkEq h fun _ => Iff.rfl).symm
theorem mkMk (l : List Int) : mk (mk l) = mk l := mkSelf (srtMk l)

/-- slices.Compact of slices.Sort is the set. -/
theorem srtTakeSucc {l : List Int} {k : Nat} (h : Srt (l.take k)) (hk : k < l.length) (h0 : 0 < k) (hlt : l[k - 1] < l[k]) : Srt (l.take (k + 1)) := by
  rw [List.take_succ_eq_append_getElem hk]
  refine List.pairwise_append.2 ⟨h, by simp, fun x hx y hy => ?_⟩
  obtain rfl : y = l[k] := by simpa using hy
  obtain ⟨i, hi, rfl⟩ := List.getElem_of_mem hx
  rw [List.length_take] at hi
  rw [List.getElem_take]
  by_cases e : i = k - 1
  · subst e; exact hlt
  · have := List.pairwise_iff_getElem.1 h i (k - 1) (by rw [List.length_take]; omega) (by rw [List.length_take]; omega) (by omega)
    rw [List.getElem_take, List.getElem_take] at this
    omega
theorem srtB_no {l : List Int} {k : Nat} (hk : k < l.length) (h0 : 0 < k) (h : l[k] ≤ l[k - 1]) : srtB l = false := by
  simp only [srtB, decide_eq_false_iff_not]
  intro hs
  have := List.pairwise_iff_getElem.1 hs (k - 1) k (by omega) hk (by omega)
  omega
theorem srtB_all {l : List Int} {k : Nat} (hk : l.length ≤ k) (h : Srt (l.take k)) : srtB l = true := by
  rw [List.take_of_length_le hk] at h
  simp [srtB, h]
theorem srtB_yes {l : List Int} (h : Srt l) : srtB l = true := by simp [srtB, h]
theorem srtOne (l : List Int) : Srt (l.take 1) := by
  rcases l with _ | ⟨a, l⟩ <;> simp [Srt]

theorem memB_yes {l : List Int} {n : Int} {k : Nat} (hk : k < l.length) (h : l[k] = n) : memB l n = true := by
  simp only [memB, decide_eq_true_eq]; subst h; exact List.getElem_mem hk
theorem memB_no {l : List Int} {n : Int} {k : Nat} (hk : l.length ≤ k) (h : ∀ x ∈ l.take k, x ≠ n) : memB l n = false := by
  rw [List.take_of_length_le hk] at h
  simp only [memB, decide_eq_false_iff_not]
  intro hm; exact h n hm rfl
theorem neTakeSucc {l : List Int} {n : Int} {k : Nat} (hk : k < l.length) (h : ∀ x ∈ l.take k, x ≠ n) (e : l[k] ≠ n) : ∀ x ∈ l.take (k + 1), x ≠ n := by
  rw [List.take_succ_eq_append_getElem hk]
  intro x hx
  rcases List.mem_append.1 hx with hx | hx
  · exact h x hx
  · obtain rfl : x = l[k] := by simpa using hx
    exact e
theorem ltTakeSucc {l : List Int} {n : Int} {k : Nat} (hk : k < l.length) (h : ∀ x ∈ l.take k, x < n) (e : l[k] < n) : ∀ x ∈ l.take (k + 1), x < n := by
  rw [List.take_succ_eq_append_getElem hk]
  intro x hx
  rcases List.mem_append.1 hx with hx | hx
  · exact h x hx
  · obtain rfl : x = l[k] := by simpa using hx
    exact e
theorem subB_no {a b : List Int} {k : Nat} (hk : k < a.length) (h : memB b a[k] = false) : subB a b = false := by
  simp only [subB, decide_eq_false_iff_not]
  intro hs
  exact of_decide_eq_false h (hs _ (List.getElem_mem hk))
theorem subB_all {a b : List Int} {k : Nat} (hk : a.length ≤ k) (h : ∀ x ∈ a.take k, x ∈ b) : subB a b = true := by
  rw [List.take_of_length_le hk] at h
  simp [subB]; exact h
theorem subTakeSucc {a b : List Int} {k : Nat} (hk : k < a.length) (h : ∀ x ∈ a.take k, x ∈ b) (e : memB b a[k] = true) : ∀ x ∈ a.take (k + 1), x ∈ b := by
  rw [List.take_succ_eq_append_getElem hk]
  intro x hx
  rcases List.mem_append.1 hx with hx | hx
  · exact h x hx
  · obtain rfl : x = a[k] := by simpa using hx
    exact of_decide_eq_true e

/-- The elements of a that are (p) or are not in b. -/
def pick (p : Bool) (a b : List Int) : List Int := a.filter fun x => memB b x == p
theorem pickYes {p : Bool} {a b : List Int} {k : Nat} (hk : k < a.length) (h : memB b a[k] = p) : pick p (a.take (k + 1)) b = pick p (a.take k) b ++ [a[k]] := by
  unfold pick
  rw [List.take_succ_eq_append_getElem hk, List.filter_append]
  simp [h]
theorem pickNo {p : Bool} {a b : List Int} {k : Nat} (hk : k < a.length) (h : memB b a[k] = !p) : pick p (a.take (k + 1)) b = pick p (a.take k) b := by
  unfold pick
  rw [List.take_succ_eq_append_getElem hk, List.filter_append]
  cases p <;> simp [h]
theorem lenPick (p : Bool) (a b : List Int) : (pick p a b).length ≤ a.length := List.length_filter_le _ _
theorem memPick {p : Bool} {a b : List Int} {x : Int} : x ∈ pick p a b ↔ x ∈ a ∧ (x ∈ b ↔ p = true) := by
  unfold pick memB
  rw [List.mem_filter]
  cases p <;> simp

/-- Merging two lists, with a choice of what is kept. -/
def kp (b : Bool) (x : Int) : List Int := if b then [x] else []
def mrg (f : Bool → Bool → Bool) : List Int → List Int → List Int
  | [], [] => []
  | x :: a, [] => kp (f true false) x ++ mrg f a []
  | [], y :: b => kp (f false true) y ++ mrg f [] b
  | x :: a, y :: b => if x < y then kp (f true false) x ++ mrg f a (y :: b) else if y < x then kp (f false true) y ++ mrg f (x :: a) b else kp (f true true) x ++ mrg f a b
termination_by a b => a.length + b.length
theorem memKp {b : Bool} {x y : Int} : y ∈ kp b x ↔ b = true ∧ y = x := by cases b <;> simp [kp]
theorem lenKp (b : Bool) (x : Int) : (kp b x).length ≤ 1 := by cases b <;> simp [kp]
theorem lenMrg (f : Bool → Bool → Bool) : ∀ a b : List Int, (mrg f a b).length ≤ a.length + b.length := by
  intro a b
  fun_induction mrg f a b with
  | case1 => simp
  | case2 x a ih => have := lenKp (f true false) x; simp only [List.length_append, List.length_cons, List.length_nil] at *; omega
  | case3 y b ih => have := lenKp (f false true) y; simp only [List.length_append, List.length_cons, List.length_nil] at *; omega
  | case4 x a y b h ih => have := lenKp (f true false) x; simp only [List.length_append, List.length_cons] at *; omega
  | case5 x a y b h h' ih => have := lenKp (f false true) y; simp only [List.length_append, List.length_cons] at *; omega
  | case6 x a y b h h' ih => have := lenKp (f true true) x; simp only [List.length_append, List.length_cons] at *; omega
theorem mrgFacts (f : Bool → Bool → Bool) : ∀ a b : List Int, Srt a → Srt b → Srt (mrg f a b) ∧ ∀ x, x ∈ mrg f a b ↔ (x ∈ a ∨ x ∈ b) ∧ f (memB a x) (memB b x) = true := by
  intro a b
  have app : ∀ (p : Bool) (x : Int) (l : List Int), Srt l → (∀ y ∈ l, x < y) → Srt (kp p x ++ l) := by
    intro p x l h1 h2
    cases p
    · simpa [kp] using h1
    · exact srtCons.2 ⟨h2, h1⟩
  fun_induction mrg f a b with
  | case1 => intro _ _; exact ⟨srtNil, by simp⟩
  | case2 x a ih =>
    intro ha hb
    obtain ⟨hx, ha'⟩ := srtCons.1 ha
    obtain ⟨i1, i2⟩ := ih ha' hb
    refine ⟨app _ _ _ i1 fun y hy => hx y (by have := ((i2 y).1 hy).1; simpa using this), fun z => ?_⟩
    rw [List.mem_append, memKp, i2]
    have : z ∈ a → x < z := hx z
    by_cases e : z = x
    · subst e
      have : z ∉ a := fun h => by have := this h; omega
      simp [memB, this]
    · simp [memB, e]
  | case3 y b ih =>
    intro ha hb
    obtain ⟨hx, hb'⟩ := srtCons.1 hb
    obtain ⟨i1, i2⟩ := ih ha hb'
    refine ⟨app _ _ _ i1 fun z hz => hx z (by have := ((i2 z).1 hz).1; simpa using this), fun z => ?_⟩
    rw [List.mem_append, memKp, i2]
    have : z ∈ b → y < z := hx z
    by_cases e : z = y
    · subst e
      have : z ∉ b := fun h => by have := this h; omega
      simp [memB, this]
    · simp [memB, e]
  | case4 x a y b h ih =>
    intro ha hb
    obtain ⟨hx, ha'⟩ := srtCons.1 ha
    obtain ⟨hy, _⟩ := srtCons.1 hb
    obtain ⟨i1, i2⟩ := ih ha' hb
    have hxb : ∀ z, z ∈ y :: b → x < z := fun z hz => by
      rw [List.mem_cons] at hz
      rcases hz with rfl | hz
      · exact h
      · have := hy z hz; omega
    refine ⟨app _ _ _ i1 fun z hz => ?_, fun z => ?_⟩
    · rcases ((i2 z).1 hz).1 with h1 | h1
      · exact hx z h1
      · exact hxb z h1
    · rw [List.mem_append, memKp, i2]
      have h1 : z ∈ a → x < z := hx z
      have h2 : z ∈ y :: b → x < z := hxb z
      by_cases e : z = x
      · subst e
        have n1 : z ∉ a := fun h => by have := h1 h; omega
        have n2 : z ∉ y :: b := fun h => by have := h2 h; omega
        have m1 : memB (z :: a) z = true := by simp [memB]
        have m2 : memB (y :: b) z = false := by simp only [memB, decide_eq_false_iff_not]; exact n2
        rw [m1, m2]
        simp only [n1, n2, List.mem_cons_self]
        simp
      · have m1 : memB (x :: a) z = memB a z := by simp [memB, e]
        rw [m1]
        simp [e]
  | case5 x a y b h h' ih =>
    intro ha hb
    obtain ⟨hx, _⟩ := srtCons.1 ha
    obtain ⟨hy, hb'⟩ := srtCons.1 hb
    obtain ⟨i1, i2⟩ := ih ha hb'
    have hya : ∀ z, z ∈ x :: a → y < z := fun z hz => by
      rw [List.mem_cons] at hz
      rcases hz with rfl | hz
      · exact h'
      · have := hx z hz; omega
    refine ⟨app _ _ _ i1 fun z hz => ?_, fun z => ?_⟩
    · rcases ((i2 z).1 hz).1 with h1 | h1
      · exact hya z h1
      · exact hy z h1
    · rw [List.mem_append, memKp, i2]
      have h1 : z ∈ b → y < z := hy z
      have h2 : z ∈ x :: a → y < z := hya z
      by_cases e : z = y
      · subst e
        have n1 : z ∉ b := fun h => by have := h1 h; omega
        have n2 : z ∉ x :: a := fun h => by have := h2 h; omega
        have m1 : memB (z :: b) z = true := by simp [memB]
        have m2 : memB (x :: a) z = false := by simp only [memB, decide_eq_false_iff_not]; exact n2
        rw [m1, m2]
        simp only [n1, n2, List.mem_cons_self]
        simp
      · have m1 : memB (y :: b) z = memB b z := by simp [memB, e]
        rw [m1]
        simp [e]
  | case6 x a y b h h' ih =>
    intro ha hb
    have exy : x = y := by omega
    subst exy
    obtain ⟨hx, ha'⟩ := srtCons.1 ha
    obtain ⟨hy, hb'⟩ := srtCons.1 hb
    obtain ⟨i1, i2⟩ := ih ha' hb'
    refine ⟨app _ _ _ i1 fun z hz => ?_, fun z => ?_⟩
    · rcases ((i2 z).1 hz).1 with h1 | h1
      · exact hx z h1
      · exact hy z h1
    · rw [List.mem_append, memKp, i2]
      by_cases e : z = x
      · subst e
        have n1 : z ∉ a := fun h => by have := hx z h; omega
        have n2 : z ∉ b := fun h => by have := hy z h; omega
        have m1 : memB (z :: a) z = true := by simp [memB]
        have m2 : memB (z :: b) z = true := by simp [memB]
        rw [m1, m2]
        simp [n1, n2]
      · have m1 : memB (x :: a) z = memB a z := by simp [memB, e]
        have m2 : memB (x :: b) z = memB b z := by simp [memB, e]
        rw [m1, m2]
        simp [e]

def fU (_ _ : Bool) : Bool := true
def fI (p q : Bool) : Bool := p && q
def fM (p q : Bool) : Bool := p && !q
/-- The three operations, as both sides compute them. -/
def uni (a b : List Int) : List Int := mk (a ++ b)
def int' (a b : List Int) : List Int := mk (pick true a b)
def min' (a b : List Int) : List Int := mk (pick false a b)
theorem memBmk (l : List Int) (x : Int) : memB (mk l) x = memB l x := by simp only [memB, memMk]
theorem mrgU (a b : List Int) : mrg fU (mk a) (mk b) = uni a b := by
  obtain ⟨h1, h2⟩ := mrgFacts fU _ _ (srtMk a) (srtMk b)
  exact mkEq h1 fun x => by rw [h2, memMk, memMk, List.mem_append]; simp [fU]
theorem mrgI (a b : List Int) : mrg fI (mk a) (mk b) = int' a b := by
  obtain ⟨h1, h2⟩ := mrgFacts fI _ _ (srtMk a) (srtMk b)
  exact mkEq h1 fun x => by rw [h2, memMk, memMk, memPick, memBmk, memBmk]; simp [fI, memB]; grind
theorem mrgM (a b : List Int) : mrg fM (mk a) (mk b) = min' a b := by
  obtain ⟨h1, h2⟩ := mrgFacts fM _ _ (srtMk a) (srtMk b)
  exact mkEq h1 fun x => by rw [h2, memMk, memMk, memPick, memBmk, memBmk]; simp [fM, memB]; grind
theorem memUni {a b : List Int} {x : Int} : x ∈ uni a b ↔ x ∈ a ∨ x ∈ b := by unfold uni; rw [memMk, List.mem_append]
theorem memInt {a b : List Int} {x : Int} : x ∈ int' a b ↔ x ∈ a ∧ x ∈ b := by unfold int'; rw [memMk, memPick]; simp
theorem memMin {a b : List Int} {x : Int} : x ∈ min' a b ↔ x ∈ a ∧ x ∉ b := by unfold min'; rw [memMk, memPick]; simp
theorem lenUni (a b : List Int) : (uni a b).length ≤ a.length + b.length := by have := lenMk (a ++ b); simpa [uni] using this
theorem lenInt (a b : List Int) : (int' a b).length ≤ a.length := Nat.le_trans (lenMk _) (lenPick _ _ _)
theorem lenMin (a b : List Int) : (min' a b).length ≤ a.length := Nat.le_trans (lenMk _) (lenPick _ _ _)
theorem minEmpty (a b : List Int) : decide ((min' a b).length = 0) = subB a b := by
  unfold subB
  rw [decide_eq_decide, List.length_eq_zero_iff, List.eq_nil_iff_forall_not_mem]
  simp only [memMin, not_and, Decidable.not_not]
end Go.Proofs.YtjioiaeiggjneaaDoor
