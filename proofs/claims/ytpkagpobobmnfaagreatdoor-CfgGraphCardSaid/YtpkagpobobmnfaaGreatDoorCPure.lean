/-
  Plain facts about sorted lists of integers as sets, without any program: insertion, the set of a list, merging.
-/
import Derived.Lib.SlicesCompact
import Derived.RowKit
import Derived.Lib.SmallJoins
import Derived.Lib.Strings
namespace Go.Proofs.YtpkagpobobmnfaaGreatDoor

/-- Strictly increasing. -/
def Srt (l : List Int) : Prop := l.Pairwise (· < ·)
def memB (l : List Int) (n : Int) : Bool := decide (n ∈ l)
theorem srtCons {x : Int} {l : List Int} : Srt (x :: l) ↔ (∀ y ∈ l, x < y) ∧ Srt l := List.pairwise_cons
theorem srtNil : Srt [] := List.Pairwise.nil

theorem srtExt : ∀ {a b : List Int}, Srt a → Srt b → (∀ x, x ∈ a ↔ x ∈ b) → a = b
  | [], [], _, _, _ => rfl
  | [], y :: b, _, _, h => absurd ((h y).2 (by simp)) (by simp)
  | x :: a, [], _, _, h => absurd ((h x).1 (by simp)) (by simp)
  | x :: a, y :: b, ha, hb, h => by
    obtain ⟨hx, ha'⟩ := srtCons.1 ha
    obtain ⟨hy, hb'⟩ := srtCons.1 hb
    have e : x = y := by
      have h1 := (h x).1 (by simp)
      have h2 := (h y).2 (by simp)
      rw [List.mem_cons] at h1 h2
      rcases h1 with h1 | h1
      · exact h1
      · rcases h2 with h2 | h2
        · exact h2.symm
        · have := hx y h2; have := hy x h1; omega
    subst e
    rw [srtExt ha' hb' fun z => ?_]
    have hz := h z
    rw [List.mem_cons, List.mem_cons] at hz
    constructor
    · intro hm
      rcases hz.1 (Or.inr hm) with h1 | h1
      · subst h1; have := hx z hm; omega
      · exact h1
    · intro hm
      rcases hz.2 (Or.inr hm) with h1 | h1
      · subst h1; have := hy z hm; omega
      · exact h1

/-- n put before the first element that is not smaller. -/
def ins (n : Int) (l : List Int) : List Int := l.takeWhile (· < n) ++ n :: l.dropWhile (· < n)
theorem memIns {n x : Int} {l : List Int} : x ∈ ins n l ↔ x = n ∨ x ∈ l := by
  unfold ins
  have h := List.takeWhile_append_dropWhile (p := (· < n)) (l := l)
  conv => rhs; rw [← h]
  simp only [List.mem_append, List.mem_cons]
  grind
theorem lenIns (n : Int) (l : List Int) : (ins n l).length = l.length + 1 := by
  unfold ins
  have h := congrArg List.length (List.takeWhile_append_dropWhile (p := (· < n)) (l := l))
  simp only [List.length_append, List.length_cons] at h ⊢
  omega
theorem srtIns : ∀ {n : Int} {l : List Int}, Srt l → n ∉ l → Srt (ins n l)
  | n, [], _, _ => by simp [ins, Srt]
  | n, a :: l, h, hn => by
    obtain ⟨ha, hl⟩ := srtCons.1 h
    rw [List.mem_cons, not_or] at hn
    by_cases hlt : a < n
    · have e : ins n (a :: l) = a :: ins n l := by simp [ins, hlt]
      rw [e]
      refine srtCons.2 ⟨fun y hy => ?_, srtIns hl hn.2⟩
      rcases memIns.1 hy with rfl | hy
      · exact hlt
      · exact ha y hy
    · have e : ins n (a :: l) = n :: a :: l := by simp [ins, hlt]
      rw [e]
      refine srtCons.2 ⟨fun y hy => ?_, h⟩
      rw [List.mem_cons] at hy
      have h1 := hn.1
      rcases hy with rfl | hy
      · omega
      · have := ha y hy; omega
theorem cutWhile {n : Int} : ∀ {l : List Int} {k : Nat}, (∀ x ∈ l.take k, x < n) → (∀ h : k < l.length, ¬ l[k] < n) → k ≤ l.length → l.takeWhile (· < n) = l.take k ∧ l.dropWhile (· < n) = l.drop k
  | [], k, _, _, hk => by simp
  | a :: l, 0, _, h2, _ => by
    have := h2 (by simp)
    simp at this
    simp [List.takeWhile_cons, List.dropWhile_cons]
    omega
  | a :: l, k + 1, h1, h2, hk => by
    have ha : a < n := h1 a (by simp)
    have ih := cutWhile (l := l) (k := k) (fun x hx => h1 x (by simp [hx])) (fun h => by have := h2 (by simp; omega); simpa using this) (by simpa using hk)
    simp [ha, ih.1, ih.2]
theorem insAt {n : Int} {l : List Int} {k : Nat} (h1 : ∀ x ∈ l.take k, x < n) (h2 : ∀ h : k < l.length, ¬ l[k] < n) (hk : k ≤ l.length) : l.take k ++ [n] ++ l.drop k = ins n l := by
  obtain ⟨e1, e2⟩ := cutWhile h1 h2 hk
  unfold ins
  rw [e1, e2]
  simp

/-- One element more. -/
def addL (o : List Int) (x : Int) : List Int := if x ∈ o then o else ins x o
theorem memAdd {o : List Int} {x y : Int} : y ∈ addL o x ↔ y ∈ o ∨ y = x := by
  unfold addL
  split
  · constructor
    · exact Or.inl
    · rintro (h | rfl)
      · exact h
      · assumption
  · rw [memIns]; exact Or.comm
theorem srtAdd {o : List Int} {x : Int} (h : Srt o) : Srt (addL o x) := by
  unfold addL
  split
  · exact h
  · exact srtIns h (by assumption)
theorem lenAdd (o : List Int) (x : Int) : (addL o x).length ≤ o.length + 1 := by
  unfold addL
  split
  · omega
  · rw [lenIns]; omega
theorem addYes {o : List Int} {x : Int} (h : memB o x = true) : addL o x = o := by
  unfold addL; rw [if_pos (of_decide_eq_true h)]
theorem addNo {o : List Int} {x : Int} (h : memB o x = false) : addL o x = ins x o := by
  unfold addL; rw [if_neg (of_decide_eq_false h)]

/-- The set of a list. -/
def mk (l : List Int) : List Int := l.foldl addL []
theorem mkSucc {l : List Int} {k : Nat} (h : k < l.length) : mk (l.take (k + 1)) = addL (mk (l.take k)) l[k] := by
  unfold mk
  rw [List.take_succ_eq_append_getElem h, List.foldl_append]
  rfl
theorem foldFacts : ∀ (l o : List Int), Srt o → Srt (l.foldl addL o) ∧ (∀ x, x ∈ l.foldl addL o ↔ x ∈ o ∨ x ∈ l) ∧ (l.foldl addL o).length ≤ o.length + l.length
  | [], o, h => ⟨h, by simp, by simp⟩
  | a :: l, o, h => by
    obtain ⟨h1, h2, h3⟩ := foldFacts l (addL o a) (srtAdd h)
    refine ⟨h1, fun x => ?_, ?_⟩
    · rw [List.foldl_cons, h2, memAdd, List.mem_cons]
      grind
    · have := lenAdd o a
      rw [List.foldl_cons, List.length_cons]
      omega
theorem srtMk (l : List Int) : Srt (mk l) := (foldFacts l [] srtNil).1
theorem memMk {l : List Int} {x : Int} : x ∈ mk l ↔ x ∈ l := by
  have := (foldFacts l [] srtNil).2.1 x
  simpa [mk] using this
theorem lenMk (l : List Int) : (mk l).length ≤ l.length := by
  have := (foldFacts l [] srtNil).2.2
  simpa [mk] using this
theorem mkEq {r l : List Int} (h : Srt r) (hm : ∀ x, x ∈ r ↔ x ∈ l) : r = mk l := srtExt h (srtMk l) fun x => by rw [hm, memMk]
theorem mkSelf {l : List Int} (h : Srt l) : mk l = l := (mkEq h fun _ => Iff.rfl).symm
theorem memB_yes {l : List Int} {n : Int} {k : Nat} (hk : k < l.length) (h : l[k] = n) : memB l n = true := by
  simp only [memB, decide_eq_true_eq]; subst h; exact List.getElem_mem hk
theorem memB_no {l : List Int} {n : Int} {k : Nat} (hk : l.length ≤ k) (h : ∀ x ∈ l.take k, x ≠ n) : memB l n = false := by
  rw [List.take_of_length_le hk] at h
  simp only [memB, decide_eq_false_iff_not]
  intro hm; exact h n hm rfl
theorem neTakeSucc {l : List Int} {n : Int} {k : Nat} (hk : k < l.length) (h : ∀ x ∈ l.take k, x ≠ n) (e : l[k] ≠ n) : ∀ x ∈ l.take (k + 1), x ≠ n := by
  rw [List.take_succ_eq_append_getElem hk]
  intro x hx
  rcases List.mem_append.1 hx with hx | hx
  · exact h x hx
  · obtain rfl : x = l[k] := by simpa using hx
    exact e
theorem ltTakeSucc {l : List Int} {n : Int} {k : Nat} (hk : k < l.length) (h : ∀ x ∈ l.take k, x < n) (e : l[k] < n) : ∀ x ∈ l.take (k + 1), x < n := by
  rw [List.take_succ_eq_append_getElem hk]
  intro x hx
  rcases List.mem_append.1 hx with hx | hx
  · exact h x hx
  · obtain rfl : x = l[k] := by simpa using hx
    exact e
/-- The elements of a that are (p) or are not in b. -/
def pick (p : Bool) (a b : List Int) : List Int := a.filter fun x => memB b x == p
theorem memPick {p : Bool} {a b : List Int} {x : Int} : x ∈ pick p a b ↔ x ∈ a ∧ (x ∈ b ↔ p = true) := by
  unfold pick memB
  rw [List.mem_filter]
  cases p <;> simp

/-- Merging two lists, with a choice of what is kept. -/
def kp (b : Bool) (x : Int) : List Int := if b then [x] else []
def mrg (f : Bool → Bool → Bool) : List Int → List Int → List Int
  | [], [] => []
  | x :: a, [] => kp (f true false) x ++ mrg f a []
  | [], y :: b => kp (f false true) y ++ mrg f [] b
  | x :: a, y :: b => if x < y then kp (f true false) x ++ mrg f a (y :: b) else if y < x then kp (f false true) y ++ mrg f (x :: a) b else kp (f true true) x ++ mrg f a b
termination_by a b => a.length + b.length
theorem memKp {b : Bool} {x y : Int} : y ∈ kp b x ↔ b = true ∧ y = x := by cases b <;> simp [kp]
theorem mrgFacts (f : Bool → Bool → Bool) : ∀ a b : List Int, Srt a → Srt b → Srt (mrg f a b) ∧ ∀ x, x ∈ mrg f a b ↔ (x ∈ a ∨ x ∈ b) ∧ f (memB a x) (memB b x) = true := by
  intro a b
  have app : ∀ (p : Bool) (x : Int) (l : List Int), Srt l → (∀ y ∈ l, x < y) → Srt (kp p x ++ l) := by
    intro p x l h1 h2
    cases p
    · simpa [kp] using h1
    · exact srtCons.2 ⟨h2, h1⟩
  fun_induction mrg f a b with
  | case1 => intro _ _; exact ⟨srtNil, by simp⟩
  | case2 x a ih =>
    intro ha hb
    obtain ⟨hx, ha'⟩ := srtCons.1 ha
    obtain ⟨i1, i2⟩ := ih ha' hb
    refine ⟨app _ _ _ i1 fun y hy => hx y (by have := ((i2 y).1 hy).1; simpa using this), fun z => ?_⟩
    rw [List.mem_append, memKp, i2]
    have : z ∈ a → x < z := hx z
    by_cases e : z = x
    · subst e
      have : z ∉ a := fun h => by have := this h; omega
      simp [memB, this]
    · simp [memB, e]
  | case3 y b ih =>
    intro ha hb
    obtain ⟨hx, hb'⟩ := srtCons.1 hb
    obtain ⟨i1, i2⟩ := ih ha hb'
    refine ⟨app _ _ _ i1 fun z hz => hx z (by have := ((i2 z).1 hz).1; simpa using this), fun z => ?_⟩
    rw [List.mem_append, memKp, i2]
    have : z ∈ b → y < z := hx z
    by_cases e : z = y
    · subst e
      have : z ∉ b := fun h => by have := this h; omega
      simp [memB, this]
    · simp [memB, e]
  | case4 x a y b h ih =>
    intro ha hb
    obtain ⟨hx, ha'⟩ := srtCons.1 ha
    obtain ⟨hy, _⟩ := srtCons.1 hb
    obtain ⟨i1, i2⟩ := ih ha' hb
    have hxb : ∀ z, z ∈ y :: b → x < z := fun z hz => by
      rw [List.mem_cons] at hz
      rcases hz with rfl | hz
      · exact h
      · have := hy z hz; omega
    refine ⟨app _ _ _ i1 fun z hz => ?_, fun z => ?_⟩
    · rcases ((i2 z).1 hz).1 with h1 | h1
      · exact hx z h1
      · exact hxb z h1
    · rw [List.mem_append, memKp, i2]
      have h1 : z ∈ a → x < z := hx z
      have h2 : z ∈ y :: b → x < z := hxb z
      by_cases e : z = x
      · subst e
        have n1 : z ∉ a := fun h => by have := h1 h; omega
        have n2 : z ∉ y :: b := fun h => by have := h2 h; omega
        have m1 : memB (z :: a) z = true := by simp [memB]
        have m2 : memB (y :: b) z = false := by simp only [memB, decide_eq_false_iff_not]; exact n2
        rw [m1, m2]
        simp only [n1, n2, List.mem_cons_self]
        simp
      · have m1 : memB (x :: a) z = memB a z := by simp [memB, e]
        rw [m1]
        simp [e]
  | case5 x a y b h h' ih =>
    intro ha hb
    obtain ⟨hx, _⟩ := srtCons.1 ha
    obtain ⟨hy, hb'⟩ := srtCons.1 hb
    obtain ⟨i1, i2⟩ := ih ha hb'
    have hya : ∀ z, z ∈ x :: a → y < z := fun z hz => by
      rw [List.mem_cons] at hz
      rcases hz with rfl | hz
      · exact h'
      · have := hx z hz; omega
    refine ⟨app _ _ _ i1 fun z hz => ?_, fun z => ?_⟩
    · rcases ((i2 z).1 hz).1 with h1 | h1
      · exact hya z h1
      · exact hy z h1
    · rw [List.mem_append, memKp, i2]
      have h1 : z ∈ b → y < z := hy z
      have h2 : z ∈ x :: a → y < z := hya z
      by_cases e : z = y
      · subst e
        have n1 : z ∉ b := fun h => by have := h1 h; omega
        have n2 : z ∉ x :: a := fun h => by have := h2 h; omega
        have m1 : memB (z :: b) z = true := by simp [memB]
        have m2 : memB (x :: a) z = false := by simp only [memB, decide_eq_false_iff_not]; exact n2
        rw [m1, m2]
        simp only [n1, n2, List.mem_cons_self]
        simp
      · have m1 : memB (y :: b) z = memB b z := by simp [memB, e]
        rw [m1]
        simp [e]
  | case6 x a y b h h' ih =>
    intro ha hb
    have exy : x = y := by omega
    subst exy
    obtain ⟨hx, ha'⟩ := srtCons.1 ha
    obtain ⟨hy, hb'⟩ := srtCons.1 hb
    obtain ⟨i1, i2⟩ := ih ha' hb'
    refine ⟨app _ _ _ i1 fun z hz => ?_, fun z => ?_⟩
    · rcases ((i2 z).1 hz).1 with h1 | h1
      · exact hx z h1
      · exact hy z h1
    · rw [List.mem_append, memKp, i2]
      by_cases e : z = x
      · subst e
        have n1 : z ∉ a := fun h => by have := hx z h; omega
        have n2 : z ∉ b := fun h => by have := hy z h; omega
        have m1 : memB (z :: a) z = true := by simp [memB]
        have m2 : memB (z :: b) z = true := by simp [memB]
        rw [m1, m2]
        simp [n1, n2]
      · have m1 : memB (x :: a) z = memB a z := by simp [memB, e]
        have m2 : memB (x :: b) z = memB b z := by simp [memB, e]
        rw [m1, m2]
        simp [e]

def fM (p q : Bool) : Bool := p && !q
def min' (a b : List Int) : List Int := mk (pick false a b)
theorem memBmk (l : List Int) (x : Int) : memB (mk l) x = memB l x := by simp only [memB, memMk]
theorem mrgM (a b : List Int) : mrg fM (mk a) (mk b) = min' a b := by
  obtain ⟨h1, h2⟩ := mrgFacts fM _ _ (srtMk a) (srtMk b)
  exact mkEq h1 fun x => by rw [h2, memMk, memMk, memPick, memBmk, memBmk]; simp [fM, memB]; grind
end Go.Proofs.YtpkagpobobmnfaaGreatDoor

namespace Go.Proofs.YtpkagpobobmnfaaGreatDoor
open Go.RowKit (wrap32 wrap64)

/-- The names of the operations, by number; number 0 has the empty one. -/
def mnTab : List ByteArray := [⟨#[]⟩, ⟨#[99, 111, 110, 115, 116]⟩, ⟨#[99, 111, 112, 121]⟩, ⟨#[99, 97, 108, 99]⟩, ⟨#[106, 117, 109, 112]⟩, ⟨#[98, 114, 97, 110, 99, 104]⟩, ⟨#[97, 115, 115, 101, 114, 116]⟩, ⟨#[115, 116, 111, 112]⟩, ⟨#[108, 111, 97, 100]⟩, ⟨#[115, 116, 111, 114, 101]⟩, ⟨#[115, 119, 97, 112]⟩, ⟨#[102, 101, 116, 99, 104, 97, 100, 100]⟩, ⟨#[99, 97, 115]⟩, ⟨#[102, 101, 110, 99, 101]⟩, ⟨#[97, 119, 97, 105, 116]⟩, ⟨#[108, 111, 99, 107]⟩, ⟨#[117, 110, 108, 111, 99, 107]⟩, ⟨#[116, 114, 121, 108, 111, 99, 107]⟩, ⟨#[119, 97, 105, 116]⟩, ⟨#[115, 105, 103, 110, 97, 108]⟩, ⟨#[98, 114, 111, 97, 100, 99, 97, 115, 116]⟩, ⟨#[115, 112, 97, 119, 110]⟩, ⟨#[106, 111, 105, 110]⟩]
def mn (k : Nat) : ByteArray := mnTab.getD k ⟨#[]⟩
/-- Does operation k use field f (0 to 6: A, B, C, Obj, N, Fn, Order)? -/
def usTab : List (List Bool) := [[false, false, false, false, false, false, false], [true, false, false, false, true, false, false], [true, true, false, false, false, false, false], [true, true, true, false, false, true, false], [false, false, false, false, true, false, false], [false, true, false, false, true, false, false], [false, true, false, false, false, false, false], [false, false, false, false, false, false, false], [true, false, false, true, false, false, true], [false, true, false, true, false, false, true], [true, true, false, true, false, false, true], [true, true, false, true, false, false, true], [true, true, true, true, false, false, true], [false, false, false, false, false, false, false], [true, true, false, true, false, true, true], [false, false, false, true, false, false, false], [false, false, false, true, false, false, false], [true, false, false, true, false, false, false], [false, false, false, true, true, false, false], [false, false, false, true, false, false, false], [false, false, false, true, false, false, false], [true, true, false, true, false, false, false], [false, true, false, false, false, false, false]]
def us (k f : Nat) : Bool := (usTab.getD k []).getD f false
/-- The letters of the fields, as the reference lists them. -/
def fdTab : List ByteArray := [⟨#[65, 78]⟩, ⟨#[65, 66]⟩, ⟨#[70, 65, 66, 67]⟩, ⟨#[78]⟩, ⟨#[66, 78]⟩, ⟨#[66]⟩, ⟨#[]⟩, ⟨#[65, 79, 82]⟩, ⟨#[79, 66, 82]⟩, ⟨#[65, 79, 66, 82]⟩, ⟨#[65, 79, 66, 82]⟩, ⟨#[65, 79, 66, 67, 82]⟩, ⟨#[]⟩, ⟨#[65, 79, 70, 66, 82]⟩, ⟨#[79]⟩, ⟨#[79]⟩, ⟨#[65, 79]⟩, ⟨#[79, 78]⟩, ⟨#[79]⟩, ⟨#[79]⟩, ⟨#[65, 79, 66]⟩, ⟨#[66]⟩]
def fd (k : Nat) : ByteArray := fdTab.getD k ⟨#[]⟩
def lt7 : List UInt8 := [65, 66, 67, 79, 78, 70, 82]
theorem usHas : ∀ k, k < 22 → ∀ f, f < 7 → us (k + 1) f = decide (lt7.getD f 0 ∈ (fd k).data.toList) := by decide
/-- An instruction: its eight fields. -/
structure I8 where mk8 ::
  op : Int
  a : Int
  b : Int
  c : Int
  obj : Int
  n : Int
  fn : Int
  ord : Int
  deriving DecidableEq
def opOk (o : Int) : Bool := decide (1 ≤ o ∧ o ≤ 22)
def rgOk (r : Int) : Bool := decide (0 ≤ r ∧ r < 8)
def orOk (o : Int) : Bool := decide (0 ≤ o ∧ o ≤ 2)
def fnOk (f : Int) : Bool := decide (1 ≤ f ∧ f ≤ 10)
def nOk (n : Int) : Bool := decide (wrap32 n = n)
def I8.con (i : I8) (f : Nat) : Int := [i.a, i.b, i.c, i.obj, i.n, i.fn, i.ord].getD f 0
/-- Does the operation use field f? -/
def I8.u (i : I8) (f : Nat) : Bool := us i.op.toNat f
/-- Are the fields that the operation does not use zero? -/
def I8.fOk (i : I8) (f : Nat) : Bool := i.u f || decide (i.con f = 0)
def I8.fs (i : I8) : Bool := i.fOk 0 && i.fOk 1 && i.fOk 2 && i.fOk 3 && i.fOk 4 && i.fOk 5 && i.fOk 6
def I8.rs (i : I8) : Bool := rgOk i.a && rgOk i.b && rgOk i.c
/-- The error of an instruction on its own. -/
def I8.chk (i : I8) : Int :=
  if opOk i.op = false then 8 else if i.fs = false then 9 else if i.rs = false then 10 else if orOk i.ord = false then 13 else
  if (i.u 5 && !fnOk i.fn) = true then 8 else if (decide (i.op = 1) && !nOk i.n) = true then 2 else 0
def I8.zero : I8 := ⟨0, 0, 0, 0, 0, 0, 0, 0⟩
theorem bytesData (s : ByteArray) : s.toList = s.data.toList := Lib.toList_data s
end Go.Proofs.YtpkagpobobmnfaaGreatDoor

namespace Go.Proofs.YtpkagpobobmnfaaGreatDoor
open Go.RowKit (wrap32 wrap64)

/-! Names. -/
/-! Programs. -/
def belB (n : Int) (c : Nat) : Bool := decide (0 ≤ n) && decide (n < (c : Int))
/-! The functions that threads can run. -/
end Go.Proofs.YtpkagpobobmnfaaGreatDoor

namespace Go.Proofs.YtpkagpobobmnfaaGreatDoor

/-! Paths. -/
def RcN (g : Nat → List Nat) (al : Nat → Bool) : Nat → Nat → Nat → Prop
  | 0, s, x => al s = true ∧ s = x
  | k + 1, s, x => al s = true ∧ ∃ y, y ∈ g s ∧ RcN g al k y x
/-- There is a path from s to x over nodes that al lets in. -/
def Rc (g : Nat → List Nat) (al : Nat → Bool) (s x : Nat) : Prop := ∃ k, RcN g al k s x
section
variable {g : Nat → List Nat} {al bl : Nat → Bool} {s x y z : Nat}
theorem Rc.refl (h : al s = true) : Rc g al s s := ⟨0, h, rfl⟩
theorem Rc.step (h : al s = true) (hy : y ∈ g s) (hr : Rc g al y x) : Rc g al s x := by
  obtain ⟨k, hk⟩ := hr
  exact ⟨k + 1, h, y, hy, hk⟩
theorem Rc.ind {P : Nat → Prop} (h0 : al x = true → P x) (h1 : ∀ s y, al s = true → y ∈ g s → Rc g al y x → P y → P s) (h : Rc g al s x) : P s := by
  obtain ⟨k, hk⟩ := h
  induction k generalizing s with
  | zero => obtain ⟨h2, rfl⟩ := hk; exact h0 h2
  | succ k ih =>
    obtain ⟨h2, y, hy, hk⟩ := hk
    exact h1 s y h2 hy ⟨k, hk⟩ (ih hk)
theorem Rc.left (h : Rc g al s x) : al s = true := by
  obtain ⟨k, hk⟩ := h
  cases k with
  | zero => exact hk.1
  | succ k => exact hk.1
theorem Rc.right (h : Rc g al s x) : al x = true := Rc.ind (P := fun _ => al x = true) (fun h => h) (fun _ _ _ _ _ h => h) h
theorem Rc.trans (h : Rc g al s y) (h2 : Rc g al y x) : Rc g al s x := Rc.ind (P := fun s => Rc g al s x) (fun _ => h2) (fun _ _ ha hy _ h => Rc.step ha hy h) h
theorem Rc.snoc (h : Rc g al s y) (hx : x ∈ g y) (ha : al x = true) : Rc g al s x := h.trans (Rc.step h.right hx (Rc.refl ha))
theorem Rc.mono (hab : ∀ x, al x = true → bl x = true) (h : Rc g al s x) : Rc g bl s x := Rc.ind (P := fun s => Rc g bl s x) (fun h => Rc.refl (hab _ h)) (fun _ _ ha hy _ h => Rc.step (hab _ ha) hy h) h
/-- What holds at the start and goes on along each step holds at the end. -/
theorem Rc.fwd {P : Nat → Prop} (h : Rc g al s x) (h0 : P s) (h1 : ∀ u v, al u = true → P u → v ∈ g u → al v = true → P v) : P x := by
  obtain ⟨k, hk⟩ := h
  induction k generalizing s with
  | zero => obtain ⟨_, rfl⟩ := hk; exact h0
  | succ k ih =>
    obtain ⟨h2, y, hy, hk⟩ := hk
    exact ih (h1 s y h2 h0 hy (Rc.left ⟨k, hk⟩)) hk
end
/-- The nodes below n, but for d. -/
def avd (n : Nat) (d : Int) (x : Nat) : Bool := decide (x < n) && decide ((x : Int) ≠ d)
theorem avdIff {n x : Nat} {d : Int} : avd n d x = true ↔ x < n ∧ (x : Int) ≠ d := by unfold avd; rw [Bool.and_eq_true, decide_eq_true_iff, decide_eq_true_iff]
section
variable {n : Nat} {g : Nat → List Nat}
/-- Where no path leads to e, the paths don't contain e. -/
theorem thru {a : Int} {e i : Nat} (h : Rc g (avd n a) 0 i) (he : ¬ Rc g (avd n a) 0 e) : Rc g (avd n e) 0 i := by
  have h0 := h.left
  have hne : ∀ x, Rc g (avd n a) 0 x → avd n e x = true := fun x hx => avdIff.2 ⟨(avdIff.1 hx.right).1, fun hh => he ((show x = e by omega) ▸ hx)⟩
  exact (h.fwd (P := fun x => Rc g (avd n a) 0 x ∧ Rc g (avd n e) 0 x) ⟨Rc.refl h0, Rc.refl (hne 0 (Rc.refl h0))⟩ fun u v _ hp hv hav => ⟨hp.1.snoc hv hav, hp.2.snoc hv (hne v (hp.1.snoc hv hav))⟩).2
/-- The last of two nodes on a path. -/
theorem last2 {d e i s : Nat} (h : Rc g (avd n (-1)) s i) (hd : i ≠ d) (he : i ≠ e) (hde : d ≠ e) : (Rc g (avd n d) s i ∧ Rc g (avd n e) s i) ∨ Rc g (avd n e) d i ∨ Rc g (avd n d) e i := by
  refine Rc.ind (P := fun s => (Rc g (avd n d) s i ∧ Rc g (avd n e) s i) ∨ Rc g (avd n e) d i ∨ Rc g (avd n d) e i) (fun h0 => ?_) (fun u v hu hv _ ih => ?_) h
  · have := (avdIff.1 h0).1
    exact .inl ⟨Rc.refl (avdIff.2 ⟨this, by omega⟩), Rc.refl (avdIff.2 ⟨this, by omega⟩)⟩
  · rcases ih with ⟨h1, h2⟩ | ih
    · have hun := (avdIff.1 hu).1
      by_cases e1 : u = d
      · subst e1
        exact .inr (.inl (Rc.step (avdIff.2 ⟨hun, by omega⟩) hv h2))
      · by_cases e2 : u = e
        · subst e2
          exact .inr (.inr (Rc.step (avdIff.2 ⟨hun, by omega⟩) hv h1))
        · exact .inl ⟨Rc.step (avdIff.2 ⟨hun, by omega⟩) hv h1, Rc.step (avdIff.2 ⟨hun, by omega⟩) hv h2⟩
    · exact .inr ih
/-- Is x reached from node 0 without d? -/
noncomputable def rcB (n : Nat) (g : Nat → List Nat) (d : Int) (x : Nat) : Bool := @decide (Rc g (avd n d) 0 x) (Classical.propDecidable _)
theorem rcIff {d : Int} {x : Nat} : rcB n g d x = true ↔ Rc g (avd n d) 0 x := by unfold rcB; exact @decide_eq_true_iff _ (Classical.propDecidable _)
theorem rcNot {d : Int} {x : Nat} : rcB n g d x = false ↔ ¬ Rc g (avd n d) 0 x := by rw [← rcIff]; simp
/-- Does d dominate i? -/
noncomputable def dmB (n : Nat) (g : Nat → List Nat) (d i : Nat) : Bool := rcB n g (-1) i && !rcB n g d i
theorem dmIff {d i : Nat} : dmB n g d i = true ↔ Rc g (avd n (-1)) 0 i ∧ ¬ Rc g (avd n d) 0 i := by
  unfold dmB
  rw [Bool.and_eq_true, rcIff, Bool.not_eq_true', rcNot]
theorem dmRefl {i : Nat} (h : rcB n g (-1) i = true) : dmB n g i i = true := dmIff.2 ⟨rcIff.1 h, fun h => (avdIff.1 h.right).2 rfl⟩
theorem dmRch {d i : Nat} (h : dmB n g d i = true) : Rc g (avd n (-1)) 0 d := Classical.byContradiction fun hn => (dmIff.1 h).2 (thru (dmIff.1 h).1 hn)
theorem dmLt {d i : Nat} (h : dmB n g d i = true) : d < n ∧ i < n := ⟨(avdIff.1 (dmRch h).right).1, (avdIff.1 (dmIff.1 h).1.right).1⟩
theorem dmTrans {d e i : Nat} (h1 : dmB n g d e = true) (h2 : dmB n g e i = true) : dmB n g d i = true :=
  dmIff.2 ⟨(dmIff.1 h2).1, fun h => (dmIff.1 h2).2 (thru h (dmIff.1 h1).2)⟩
theorem dmAnti {d e : Nat} (h1 : dmB n g d e = true) (h2 : dmB n g e d = true) : d = e := by
  refine Decidable.byContradiction fun hne => ?_
  have hd := (dmIff.1 h1).2
  have he := (dmIff.1 h2).2
  have hr := (dmIff.1 h2).1
  have h0 := (avdIff.1 hr.left).1
  have hz : avd n d 0 = true := avdIff.2 ⟨h0, fun hh => he ((show 0 = d by omega) ▸ Rc.refl (avdIff.2 ⟨h0, fun h2 => hne (by omega)⟩))⟩
  have hne2 : ∀ x, Rc g (avd n d) 0 x → x ≠ e := fun x hx hh => hd (hh ▸ hx)
  have hz2 : avd n e 0 = true := avdIff.2 ⟨h0, fun hh => hne2 0 (Rc.refl hz) (by omega)⟩
  have := hr.fwd (P := fun x => Rc g (avd n d) 0 x ∧ Rc g (avd n e) 0 x) ⟨Rc.refl hz, Rc.refl hz2⟩ fun u v _ hp hv hav => by
    have hvn := (avdIff.1 hav).1
    have hvd : v ≠ d := fun hh => he (by subst hh; exact hp.2.snoc hv (avdIff.2 ⟨hvn, by omega⟩))
    have h3 := hp.1.snoc hv (avdIff.2 ⟨hvn, by omega⟩)
    exact ⟨h3, hp.2.snoc hv (avdIff.2 ⟨hvn, fun hh => hne2 v h3 (by omega)⟩)⟩
  exact (avdIff.1 this.1.right).2 rfl
/-- Of two nodes that dominate a third one dominates the other. -/
theorem dmChain {d e i : Nat} (h1 : dmB n g d i = true) (h2 : dmB n g e i = true) : dmB n g d e = true ∨ dmB n g e d = true := by
  by_cases hde : d = e
  · subst hde; exact .inl (dmRefl (rcIff.2 (dmRch h1)))
  by_cases hid : i = d
  · subst hid; exact .inr h2
  by_cases hie : i = e
  · subst hie; exact .inl h1
  have hi := (dmIff.1 h1).1
  rcases last2 hi hid hie hde with ⟨h, _⟩ | h | h
  · exact absurd h (dmIff.1 h1).2
  · -- the last is d: a path from d to i without e
    refine .inr (dmIff.2 ⟨dmRch h1, fun hr => (dmIff.1 h2).2 (hr.trans h)⟩)
  · refine .inl (dmIff.2 ⟨dmRch h2, fun hr => (dmIff.1 h1).2 (hr.trans h)⟩)
/-- Those that dominate i, in order. -/
noncomputable def dmL (n : Nat) (g : Nat → List Nat) (i : Nat) : List Nat := (List.range n).filter fun d => dmB n g d i
theorem dmLMem {d i : Nat} : d ∈ dmL n g i ↔ dmB n g d i = true := by
  unfold dmL
  rw [List.mem_filter, List.mem_range]
  exact ⟨fun h => h.2, fun h => ⟨(dmLt h).1, h⟩⟩
theorem cntLt {p q : Nat → Bool} : ∀ {l : List Nat}, (∀ x ∈ l, p x = true → q x = true) → (∃ x, x ∈ l ∧ q x = true ∧ p x = false) → (l.filter p).length < (l.filter q).length
  | [], _, h => by obtain ⟨x, hx, _⟩ := h; cases hx
  | y :: l, h, hx => by
    have hl : ∀ x ∈ l, p x = true → q x = true := fun x hm => h x (List.mem_cons_of_mem _ hm)
    have hle : (l.filter p).length ≤ (l.filter q).length := by
      rw [← List.countP_eq_length_filter, ← List.countP_eq_length_filter]
      exact List.countP_mono_left hl
    obtain ⟨x, hm, hq, hp⟩ := hx
    rw [List.filter_cons, List.filter_cons]
    rcases List.mem_cons.1 hm with rfl | hm
    · rw [if_pos hq, if_neg (by rw [hp]; simp), List.length_cons]; omega
    · have := cntLt hl ⟨x, hm, hq, hp⟩
      have hy := h y (by simp)
      by_cases hpy : p y = true
      · rw [if_pos hpy, if_pos (hy hpy), List.length_cons, List.length_cons]; omega
      · rw [if_neg hpy]
        split <;> simp <;> omega
theorem dmLenLt {d i : Nat} (h : dmB n g d i = true) (hne : d ≠ i) : (dmL n g d).length < (dmL n g i).length :=
  cntLt (fun _ _ hx => dmTrans hx h) ⟨i, List.mem_range.2 (dmLt h).2, dmRefl (rcIff.2 (dmIff.1 h).1), by
    cases e : dmB n g i d
    · rfl
    · exact absurd (dmAnti h e) hne⟩
/-- m is the number of i's immediate dominator, or -1. -/
def IdOf (n : Nat) (g : Nat → List Nat) (i : Nat) (m : Int) : Prop :=
  (m = -1 ∧ ∀ d, d ≠ i → dmB n g d i = false) ∨ ∃ d : Nat, m = d ∧ d ≠ i ∧ dmB n g d i = true ∧ ∀ e, e ≠ i → dmB n g e i = true → dmB n g e d = true
theorem IdOf.one {i : Nat} {m k : Int} (h : IdOf n g i m) (h' : IdOf n g i k) : m = k := by
  rcases h with ⟨rfl, h⟩ | ⟨d, rfl, h1, h2, h3⟩
  · rcases h' with ⟨rfl, _⟩ | ⟨e, rfl, k1, k2, _⟩
    · rfl
    · rw [h e k1] at k2; cases k2
  · rcases h' with ⟨rfl, k⟩ | ⟨e, rfl, k1, k2, k3⟩
    · rw [k d h1] at h2; cases h2
    · rw [dmAnti (k3 d h1 h2) (h3 e k1 k2)]
/-- What the specification's search for it holds when it has looked at those below k. -/
def BsTo (n : Nat) (g : Nat → List Nat) (i k : Nat) (m : Int) : Prop :=
  (m = -1 ∧ ∀ d, d < k → d ≠ i → dmB n g d i = false) ∨ ∃ d : Nat, m = d ∧ d ≠ i ∧ dmB n g d i = true ∧ ∀ e, e < k → e ≠ i → dmB n g e i = true → dmB n g e d = true
theorem bsStart (i : Nat) : BsTo n g i 0 (-1) := .inl ⟨rfl, fun _ h => absurd h (Nat.not_lt_zero _)⟩
theorem bsNo {i k : Nat} {m : Int} (h : BsTo n g i k m) (hk : k = i ∨ dmB n g k i = false) : BsTo n g i (k + 1) m := by
  rcases h with ⟨h0, h⟩ | ⟨d, h0, h1, h2, h3⟩
  · refine .inl ⟨h0, fun d hd hne => ?_⟩
    by_cases e : d = k
    · subst e; exact hk.elim (fun h => absurd h hne) id
    · exact h d (by omega) hne
  · refine .inr ⟨d, h0, h1, h2, fun x hx hne hxi => ?_⟩
    by_cases e : x = k
    · subst e
      rcases hk with hk | hk
      · exact absurd hk hne
      · rw [hk] at hxi; cases hxi
    · exact h3 x (by omega) hne hxi
theorem bsPut {i k : Nat} {m : Int} (h : BsTo n g i k m) (hk : k ≠ i) (hd : dmB n g k i = true) (hm : m < 0 ∨ ∃ b : Nat, m = b ∧ dmB n g b k = true) : BsTo n g i (k + 1) k := by
  refine .inr ⟨k, rfl, hk, hd, fun x hx hne hxi => ?_⟩
  by_cases e : x = k
  · subst e; exact dmRefl (rcIff.2 (dmRch hd))
  · rcases h with ⟨h0, h⟩ | ⟨d, h0, h1, h2, h3⟩
    · rw [h x (by omega) hne] at hxi; cases hxi
    · rcases hm with hm | ⟨b, hb, hm⟩
      · omega
      · have : b = d := by omega
        subst this
        exact dmTrans (h3 x (by omega) hne hxi) hm
theorem bsKeep {i k : Nat} {b : Nat} (h : BsTo n g i k b) (hd : dmB n g k i = true) (hb : dmB n g b k = false) : BsTo n g i (k + 1) b := by
  rcases h with ⟨h0, _⟩ | ⟨d, h0, h1, h2, h3⟩
  · omega
  · have : b = d := by omega
    subst this
    refine .inr ⟨b, rfl, h1, h2, fun x hx hne hxi => ?_⟩
    by_cases e : x = k
    · subst e
      rcases dmChain h2 hd with h | h
      · rw [hb] at h; cases h
      · exact h
    · exact h3 x (by omega) hne hxi
theorem bsEnd {i : Nat} {m : Int} (h : BsTo n g i n m) : IdOf n g i m := by
  rcases h with ⟨h0, h⟩ | ⟨d, h0, h1, h2, h3⟩
  · refine .inl ⟨h0, fun d hne => ?_⟩
    cases e : dmB n g d i
    · rfl
    · rw [h d (dmLt e).1 hne] at e; cases e
  · exact .inr ⟨d, h0, h1, h2, fun x hne hxi => h3 x (dmLt hxi).1 hne hxi⟩
theorem bsSome (i : Nat) : ∀ k, ∃ m, BsTo n g i k m
  | 0 => ⟨-1, bsStart i⟩
  | k + 1 => by
    obtain ⟨m, h⟩ := bsSome i k
    by_cases hk : k = i ∨ dmB n g k i = false
    · exact ⟨m, bsNo h hk⟩
    · rw [not_or] at hk
      have hd : dmB n g k i = true := by simpa using hk.2
      by_cases hm : m < 0 ∨ ∃ b : Nat, m = b ∧ dmB n g b k = true
      · exact ⟨k, bsPut h hk.1 hd hm⟩
      · rw [not_or] at hm
        obtain ⟨b, rfl⟩ : ∃ b : Nat, m = b := ⟨m.toNat, by omega⟩
        refine ⟨b, bsKeep h hd ?_⟩
        cases e : dmB n g b k
        · rfl
        · exact absurd ⟨b, rfl, e⟩ hm.2
theorem idSome (n : Nat) (g : Nat → List Nat) (i : Nat) : ∃ m, IdOf n g i m := by
  obtain ⟨m, h⟩ := bsSome (n := n) (g := g) i n
  exact ⟨m, bsEnd h⟩
noncomputable def idm (n : Nat) (g : Nat → List Nat) (i : Nat) : Int := Classical.choose (idSome n g i)
theorem idIs (n : Nat) (g : Nat → List Nat) (i : Nat) : IdOf n g i (idm n g i) := Classical.choose_spec (idSome n g i)
theorem idEq {i : Nat} {m : Int} (h : IdOf n g i m) : idm n g i = m := (idIs n g i).one h
theorem idLow (n : Nat) (g : Nat → List Nat) (i : Nat) : -1 ≤ idm n g i ∧ idm n g i < n ∨ idm n g i = -1 := by
  rcases idIs n g i with ⟨h, _⟩ | ⟨d, h, _, h2, _⟩
  · exact .inr h
  · have := (dmLt h2).1
    exact .inl ⟨by omega, by omega⟩
/-- The immediate dominator, by the number of dominators. -/
theorem idLen {d i : Nat} (h : dmB n g d i = true) (hl : (dmL n g d).length + 1 = (dmL n g i).length) : idm n g i = d := by
  have hne : d ≠ i := fun e => by subst e; omega
  refine idEq (.inr ⟨d, rfl, hne, h, fun e he hei => ?_⟩)
  rcases dmChain hei h with h1 | h1
  · exact h1
  · by_cases hde : d = e
    · subst hde; exact h1
    · have := dmLenLt h1 hde
      have := dmLenLt hei he
      omega
theorem idLenOf {i m : Nat} (h : idm n g i = m) : m ≠ i ∧ dmB n g m i = true ∧ (dmL n g m).length + 1 = (dmL n g i).length := by
  have h0 := idIs n g i
  rw [h] at h0
  rcases h0 with ⟨h0, _⟩ | ⟨d, h0, h1, h2, h3⟩
  · omega
  · have : m = d := by omega
    subst this
    refine ⟨h1, h2, ?_⟩
    -- those that dominate m are those that dominate i, but for i
    have e : dmL n g m = (dmL n g i).erase i := by
      have hn : (dmL n g i).Nodup := List.nodup_range.filter _
      rw [hn.erase_eq_filter]
      unfold dmL
      rw [List.filter_filter]
      refine List.filter_congr fun x _ => ?_
      by_cases hx : x = i
      · subst hx
        have : dmB n g x m = false := by
          cases e : dmB n g x m
          · rfl
          · exact absurd (dmAnti h2 e) h1
        rw [this]; simp
      · have : (x != i) = true := by simpa using hx
        rw [this, Bool.true_and, Bool.eq_iff_iff]
        exact ⟨fun h => dmTrans h h2, fun h => h3 x hx h⟩
    have hm : i ∈ dmL n g i := dmLMem.2 (dmRefl (rcIff.2 (dmIff.1 h2).1))
    rw [e, List.length_erase_of_mem hm]
    have := List.length_pos_of_mem hm
    omega
theorem idNone {i : Nat} (h : ∀ d, dmB n g d i = true → (dmL n g d).length + 1 ≠ (dmL n g i).length) : idm n g i = -1 := by
  rcases idLow n g i with ⟨h1, _⟩ | h1
  · by_cases h0 : idm n g i = -1
    · exact h0
    · obtain ⟨m, hm⟩ : ∃ m : Nat, idm n g i = m := ⟨(idm n g i).toNat, by omega⟩
      obtain ⟨_, h3, h4⟩ := idLenOf hm
      exact absurd h4 (h m h3)
  · exact h1
end
end Go.Proofs.YtpkagpobobmnfaaGreatDoor

namespace Go.Proofs.YtpkagpobobmnfaaGreatDoor

/-- Does the instruction jump? -/
def I8.jmp (i : I8) : Bool := decide (i.op = 4) || decide (i.op = 5)
/-- The first error of a code's instructions; len: how many it has. -/
def cfF (len : Nat) : List I8 → Int
  | [] => 0
  | i :: t => if i.chk ≠ 0 then i.chk else if (i.jmp && !belB i.n (len + 1)) = true then 12 else cfF len t
def cfE (C : List I8) : Int := if 64 < C.length then 4 else cfF C.length C
theorem cfGo {len : Nat} {C : List I8} {k : Nat} (hk : k < C.length) (h1 : C[k].chk = 0) (h2 : (C[k].jmp && !belB C[k].n (len + 1)) = false) : cfF len (C.drop k) = cfF len (C.drop (k + 1)) := by
  rw [List.drop_eq_getElem_cons hk, cfF, if_neg (by rw [h1]; simp), if_neg (by rw [h2]; simp)]
theorem cfBad1 {len : Nat} {C : List I8} {k : Nat} (hk : k < C.length) (h1 : C[k].chk ≠ 0) : cfF len (C.drop k) = C[k].chk := by
  rw [List.drop_eq_getElem_cons hk, cfF, if_pos h1]
theorem cfBad2 {len : Nat} {C : List I8} {k : Nat} (hk : k < C.length) (h1 : C[k].chk = 0) (h2 : (C[k].jmp && !belB C[k].n (len + 1)) = true) : cfF len (C.drop k) = 12 := by
  rw [List.drop_eq_getElem_cons hk, cfF, if_neg (by rw [h1]; simp), if_pos h2]
theorem cfEnd {len : Nat} {C : List I8} {k : Nat} (hk : C.length ≤ k) : cfF len (C.drop k) = 0 := by rw [List.drop_eq_nil_of_le hk, cfF]
theorem cfAll {len : Nat} : ∀ {C : List I8}, cfF len C = 0 → ∀ i ∈ C, i.chk = 0 ∧ (i.jmp = true → belB i.n (len + 1) = true)
  | [], _, i, h => by cases h
  | j :: t, h, i, hi => by
    rw [cfF] at h
    split at h
    · rename_i h1; exact absurd h h1
    · rename_i h1
      split at h
      · cases h
      · rename_i h2
        rcases List.mem_cons.1 hi with rfl | hi
        · refine ⟨by simpa using h1, fun hj => ?_⟩
          rw [hj, Bool.true_and] at h2
          simpa using h2
        · exact cfAll h i hi
/-- The code has no error. -/
structure CfOk (C : List I8) : Prop where
  len : C.length ≤ 64
  chk : ∀ i ∈ C, i.chk = 0
  tgt : ∀ i ∈ C, i.jmp = true → 0 ≤ i.n ∧ i.n ≤ C.length
theorem cfOk {C : List I8} (h : cfE C = 0) : CfOk C := by
  unfold cfE at h
  split at h
  · cases h
  · rename_i hl
    refine ⟨by omega, fun i hi => (cfAll h i hi).1, fun i hi hj => ?_⟩
    have := (cfAll h i hi).2 hj
    unfold belB at this
    rw [Bool.and_eq_true, decide_eq_true_iff, decide_eq_true_iff] at this
    omega
/-- The successors of an instruction, as they are visited. -/
def scI (n at_ : Nat) (i : I8) : List Nat := if i.op = 4 then [i.n.toNat] else if i.op = 5 then [i.n.toNat, at_ + 1] else if i.op = 7 then [n] else [at_ + 1]
def sc (C : List I8) (at_ : Nat) : List Nat := match C[at_]? with
  | some i => scI C.length at_ i
  | none => []
theorem scAt {C : List I8} {k : Nat} (hk : k < C.length) : sc C k = scI C.length k C[k] := by unfold sc; rw [List.getElem?_eq_getElem hk]
theorem scLe {C : List I8} (h : CfOk C) {k y : Nat} (hy : y ∈ sc C k) : k < C.length ∧ y ≤ C.length := by
  by_cases hk : k < C.length
  · refine ⟨hk, ?_⟩
    rw [scAt hk] at hy
    unfold scI at hy
    have hj := h.tgt C[k] (List.getElem_mem hk)
    unfold I8.jmp at hj
    split at hy
    · rename_i h4
      rw [List.mem_singleton] at hy
      have := hj (by rw [h4]; simp)
      omega
    · split at hy
      · rename_i h5
        have := hj (by rw [h5]; simp)
        simp only [List.mem_cons, List.not_mem_nil, or_false] at hy
        omega
      · split at hy <;> (rw [List.mem_singleton] at hy; omega)
  · unfold sc at hy
    rw [List.getElem?_eq_none (by omega)] at hy
    cases hy
theorem scLen {C : List I8} {k : Nat} : (sc C k).length ≤ 2 := by
  unfold sc
  split
  · unfold scI; repeat' split
    all_goals simp
  · simp
/-- The successors in increasing order. -/
def scS (C : List I8) (k : Nat) : List Int := mk ((sc C k).map Int.ofNat)
theorem scSMem {C : List I8} {k : Nat} {x : Int} : x ∈ scS C k ↔ ∃ y, y ∈ sc C k ∧ x = (y : Int) := by
  unfold scS
  rw [memMk, List.mem_map]
  exact ⟨fun ⟨y, h1, h2⟩ => ⟨y, h1, h2.symm⟩, fun ⟨y, h1, h2⟩ => ⟨y, h1, h2.symm⟩⟩
/-- Those that come before: of the instructions below k those of which x is a successor. -/
def pvK (C : List I8) (x : Nat) : Nat → List Nat
  | 0 => []
  | k + 1 => pvK C x k ++ ((sc C k).filter (fun y => decide (y = x))).map fun _ => k
def pv (C : List I8) (x : Nat) : List Nat := pvK C x C.length
theorem pvKMem {C : List I8} {x i : Nat} : ∀ k, i ∈ pvK C x k ↔ i < k ∧ x ∈ sc C i
  | 0 => by simp [pvK]
  | k + 1 => by
    rw [pvK, List.mem_append, pvKMem k, List.mem_map]
    constructor
    · rintro (⟨h1, h2⟩ | ⟨y, h1, h2⟩)
      · exact ⟨by omega, h2⟩
      · rw [List.mem_filter, decide_eq_true_iff] at h1
        obtain ⟨h3, rfl⟩ := h1
        subst h2
        exact ⟨by omega, h3⟩
    · rintro ⟨h1, h2⟩
      by_cases e : i = k
      · subst e
        exact .inr ⟨x, by rw [List.mem_filter, decide_eq_true_iff]; exact ⟨h2, rfl⟩, rfl⟩
      · exact .inl ⟨by omega, h2⟩
theorem pvMem {C : List I8} {x i : Nat} : i ∈ pv C x ↔ i < C.length ∧ x ∈ sc C i := pvKMem _
theorem pvKLen {C : List I8} {x : Nat} : ∀ k, (pvK C x k).length ≤ 2 * k
  | 0 => by simp [pvK]
  | k + 1 => by
    have h1 := pvKLen (C := C) (x := x) k
    have h2 : ((sc C k).filter (fun y => decide (y = x))).length ≤ 2 := Nat.le_trans (List.length_filter_le _ _) scLen
    rw [pvK, List.length_append, List.length_map]
    omega

/-! Passes over a table of n places. -/
/-- Nothing goes on from a place of the table that is not in it. -/
def ClT (g : Nat → List Nat) (al T : Nat → Bool) : Prop := ∀ i, al i = true → T i = true → ∀ y, y ∈ g i → al y = true → T y = true
/-- What the table T holds behind p passes. -/
structure PsT (n : Nat) (g : Nat → List Nat) (al S0 : Nat → Bool) (p : Nat) (T : Nat → Bool) : Prop where
  sub : ∀ x, al x = true → T x = true → ∃ s, S0 s = true ∧ Rc g al s x
  st : ∀ s, al s = true → S0 s = true → T s = true
  big : ClT g al T ∨ p + 1 ≤ ((List.range n).filter fun x => al x && T x).length
section
variable {n : Nat} {g : Nat → List Nat} {al S0 T T' : Nat → Bool} {p : Nat}
theorem psStart (hal : ∀ x, al x = true → x < n) (h : ∀ x, al x = true → T x = S0 x) : PsT n g al S0 0 T := by
  refine ⟨fun x ha hT => ⟨x, by rw [← h x ha]; exact hT, Rc.refl ha⟩, fun s ha h0 => by rw [h s ha]; exact h0, ?_⟩
  by_cases hx : ∃ x, al x = true ∧ T x = true
  · obtain ⟨x, h2, h3⟩ := hx
    right
    exact List.length_pos_of_mem (a := x) (by rw [List.mem_filter, List.mem_range, h2, h3]; exact ⟨hal x h2, rfl⟩)
  · exact .inl fun i ha hT => absurd ⟨i, ha, hT⟩ hx
theorem clRc (hc : ClT g al T) {s x : Nat} (hs : T s = true) (h : Rc g al s x) : T x = true :=
  (h.fwd (P := fun x => al x = true ∧ T x = true) ⟨h.left, hs⟩ fun u v _ hp hv ha => ⟨ha, hc u hp.1 hp.2 v hv ha⟩).2
/-- A pass: more places, each a step of such as were there. -/
theorem psNext (hal : ∀ x, al x = true → x < n) (h : PsT n g al S0 p T) (h1 : ∀ x, al x = true → T x = true → T' x = true) (h2 : ∀ x, al x = true → T' x = true → ∃ s, S0 s = true ∧ Rc g al s x)
    (h3 : ∀ i, al i = true → T i = true → ∀ y, y ∈ g i → al y = true → T' y = true) : PsT n g al S0 (p + 1) T' := by
  refine ⟨h2, fun s ha h0 => h1 s ha (h.st s ha h0), ?_⟩
  by_cases hc : ClT g al T'
  · exact .inl hc
  · right
    have hnew : ∃ x, al x = true ∧ T' x = true ∧ T x = false := by
      refine Classical.byContradiction fun hno => hc fun i hi hT y hy hay => h3 i hi ?_ y hy hay
      cases e : T i
      · exact absurd ⟨i, hi, hT, e⟩ hno
      · rfl
    obtain ⟨x, hx1, hx2, hx3⟩ := hnew
    rcases h.big with hb | hb
    · obtain ⟨s, hs, hr⟩ := h2 x hx1 hx2
      have := clRc hb (h.st s hr.left hs) hr
      rw [hx3] at this; cases this
    · have hlt : ((List.range n).filter fun x => al x && T x).length < ((List.range n).filter fun x => al x && T' x).length := by
        refine cntLt (fun y _ hy => ?_) ⟨x, List.mem_range.2 (hal x hx1), by rw [hx1, hx2]; rfl, by rw [hx3, Bool.and_false]⟩
        rw [Bool.and_eq_true] at hy ⊢
        exact ⟨hy.1, h1 y hy.1 hy.2⟩
      omega
/-- n passes find all. -/
theorem psEnd (h : PsT n g al S0 n T) {x : Nat} (ha : al x = true) : T x = true ↔ ∃ s, S0 s = true ∧ Rc g al s x := by
  refine ⟨h.sub x ha, fun ⟨s, hs, hr⟩ => ?_⟩
  rcases h.big with hb | hb
  · exact clRc hb (h.st s hr.left hs) hr
  · have : ((List.range n).filter fun x => al x && T x).length ≤ n := Nat.le_trans (List.length_filter_le _ _) (by simp)
    omega
end

/-! Searches that visit each node once. -/
/-- How many nodes below n may still be visited. -/
def lft (n : Nat) (al : Nat → Bool) (D : List Nat) : Nat := ((List.range n).filter fun x => al x && !decide (x ∈ D)).length
theorem lftPut {n : Nat} {al : Nat → Bool} {D D' : List Nat} {x : Nat} (hx : x < n) (ha : al x = true) (hn : x ∉ D) (hs : ∀ y, y ∈ D → y ∈ D') (hx' : x ∈ D') : lft n al D' < lft n al D := by
  refine cntLt (fun y _ hy => ?_) ⟨x, List.mem_range.2 hx, by rw [ha, decide_eq_false hn]; rfl, by rw [decide_eq_true hx', Bool.not_true, Bool.and_false]⟩
  rw [Bool.and_eq_true, Bool.not_eq_true', decide_eq_false_iff_not] at hy ⊢
  exact ⟨hy.1, fun h => hy.2 (hs y h)⟩
end Go.Proofs.YtpkagpobobmnfaaGreatDoor
