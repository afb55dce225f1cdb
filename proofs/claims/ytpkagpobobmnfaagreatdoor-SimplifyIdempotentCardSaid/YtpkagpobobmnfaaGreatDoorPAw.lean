/-
  Spin loops, pure: what the program and the specification find.
-/
import Derived.Test.YtpkagpobobmnfaaGreatDoorPIU
namespace Go.Proofs.YtpkagpobobmnfaaGreatDoor

/-- The function that is not 0 where the calculation is 0, by the loaded value and the other register; 0 if there is none. -/
def awFn (l c : I8) : Int := if c.fn = 7 then 8 else if c.fn = 8 then 7 else if c.fn = 9 ∧ c.c = l.a then 10 else if c.fn = 10 ∧ c.c = l.a then 9 else 0
/-- The register that is compared with the loaded one. -/
def awCmp (l c : I8) : Int := if c.b = l.a then c.c else c.b
/-- Does a jump or a branch lead to n? -/
def entB (C : List I8) (n : Int) : Bool := C.any fun i => (i.op == 4 || i.op == 5) && i.n == n
/-- The properties of three instructions, one after another. -/
def q1 (l c b : I8) : Bool := l.op == 8 && (c.op == 3 && b.op == 5)
def q2 (l c : I8) : Bool := ((c.b == l.a) != (c.c == l.a)) && awCmp l c != c.a
def q3 (l c : I8) : Bool := awFn l c != 0
def q4 (c b : I8) (n : Nat) : Bool := b.b == c.a && b.n == (n : Int)
def q5 (C : List I8) (n : Nat) : Bool := !entB C ((n : Int) + 1) && !entB C ((n : Int) + 2)
/-! ### Rewriting -/
end Go.Proofs.YtpkagpobobmnfaaGreatDoor

namespace Go.Proofs.YtpkagpobobmnfaaGreatDoor

/-! ### What a zero error says -/
theorem fnFZ {p : Prg} : ∀ (l : List (ByteArray × List I8)) (k : Nat), (p.fnF l k).1 = 0 ↔ ∀ f ∈ l, (p.cd1 f.2).1 = 0
  | [], k => by simp [Prg.fnF]
  | f :: t, k => by
    unfold Prg.fnF
    by_cases h : (p.cd1 f.2).1 ≠ 0
    · rw [if_pos h]
      exact ⟨fun e => absurd e h, fun e => absurd (e f (by simp)) h⟩
    · rw [if_neg h, fnFZ t (k + 1)]
      have h' : (p.cd1 f.2).1 = 0 := by simpa using h
      simp [h']
theorem cdFZ {p : Prg} {len : Nat} : ∀ (l : List I8) (k : Nat), (p.cdF len l k).1 = 0 ↔ ∀ i ∈ l, p.insE len i = 0
  | [], k => by simp [Prg.cdF]
  | i :: t, k => by
    unfold Prg.cdF
    by_cases h : p.insE len i ≠ 0
    · rw [if_pos h]
      exact ⟨fun e => absurd e h, fun e => absurd (e i (by simp)) h⟩
    · rw [if_neg h, cdFZ t (k + 1)]
      have h' : p.insE len i = 0 := by simpa using h
      simp [h']
theorem cd1Z {p : Prg} {C : List I8} : (p.cd1 C).1 = 0 ↔ C.length ≤ 64 ∧ ∀ i ∈ C, p.insE C.length i = 0 := by
  unfold Prg.cd1
  by_cases h : 64 < C.length
  · rw [if_pos h]
    exact ⟨fun e => absurd e (by decide), fun e => absurd e.1 (by omega)⟩
  · rw [if_neg h, cdFZ]
    exact ⟨fun e => ⟨by omega, e⟩, fun e => e.2⟩
theorem chkZ {p : Prg} : p.chk.1 = 0 ↔ p.nmE.1 = 0 ∧ p.many = false ∧ (p.vars.all fun v => isVal v.2) = true ∧ (p.fnF p.funcs 0).1 = 0 ∧ p.thE = 0 := by
  unfold Prg.chk
  by_cases h1 : p.nmE.1 ≠ 0
  · rw [if_pos h1]
    exact ⟨fun e => absurd e h1, fun e => absurd e.1 h1⟩
  rw [if_neg h1]
  have h1' : p.nmE.1 = 0 := by simpa using h1
  by_cases h2 : p.many = true
  · rw [if_pos h2]
    exact ⟨fun e => absurd e (by decide), fun e => by rw [h2] at e; exact absurd e.2.1 (by decide)⟩
  rw [if_neg h2]
  by_cases h3 : (p.vars.all fun v => isVal v.2) = false
  · rw [if_pos h3]
    exact ⟨fun e => absurd e (by decide), fun e => by rw [h3] at e; exact absurd e.2.2.1 (by decide)⟩
  rw [if_neg h3]
  by_cases h4 : (p.fnF p.funcs 0).1 ≠ 0
  · rw [if_pos h4]
    exact ⟨fun e => absurd e h4, fun e => absurd e.2.2.2.1 h4⟩
  rw [if_neg h4]
  have h4' : (p.fnF p.funcs 0).1 = 0 := by simpa using h4
  exact ⟨fun e => ⟨h1', by simpa using h2, by simpa using h3, h4', e⟩, fun e => e.2.2.2.2⟩
theorem insZ {p : Prg} {len : Nat} {i : I8} (h : p.insE len i = 0) : i.chk = 0 ∧ ∀ c, p.objN i.op = some c → belB i.obj c = true := by
  unfold Prg.insE at h
  by_cases h1 : i.chk ≠ 0
  · rw [if_pos h1] at h
    exact absurd h h1
  rw [if_neg h1] at h
  refine ⟨by simpa using h1, fun c hc => ?_⟩
  rw [hc] at h
  simp only at h
  cases g : belB i.obj c
  · simp [g] at h
  · rfl

/-! ### The replaced instruction -/
/-! ### The rewritten code -/
end Go.Proofs.YtpkagpobobmnfaaGreatDoor
