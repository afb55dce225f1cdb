/-
  The tokens of a text, without any program: what they are, that the texts of tokens give them again, that a line feed parts a text.
-/
namespace Go.Proofs.YtnckpjcfgeajbaaGreatDoor
/-- A token: kind, text, number, offset. -/
structure Tok where
  kind : Int
  text : List UInt8
  n : Int
  pos : Int
deriving DecidableEq
def isLet (c : UInt8) : Bool := (decide (97 ≤ c.toNat) && decide (c.toNat ≤ 122)) || (decide (65 ≤ c.toNat) && decide (c.toNat ≤ 90))
def isDg (c : UInt8) : Bool := decide (48 ≤ c.toNat) && decide (c.toNat ≤ 57)
def isWd (c : UInt8) : Bool := isLet c || isDg c || c == 95
def symL : List UInt8 := [40, 41, 123, 125, 44, 59, 61, 58]
def isSym (c : UInt8) : Bool := symL.contains c
/-- What begins with a character: 0 nothing, 1 a blank or tab, 2 a comment, 3 a word, 4 a number, 5 a symbol, 6 a line feed. -/
def cls (c : UInt8) : Nat :=
  if c == 32 || c == 9 then 1 else if c == 35 then 2 else if isLet c then 3 else if isDg c || c == 45 then 4 else if isSym c then 5 else if c == 10 then 6 else 0
/-- The characters that continue it. -/
def rst (k : Nat) (c : UInt8) : Bool := if k = 2 then c != 10 else if k = 3 ∨ k = 4 then isWd c else false
def more (c : UInt8) (r : List UInt8) : Nat := (r.takeWhile (rst (cls c))).length
section
variable (pE pV : List UInt8 → Int)
/-- Tokens alike: all but the offset. -/
def key (t : Tok) : Int × List UInt8 × Int := (t.kind, t.text, t.n)
def alike (a b : List Tok) : Prop := a.map key = b.map key
end
end Go.Proofs.YtnckpjcfgeajbaaGreatDoor
