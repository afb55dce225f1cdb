/-
  The contracts of the specification's functions that tell which fields an operation uses.
-/
import Derived.Test.YtpkagpobobmnfaaGreatDoorCInT
import Derived.IntWalk
import Derived.BigGuard
import Derived.BigGuardPart
namespace Go.Proofs.YtpkagpobobmnfaaGreatDoor
open Go.RowKit

def strs (l : List ByteArray) : List Value := l.map Value.string
theorem rFields (w : World) :
    Calls Tryz.prog 149 #[] w fun e w' => ∃ A c, e = .returned (.slice A 22 c) ∧ Rds w' A c (strs fdTab) ∧ Below w.heap.size w w' := by
  have h1 := Rds.lit w (strs fdTab) 9 (by decide)
  have h2 := belowAlloc w (.cells (strs fdTab).toArray 9)
  go_enter Tryz.func149, Tryz.ntmps149
  go_wp2
  go_ret
  exact ⟨_, 22, rfl, h1, h2⟩
theorem strsAt {w : World} {A : Option Addr} {c : Nat} {l : List ByteArray} (h : Rds w A c (strs l)) {k : Nat} (hk : k < l.length) : ∃ ad, A = some ad ∧ w.cell? (ad.add k) = some (.string l[k]) := by
  obtain ⟨ad, e, _, hc⟩ := h.one (k := k) (by simpa [strs] using hk)
  exact ⟨ad, e, by simpa [strs] using hc⟩
theorem fdSize : ∀ m, m < 22 → (fd m).size ≤ 5 := by decide

theorem usYes {s : ByteArray} {b : Bool} {x : UInt8} {c : Nat} (h : b = decide (x ∈ s.data.toList)) (hc : x.toNat = c) {j : Nat} (hj : j < s.size) (he : ((s[j].toNat : Int) == (c : Int)) = true) : b = true := by
  rw [h, decide_eq_true_iff]
  have : s[j] = x := by
    have h1 : s[j].toNat = x.toNat := by rw [hc]; have h := beq_iff_eq.1 he; omega
    exact UInt8.toNat_inj.1 h1
  rw [← this]
  exact List.getElem_mem (l := s.data.toList) hj
theorem usNo {s : ByteArray} {b : Bool} {x : UInt8} {c : Nat} (h : b = decide (x ∈ s.data.toList)) (hc : x.toNat = c) (hn : ∀ y, y < s.size → ∀ hy : y < s.size, ((s[y].toNat : Int) == (c : Int)) = false) : b = false := by
  rw [h, decide_eq_false_iff_not]
  intro hm
  obtain ⟨j, hj, e⟩ := List.getElem_of_mem hm
  have hj' : j < s.size := hj
  have h1 := hn j hj' hj'
  have e' : s[j] = x := e
  rw [e', hc] at h1
  simp at h1

set_option maxHeartbeats 1000000 in
theorem rHasAt (m f : Nat) (hm : m < 22) (hf : f < 7) (c : Nat) (hc : (lt7.getD f 0).toNat = c) (w : World) :
    Calls Tryz.prog 113 #[.int .i64 ((m : Int) + 1), .int .u8 (c : Int)] w fun e w' => e = .returned (.bool (us (m + 1) f)) ∧ Below w.heap.size w w' := by
  have HU := Lib.hid (usHas m hm f hf)
  have h22 : m < fdTab.length := hm
  have hsz := fdSize m hm
  have hgt : fdTab[m] = fd m := by
    unfold fd
    rw [List.getD_eq_getElem?_getD, List.getElem?_eq_getElem h22]
    rfl
  have HG := Lib.hid hgt; clear hgt
  have HC := Lib.hid hc; clear hc
  have hwr : IntKind.i64.wrap ((m : Int) + 1 - 1) = m := by rw [show (m : Int) + 1 - 1 = m by omega]; exact IntWalk.i64_in _ (by omega)
  go_enter Tryz.func113, Tryz.ntmps113
  go_wp2_with fail
  refine (rFields _).mono ?_
  rintro e w1 ⟨A, cp, rfl, hr, hb⟩
  obtain ⟨ad, rfl, hcell⟩ := strsAt hr h22
  rw [HG.out] at hcell
  clear hr
  generalize hs : fd m = s at *
  go_wp2_with fail
  go_loop [4, 6] (fun r i => ∃ j : Nat, j ≤ s.size ∧ r = .bool false ∧ i = .int .i64 j ∧ Hid (∀ x, x < j → ∀ hx : x < s.size, ((s[x].toNat : Int) == (c : Int)) = false)) (fun _ i => s.size - (intOf i).toNat)
  case atStart => exact ⟨0, Nat.zero_le _, rfl, rfl, Lib.hid fun x hx => by omega⟩
  case round =>
    obtain ⟨j, hj, rfl, rfl, HD⟩ := hrel
    by_cases hlt : j < s.size
    · go_wp2
      · go_ret
        have h : ((s[j].toNat : Int) == (c : Int)) = true := by assumption
        exact ⟨retB (usYes HU.out HC.out hlt h).symm, hb⟩
      · have h : ((s[j].toNat : Int) == (c : Int)) = false := by assumption
        refine ⟨⟨j + 1, by omega, rfl, by go_num, Lib.hid fun x hx hx2 => ?_⟩, by simp [intOf]; omega⟩
        by_cases e : x = j
        · subst e; exact h
        · exact HD.out x (by omega) hx2
    · obtain rfl : j = s.size := by omega
      go_wp2
      go_ret
      exact ⟨retB (usNo HU.out HC.out HD.out).symm, hb⟩
end Go.Proofs.YtpkagpobobmnfaaGreatDoor

namespace Go.Proofs.YtpkagpobobmnfaaGreatDoor
open Go.RowKit

/-- An instruction in its block, read field by field. -/
theorem boxFacts {W : World} {n0 : Nat} {k a b c obj n fn ord : Int} (h : Blk W n0 55 #[.int .i64 k, .int .i64 a, .int .i64 b, .int .i64 c, .int .i64 obj, .int .i64 n, .int .i64 fn, .int .i64 ord]) :
    W.cell? ⟨n0, 0, none⟩ = some (.int .i64 k) ∧ W.cell? ⟨n0, 1, none⟩ = some (.int .i64 a) ∧ W.cell? ⟨n0, 2, none⟩ = some (.int .i64 b) ∧ W.cell? ⟨n0, 3, none⟩ = some (.int .i64 c) ∧ W.cell? ⟨n0, 4, none⟩ = some (.int .i64 obj) ∧ W.cell? ⟨n0, 5, none⟩ = some (.int .i64 n) ∧ W.cell? ⟨n0, 6, none⟩ = some (.int .i64 fn) ∧ W.cell? ⟨n0, 7, none⟩ = some (.int .i64 ord) :=
  ⟨h.cell 0, h.cell 1, h.cell 2, h.cell 3, h.cell 4, h.cell 5, h.cell 6, h.cell 7⟩
theorem rHasN (k f : Nat) (h1 : 1 ≤ k) (h2 : k ≤ 22) (hf : f < 7) (c : Int) (hc : ((lt7.getD f 0).toNat : Int) = c) (b : Bool) (hb : us k f = b) (w : World) :
    Calls Tryz.prog 113 #[.int .i64 (k : Int), .int .u8 c] w fun e w' => e = .returned (.bool b) ∧ Below w.heap.size w w' := by
  obtain ⟨m, rfl⟩ : ∃ m, k = m + 1 := ⟨k - 1, by omega⟩
  subst hb
  have h := rHasAt m f (by omega) hf _ rfl w
  rw [hc] at h
  exact h
def uvec (k : Nat) : List Bool := [us k 0, us k 1, us k 2, us k 3, us k 4, us k 5, us k 6]
theorem uvecOf {k : Nat} {q0 q1 q2 q3 q4 q5 q6 : Bool} (h : uvec k = [q0, q1, q2, q3, q4, q5, q6]) : us k 0 = q0 ∧ us k 1 = q1 ∧ us k 2 = q2 ∧ us k 3 = q3 ∧ us k 4 = q4 ∧ us k 5 = q5 ∧ us k 6 = q6 := by
  simpa [uvec] using h
theorem rIsRegN (o : Int) (r : Bool) (h : rgOk o = r) (w : World) :
    Calls Tryz.prog 114 #[.int .i64 o] w fun e w' => e = .returned (.bool r) ∧ w = w' := by subst h; exact rIsReg o w
/-- What the tests tell of the instruction. -/
structure CkFacts (I : I8) (k : Nat) (a b c obj n fn ord : Int) (q0 q1 q2 q3 q4 q5 q6 : Bool) : Prop where
  op : opOk (k : Int) = true
  iop : I.op = (k : Int)
  f0 : I.fOk 0 = (q0 || decide (a = 0))
  f1 : I.fOk 1 = (q1 || decide (b = 0))
  f2 : I.fOk 2 = (q2 || decide (c = 0))
  f3 : I.fOk 3 = (q3 || decide (obj = 0))
  f4 : I.fOk 4 = (q4 || decide (n = 0))
  f5 : I.fOk 5 = (q5 || decide (fn = 0))
  f6 : I.fOk 6 = (q6 || decide (ord = 0))
  u5 : I.u 5 = q5
  regs : I.rs = (rgOk a && rgOk b && rgOk c)
  fn : I.fn = fn
  ord : I.ord = ord
  n : I.n = n
section
variable {I : I8} {k : Nat} {a b c obj n fn ord : Int} {q0 q1 q2 q3 q4 q5 q6 : Bool} (h : CkFacts I k a b c obj n fn ord q0 q1 q2 q3 q4 q5 q6)
include h
theorem CkFacts.opI : opOk I.op = true := by rw [h.iop]; exact h.op
theorem CkFacts.field (j : Nat) (hj : j < 7) (hf : I.fOk j = false) : I.chk = 9 := chkField h.opI hj hf
theorem CkFacts.fs (h0 : q0 = true ∨ a = 0) (h1 : q1 = true ∨ b = 0) (h2 : q2 = true ∨ c = 0) (h3 : q3 = true ∨ obj = 0) (h4 : q4 = true ∨ n = 0) (h5 : q5 = true ∨ fn = 0) (h6 : q6 = true ∨ ord = 0) : I.fs = true := by
  have aux : ∀ (q : Bool) (x : Int), (q = true ∨ x = 0) → (q || decide (x = 0)) = true := by
    rintro q x (rfl | rfl) <;> simp
  unfold I8.fs
  rw [h.f0, h.f1, h.f2, h.f3, h.f4, h.f5, h.f6, aux _ _ h0, aux _ _ h1, aux _ _ h2, aux _ _ h3, aux _ _ h4, aux _ _ h5, aux _ _ h6]
  rfl
theorem CkFacts.reg (hf : I.fs = true) (hr : rgOk a = false ∨ rgOk b = false ∨ rgOk c = false) : I.chk = 10 := chkReg h.opI hf (by
  rw [h.regs]
  rcases hr with hr | hr | hr <;> simp [hr])
theorem CkFacts.rs (ha : rgOk a = true) (hb : rgOk b = true) (hc : rgOk c = true) : I.rs = true := by rw [h.regs, ha, hb, hc]; rfl
theorem CkFacts.ordNo (hf : I.fs = true) (hr : I.rs = true) (ho : ord < 0 ∨ 2 < ord) : I.chk = 13 := chkOrd h.opI hf hr (by rw [h.ord]; simp [orOk]; omega)
theorem CkFacts.ordYes (h1 : ¬ ord < 0) (h2 : ¬ 2 < ord) : orOk I.ord = true := by rw [h.ord]; simp [orOk]; omega
theorem CkFacts.fnNo (hf : I.fs = true) (hr : I.rs = true) (ho : orOk I.ord = true) (he : q5 = true ∧ fnOk fn = false) : I.chk = 8 := chkFn h.opI hf hr ho (by rw [h.u5, h.fn, he.1, he.2]; rfl)
theorem CkFacts.nNo (hf : I.fs = true) (hr : I.rs = true) (ho : orOk I.ord = true) (h5 : (I.u 5 && !fnOk I.fn) = false) (hk : ((k : Int) == 1) = true) (hn : n < -2147483648 ∨ 2147483647 < n) : I.chk = 2 := by
  have h1 : nOk n = false := by simp only [nOk, decide_eq_false_iff_not, wrap32]; omega
  have h2 : (k : Int) = 1 := by simpa using hk
  exact chkN h.opI hf hr ho h5 true (by rw [h.iop, h.n, h1, decide_eq_true h2]; rfl)
theorem CkFacts.nYes (hf : I.fs = true) (hr : I.rs = true) (ho : orOk I.ord = true) (h5 : (I.u 5 && !fnOk I.fn) = false) (hk : ((k : Int) == 1) = false ∨ (¬ n < -2147483648 ∧ ¬ 2147483647 < n)) : I.chk = 0 := by
  refine chkN h.opI hf hr ho h5 false ?_
  rw [h.iop, h.n]
  rcases hk with hk | hk
  · have h2 : ¬ (k : Int) = 1 := by simpa using hk
    rw [decide_eq_false h2]; rfl
  · have h1 : nOk n = true := by simp only [nOk, decide_eq_true_eq, wrap32]; omega
    rw [h1]; simp
end
end Go.Proofs.YtpkagpobobmnfaaGreatDoor
