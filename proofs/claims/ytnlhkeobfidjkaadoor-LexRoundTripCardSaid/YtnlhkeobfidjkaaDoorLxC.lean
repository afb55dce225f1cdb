/-
  Classes of characters: function values that tell for each character whether it belongs to the class, whatever new memory there is; how they are made.
-/
import Derived.Test.YtnlhkeobfidjkaaDoorLexM
import Derived.Test.YtnlhkeobfidjkaaDoorRows
import Derived.WalkKit
import Derived.WalkSpells
import Derived.WalkLawsBesides
import Derived.Lib.Hide
import Derived.Below
import Derived.Laws.EntriesVeiled
import Derived.Deep.QuietTactic
import Derived.BigQuiet
import Derived.Shelf.Abstract
import Derived.Test.YtnlhkeobfidjkaaDoorChg
import Derived.Test.YtnlhkeobfidjkaaDoorBlk
namespace Go.Proofs.YtnlhkeobfidjkaaDoor
open Go Go.RowKit

/-- v is a function value that tells in w, and in every later memory, whether a character belongs to p. -/
def Cls (w : World) (v : Value) (p : UInt8 → Bool) : Prop := ∃ (f : FuncId) (L : Array Value), v = .func (.func f) #[] L ∧ (∀ args X, (callFunc f args).run Tryd.prog X = .ok (.enter f args) X) ∧
  ∀ X, Below w.heap.size w X → ∀ c : UInt8, Calls Tryd.prog f (#[.int .u8 (c.toNat : Int)] ++ L) X fun e X' => e = .returned (.bool (p c)) ∧ X = X'
theorem Cls.below {w w' : World} {v : Value} {p : UInt8 → Bool} (h : Cls w v p) (hb : Below w.heap.size w w') : Cls w' v p := by
  obtain ⟨f, L, e, he, hc⟩ := h
  exact ⟨f, L, e, he, fun X hX => hc X (belowThen hb hX)⟩
theorem Cls.congr {w : World} {v : Value} {p q : UInt8 → Bool} (h : Cls w v p) (e : ∀ c, p c = q c) : Cls w v q := by
  have : p = q := funext e
  exact this ▸ h
theorem entOne : ∀ args w, (callFunc 45 args).run Tryd.prog w = .ok (.enter 45 args) w := enters_of Tryd.func45 (by kernel_rfl) rfl
theorem entBet : ∀ args w, (callFunc 44 args).run Tryd.prog w = .ok (.enter 44 args) w := enters_of Tryd.func44 (by kernel_rfl) rfl
theorem entNot : ∀ args w, (callFunc 47 args).run Tryd.prog w = .ok (.enter 47 args) w := enters_of Tryd.func47 (by kernel_rfl) rfl
theorem entEit : ∀ args w, (callFunc 43 args).run Tryd.prog w = .ok (.enter 43 args) w := enters_of Tryd.func43 (by kernel_rfl) rfl
theorem retBc {a b : Bool} (h : a = b) : Ending.returned (.bool a) = .returned (.bool b) := by rw [h]

theorem cBet1 (x y : Nat) (b d : Nat) (X : World) (h1 : X.cell? ⟨b, 0, none⟩ = some (.int .u8 x)) (h2 : X.cell? ⟨d, 0, none⟩ = some (.int .u8 y)) (c : UInt8) :
    Calls Tryd.prog 44 #[.int .u8 (c.toNat : Int), .pointer (some ⟨b, 0, none⟩), .pointer (some ⟨d, 0, none⟩)] X fun e X' => e = .returned (.bool (decide (x ≤ c.toNat) && decide (c.toNat ≤ y))) ∧ X = X' := by
  obtain ⟨n, hn⟩ : ∃ n, c.toNat = n := ⟨_, rfl⟩
  rw [hn]
  clear hn
  by_cases g1 : x ≤ n
  · by_cases g2 : n ≤ y
    · go_enter Tryd.func44, Tryd.ntmps44
      go_wp2
      go_ret
      exact ⟨retBc (by simp [g1, g2]), rfl⟩
    · go_enter Tryd.func44, Tryd.ntmps44
      go_wp2
      go_ret
      exact ⟨retBc (by simp [g1, g2]), rfl⟩
  · go_enter Tryd.func44, Tryd.ntmps44
    go_wp2
    go_ret
    exact ⟨retBc (by simp [g1]), rfl⟩
theorem cellNew (w : World) (v : Value) (t : TypeId) : (w.alloc (.cells #[v] t)).cell? ⟨w.heap.size, 0, none⟩ = some v := (Blk.new w t #[v]).cell 0
theorem cBet (x y : Nat) (w : World) : Calls Tryd.prog 29 #[.int .u8 (x : Int), .int .u8 (y : Int)] w fun e w' => (∃ v, e = .returned v ∧ Cls w' v (fun c => decide (x ≤ c.toNat) && decide (c.toNat ≤ y))) ∧ Below w.heap.size w w' := by
  go_enter Tryd.func29, Tryd.ntmps29
  go_wp2
  go_ret
  refine ⟨⟨_, rfl, _, _, rfl, entBet, fun X hX c => cBet1 x y _ _ X ?_ ?_ c⟩, belowThen (belowAlloc _ _) (belowAlloc _ _)⟩
  · refine (hX.cell ?_).trans ?_
    · simp; omega
    · exact ((belowAlloc _ _).cell (by simp)).trans (cellNew _ _ _)
  · refine (hX.cell ?_).trans ?_
    · simp
    · exact (Blk.new1 w _ _ #[_]).cell 0
theorem cNot1 (p : UInt8 → Bool) (v : Value) (b : Nat) (X : World) (h1 : X.cell? ⟨b, 0, none⟩ = some v) (hv : Cls X v p) (c : UInt8) :
    Calls Tryd.prog 47 #[.int .u8 (c.toNat : Int), .pointer (some ⟨b, 0, none⟩)] X fun e X' => e = .returned (.bool (!p c)) ∧ X = X' := by
  obtain ⟨f, L, rfl, he, hc⟩ := hv
  have HC := Lib.hid (hc X (Below.refl _ _) c)
  clear hc
  obtain ⟨r, hr⟩ : ∃ r, p c = r := ⟨_, rfl⟩
  rw [hr] at HC ⊢
  clear hr
  go_enter Tryd.func47, Tryd.ntmps47
  go_wp2_with fail
  refine HC.out.mono ?_
  rintro e w' ⟨rfl, rfl⟩
  go_wp2
  go_ret
  exact ⟨rfl, rfl⟩
theorem cNot (p : UInt8 → Bool) (v : Value) (w : World) (hv : Cls w v p) : Calls Tryd.prog 31 #[v] w fun e w' => (∃ v, e = .returned v ∧ Cls w' v (fun c => !p c)) ∧ Below w.heap.size w w' := by
  have HV := Lib.hid hv
  obtain ⟨f, L, rfl, _⟩ := hv
  go_enter Tryd.func31, Tryd.ntmps31
  go_wp2
  go_ret
  refine ⟨⟨_, rfl, _, _, rfl, entNot, fun X hX c => cNot1 p _ _ X ?_ ((HV.out.below (belowAlloc _ _)).below hX) c⟩, belowAlloc _ _⟩
  refine (hX.cell ?_).trans ?_
  · simp
  · exact cellNew _ _ _
/-- The cells of a slice of classes. -/
structure ClsL (w : World) (g n : Nat) (ps : List (UInt8 → Bool)) : Prop where
  len : ps.length = n
  lt : g < w.heap.size
  at_ : ∀ j (h : j < ps.length), ∃ v, w.cell? ⟨g, j, none⟩ = some v ∧ Cls w v ps[j]
theorem ClsL.below {w w' : World} {g n : Nat} {ps : List (UInt8 → Bool)} (h : ClsL w g n ps) (hb : Below w.heap.size w w') : ClsL w' g n ps :=
  ⟨h.len, Nat.lt_of_lt_of_le h.lt hb.size, fun j hj => by
    obtain ⟨v, hc, hv⟩ := h.at_ j hj
    exact ⟨v, (hb.cell h.lt).trans hc, hv.below hb⟩⟩
theorem anyHit {ps : List (UInt8 → Bool)} {c : UInt8} {k : Nat} (hk : k < ps.length) (h : ps[k] c = true) : (ps.any fun p => p c) = true := List.any_eq_true.2 ⟨ps[k], List.getElem_mem hk, h⟩
theorem anyNo {ps : List (UInt8 → Bool)} {c : UInt8} (h : ∀ k (hk : k < ps.length), ps[k] c = false) : (ps.any fun p => p c) = false := List.any_eq_false.2 fun p hp => by
  obtain ⟨k, hk, rfl⟩ := List.getElem_of_mem hp
  rw [h k hk]; decide
set_option maxHeartbeats 1000000 in
theorem cEit1 (ps : List (UInt8 → Bool)) (g n b : Nat) (hn : n ≤ 1000) (X : World) (h1 : X.cell? ⟨b, 0, none⟩ = some (.slice (some ⟨g, 0, none⟩) n n)) (hv : ClsL X g n ps) (c : UInt8) :
    Calls Tryd.prog 43 #[.int .u8 (c.toNat : Int), .pointer (some ⟨b, 0, none⟩)] X fun e X' => e = .returned (.bool (ps.any fun p => p c)) ∧ X = X' := by
  have HV := Lib.hid hv
  obtain ⟨r, hr⟩ : ∃ r, (ps.any fun p => p c) = r := ⟨_, rfl⟩
  rw [hr]
  have HR := Lib.hid hr
  clear hr hv
  go_enter Tryd.func43, Tryd.ntmps43
  go_wp2
  go_loopw [8] (fun i wr => ∃ k : Nat, k ≤ n ∧ i = .int .i64 k ∧ wr = X ∧ Hid (∀ j (hj : j < ps.length), j < k → ps[j] c = false)) (fun i _ => n - (intOf i).toNat)
  case atStart => exact ⟨0, Nat.zero_le _, rfl, by trivial, Lib.hid fun j _ h => by omega⟩
  case round =>
    obtain ⟨k, hk, rfl, rfl, HA⟩ := hrel
    by_cases hlt : k < n
    · have hkl : k < ps.length := by rw [HV.out.len]; exact hlt
      obtain ⟨v, hcell, f, L, rfl, he, hc⟩ := HV.out.at_ k hkl
      have HC := Lib.hid (hc wr (Below.refl _ _) c)
      have hk0 : (0 : Int) ≤ k := by omega
      have hk1 : (k : Int) < n := by omega
      clear hc
      cases hp : ps[k] c
      · have HX : Hid (∀ j (hj : j < ps.length), j < k + 1 → ps[j] c = false) := Lib.hid fun j hj hlt => by
          rcases Nat.lt_or_ge j k with h' | h'
          · exact HA.out j hj h'
          · have e : j = k := by omega
            subst e
            exact hp
        rw [hp] at HC
        clear hp
        go_wp2_with fail
        refine HC.out.mono ?_
        rintro e w' ⟨rfl, rfl⟩
        go_wp2
        go_roundw
        case rel => exact ⟨k + 1, by omega, by go_num, by trivial, HX⟩
        case measure => simp [intOf]; omega
      · have HX := Lib.hid ((anyHit hkl hp).symm.trans HR.out)
        rw [hp] at HC
        clear hp
        go_wp2_with fail
        refine HC.out.mono ?_
        rintro e w' ⟨rfl, rfl⟩
        go_wp2
        go_ret
        exact ⟨retBc HX.out, rfl⟩
    · have HX := Lib.hid (Eq.trans (anyNo fun j hj => HA.out j hj (by rw [HV.out.len] at hj; omega)).symm HR.out)
      go_wp2
      go_ret
      exact ⟨retBc HX.out, rfl⟩
theorem cEit (ps : List (UInt8 → Bool)) (g n : Nat) (hn : n ≤ 1000) (w : World) (hv : ClsL w g n ps) : Calls Tryd.prog 28 #[.slice (some ⟨g, 0, none⟩) n n] w fun e w' => (∃ v, e = .returned v ∧ Cls w' v (fun c => ps.any fun p => p c)) ∧ Below w.heap.size w w' := by
  have HV := Lib.hid hv
  clear hv
  go_enter Tryd.func28, Tryd.ntmps28
  go_wp2
  go_ret
  refine ⟨⟨_, rfl, _, _, rfl, entEit, fun X hX c => cEit1 ps g n _ hn X ?_ ((HV.out.below (belowAlloc _ _)).below hX) c⟩, belowAlloc _ _⟩
  refine (hX.cell ?_).trans ?_
  · simp
  · exact cellNew _ _ _
end Go.Proofs.YtnlhkeobfidjkaaDoor
