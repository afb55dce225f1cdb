/-
  The contract of Leaders.
-/
import Derived.Test.YtpkagpobobmnfaaGreatDoorPCc
namespace Go.Proofs.YtpkagpobobmnfaaGreatDoor
open Go Go.RowKit Go.Shelf

/-- What instruction k adds to the leaders. -/
def ldI (k : Nat) (i : I8) : List Int := if i.op = 4 ∨ i.op = 5 then [i.n, ((k + 1 : Nat) : Int)] else if i.op = 7 then [((k + 1 : Nat) : Int)] else []
def ldL (C : List I8) : Nat → List Int
  | 0 => [0]
  | k + 1 => ldL C k ++ match C[k]? with
    | some i => ldI k i
    | none => []
theorem ldS {C : List I8} {k : Nat} (hk : k < C.length) : ldL C (k + 1) = ldL C k ++ ldI k C[k] := by rw [ldL, List.getElem?_eq_getElem hk]
theorem ldILen {k : Nat} {i : I8} : (ldI k i).length ≤ 2 := by
  unfold ldI
  split
  · simp
  · split <;> simp
theorem ldLen {C : List I8} : ∀ k, (ldL C k).length ≤ 1 + 2 * k
  | 0 => by simp [ldL]
  | k + 1 => by
    have h1 := ldLen (C := C) k
    rw [ldL, List.length_append]
    split
    · have := ldILen (k := k) (i := ‹I8›); omega
    · simp; omega
/-- What Leaders gives. -/
def ldR (C : List I8) : List Int := if cfE C = 0 then min' (ldL C C.length) [(C.length : Int)] else []
theorem ownLit9 (w : World) (base : Nat) (h : base ≤ w.heap.size) (y : Int) : OwnI (w.alloc (.cells #[.int .i64 y] 3)) base (.slice (some ⟨w.heap.size, 0, none⟩) 1 1) [y] :=
  ⟨rfl, .inr ⟨w.heap.size, 1, #[_], rfl, h, heap_alloc_new w _, Nat.le_refl _, by unfold maxLen; omega, rfl, rfl⟩⟩
set_option maxRecDepth 100000 in
set_option maxHeartbeats 2000000 in
theorem iLeaders (nm : ByteArray) (C : List I8) (n : Nat) (hn : C.length = n) (A : Option Addr) (c : Nat) (w : World) (h : CdW w A c C) :
    Calls Tryz.prog 24 #[fnV nm A n c] w (GivesE9 (ldR C) (cfE C) w) := by
  obtain ⟨W, hW⟩ : ∃ W, w.alloc (.cells #[.string nm, .slice A n c] 24) = W := ⟨_, rfl⟩
  have hbW : Below w.heap.size w W := by rw [← hW]; exact belowAlloc w _
  have hB : Blk W w.heap.size 24 #[.string nm, .slice A n c] := by rw [← hW]; exact Blk.new w _ _
  have k0 : W.cell? ⟨w.heap.size, 0, none⟩ = some (.string nm) := hB.cell 0
  have k1 : W.cell? ⟨w.heap.size, 1, none⟩ = some (.slice A n c) := hB.cell 1
  have HCO := Lib.hid (iCodeOf nm C n hn A c W (h.below hbW))
  have HCW := Lib.hid (fun X (hX : Below W.heap.size W X) => ((h.below hbW).below hX).rd)
  have HW := Lib.hid hW
  have HBW := Lib.hid hbW
  have hle := h.rd.le
  have hmx := h.rd.max
  rw [hn] at hle
  unfold maxLen at hmx
  clear h hB hW hbW
  unfold fnV at HCO ⊢
  by_cases hc : cfE C = 0
  rotate_left
  · have hne : (cfE C != 0) = true := by simpa using hc
    have e2 : ldR C = [] := by unfold ldR; rw [if_neg hc]
    rw [e2]
    rw [cdV1 hc] at HCO
    generalize cfE C = E at HCO hne ⊢
    clear hc e2
    go_enter Tryz.func24, Tryz.ntmps24
    go_wp2_with fail
    rw [HW.out]
    refine HCO.out.mono ?_
    rintro e w1 ⟨rfl, b1⟩
    go_wp2
    go_ret2
    exact ⟨none, 0, rfl, Rd.nil, belowThen HBW.out b1⟩
  have hok := cfOk hc
  have h64 := hok.len
  rw [hn] at h64
  have e2 : ldR C = min' (ldL C n) [(n : Int)] := by unfold ldR; rw [if_pos hc, hn]
  rw [e2, hc]
  rw [cdV0 hc, hc] at HCO
  obtain ⟨R, hR⟩ : ∃ R, min' (ldL C n) [(n : Int)] = R := ⟨_, rfl⟩
  rw [hR]
  have HR := Lib.hid hR
  have HN := Lib.hid hn
  clear hc hok e2 hR hn
  go_enter Tryz.func24, Tryz.ntmps24
  go_wp2_with fail
  rw [HW.out]
  refine HCO.out.mono ?_
  rintro e w1 ⟨rfl, b1⟩
  have HO0 := Lib.hid (ownLit9 w1 W.heap.size b1.size 0)
  have HB0 := Lib.hid (belowThen b1 (belowAlloc w1 (.cells #[.int .i64 0] 3)))
  clear b1 k0 k1
  go_wp2
  go_loopw [6, 20] (fun v i X => ∃ k : Nat, k ≤ n ∧ i = .int .i64 k ∧ Hid (OwnI X W.heap.size v (ldL C k)) ∧ Hid (Below W.heap.size W X)) (fun _ i _ => n - (intOf i).toNat)
  case atStart => exact ⟨0, Nat.zero_le _, rfl, HO0, HB0⟩
  case round =>
    obtain ⟨k, hk, rfl, HO, HB⟩ := hrel
    obtain ⟨A6, c6, rfl, r6, _⟩ := HO.out.rd
    have hlk := ldLen (C := C) k
    obtain ⟨m, hm⟩ : ∃ m, (ldL C k).length = m := ⟨_, rfl⟩
    rw [hm] at HO hlk ⊢
    have HM := Lib.hid hm
    by_cases hlt : k < n
    · have hkl : k < C.length := by rw [HN.out]; exact hlt
      obtain ⟨q, off, hA, _, i0, i1, i2, i3, i4, i5, i6, i7⟩ := (HCW.out wr HB.out).one hkl
      have hA : A = _ := hA
      subst hA
      have HST := Lib.hid (ldS hkl)
      obtain ⟨ii, hii⟩ : ∃ x, C[k] = x := ⟨_, rfl⟩
      rw [hii] at i0 i1 i2 i3 i4 i5 i6 i7 HST
      clear hii hm r6
      obtain ⟨op, ra, rb, rc, obj, nn, fn, ord⟩ := ii
      simp only at i0 i1 i2 i3 i4 i5 i6 i7
      have hk0 : (0 : Int) ≤ k := by omega
      have hk1 : (k : Int) < n := by omega
      have hbb := belowAlloc wr (.cells #[.int .i64 op, .int .i64 ra, .int .i64 rb, .int .i64 rc, .int .i64 obj, .int .i64 nn, .int .i64 fn, .int .i64 ord] 55)
      have HB2 := Lib.hid (belowThen HB.out hbb)
      have HO2 := Lib.hid (HO.out.alloc (.cells #[.int .i64 op, .int .i64 ra, .int .i64 rb, .int .i64 rc, .int .i64 obj, .int .i64 nn, .int .i64 fn, .int .i64 ord] 55))
      have hzb : W.heap.size ≤ wr.heap.size := HB.out.size
      obtain ⟨k1, hk1e⟩ : ∃ k1, k + 1 = k1 := ⟨_, rfl⟩
      have hwk : IntKind.i64.wrap ((k : Int) + 1) = (k1 : Int) := by rw [IntKind.wrap_i64]; omega
      clear hbb
      by_cases hj : op = 4 ∨ op = 5
      · have HLI := Lib.hid (show ldL C (k + 1) = ldL C k ++ [nn, (k1 : Int)] by rw [HST.out]; unfold ldI; rw [if_pos hj, hk1e])
        have hlen : (ldL C k).length + 2 ≤ 1000000 := by rw [HM.out]; omega
        have HRL := Lib.hid (show Rd ((wr.alloc (.cells #[.int .i64 op, .int .i64 ra, .int .i64 rb, .int .i64 rc, .int .i64 obj, .int .i64 nn, .int .i64 fn, .int .i64 ord] 55)).alloc (.cells #[.int .i64 nn, .int .i64 (k1 : Int)] 3)) (some ⟨wr.heap.size + 1, 0, none⟩) 2 [nn, (k1 : Int)] from by
          have h := Rd.lit (wr.alloc (.cells #[.int .i64 op, .int .i64 ra, .int .i64 rb, .int .i64 rc, .int .i64 obj, .int .i64 nn, .int .i64 fn, .int .i64 ord] 55)) [nn, (k1 : Int)] 3 (by simp)
          rw [World.size_alloc] at h
          exact h)
        rcases hj with rfl | rfl
        all_goals (
          go_wp2_with (at_builtin; refine appI _ rfl (.tmp 30) (.tmp 35) rfl W.heap.size _ (ldL C k) rfl (HO2.out.alloc _) (some ⟨wr.heap.size + 1, 0, none⟩) 2 2 [nn, (k1 : Int)] rfl rfl HRL.out (by rw [List.length_cons, List.length_singleton]; exact hlen) (by simp; omega) ?_; intro v1 w4 o1 _ b4; have HO4 := Lib.hid (show OwnI w4 W.heap.size v1 (ldL C (k + 1)) by rw [HLI.out]; exact o1); have HB4 := Lib.hid (stepA HB2.out b4); clear o1 b4)
          all_goals go_roundw
          all_goals first
            | exact ⟨k + 1, by omega, by go_num, HO4, HB4⟩
            | (simp only [intOf]; omega))
      · have z4 : (op == 4) = false := by simp; omega
        have z5 : (op == 5) = false := by simp; omega
        by_cases h7 : op = 7
        · have HLI := Lib.hid (show ldL C (k + 1) = ldL C k ++ [(k1 : Int)] by rw [HST.out]; unfold ldI; rw [if_neg hj, if_pos h7, hk1e])
          have hlen : (ldL C k).length + 1 ≤ 1000000 := by rw [HM.out]; omega
          have HRL := Lib.hid (show Rd ((wr.alloc (.cells #[.int .i64 op, .int .i64 ra, .int .i64 rb, .int .i64 rc, .int .i64 obj, .int .i64 nn, .int .i64 fn, .int .i64 ord] 55)).alloc (.cells #[.int .i64 (k1 : Int)] 3)) (some ⟨wr.heap.size + 1, 0, none⟩) 1 [(k1 : Int)] from by
            have h := Rd.lit (wr.alloc (.cells #[.int .i64 op, .int .i64 ra, .int .i64 rb, .int .i64 rc, .int .i64 obj, .int .i64 nn, .int .i64 fn, .int .i64 ord] 55)) [(k1 : Int)] 3 (by simp)
            rw [World.size_alloc] at h
            exact h)
          subst h7
          clear hj
          go_wp2_with (at_builtin; refine appI _ rfl (.tmp 39) (.tmp 42) rfl W.heap.size _ (ldL C k) rfl (HO2.out.alloc _) (some ⟨wr.heap.size + 1, 0, none⟩) 1 1 [(k1 : Int)] rfl rfl HRL.out (by rw [List.length_singleton]; exact hlen) (by simp; omega) ?_; intro v1 w4 o1 _ b4; have HO4 := Lib.hid (show OwnI w4 W.heap.size v1 (ldL C (k + 1)) by rw [HLI.out]; exact o1); have HB4 := Lib.hid (stepA HB2.out b4); clear o1 b4)
          all_goals go_roundw
          all_goals first
            | exact ⟨k + 1, by omega, by go_num, HO4, HB4⟩
            | (simp only [intOf]; omega)
        · have z7 : (op == 7) = false := by simpa using h7
          have HF := Lib.hid (show OwnI (wr.alloc (.cells #[.int .i64 op, .int .i64 ra, .int .i64 rb, .int .i64 rc, .int .i64 obj, .int .i64 nn, .int .i64 fn, .int .i64 ord] 55)) W.heap.size (.slice A6 m c6) (ldL C (k + 1)) by
            rw [HST.out]
            unfold ldI
            rw [if_neg hj, if_neg h7, List.append_nil]
            exact HO2.out)
          clear hj h7
          go_wp2
          all_goals go_roundw
          all_goals first
            | exact ⟨k + 1, by omega, by go_num, HF, HB2⟩
            | (simp only [intOf]; omega)
    · obtain rfl : k = n := by omega
      have HRM := Lib.hid (iRemove (ldL C k) (k : Int) m HM.out R HR.out (by omega) A6 c6 wr r6)
      clear r6 hm
      go_wp2_with fail
      refine HRM.out.mono ?_
      rintro e w3 ⟨A3, c3, rfl, r3, b3⟩
      go_wp2
      go_ret2
      exact ⟨A3, c3, rfl, r3, belowThen HBW.out (belowThen HB.out b3)⟩
end Go.Proofs.YtpkagpobobmnfaaGreatDoor

namespace Go.Proofs.YtpkagpobobmnfaaGreatDoor
open Go Go.RowKit Go.Shelf

theorem belowSet9 {B : Nat} {a b : World} (h : Below B a b) (p : Addr) (v : Value) (hp : B ≤ p.block) : Below B a (b.setCell p v) :=
  ⟨h.os, h.tape, h.output, by simpa using h.size, fun k hk => (heap_setCell_other b p k v (by omega)).trans (h.block k hk)⟩
end Go.Proofs.YtpkagpobobmnfaaGreatDoor
