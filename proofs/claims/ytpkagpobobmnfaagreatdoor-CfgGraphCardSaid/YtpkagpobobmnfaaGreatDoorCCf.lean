/-
  The contracts of Next and Leaders.
-/
import Derived.Test.YtpkagpobobmnfaaGreatDoorCCd
namespace Go.Proofs.YtpkagpobobmnfaaGreatDoor
open Go Go.RowKit Go.Shelf

/-- The call gives a list and an error. -/
def GivesE9 (l : List Int) (k : Int) (w : World) (e : Ending) (w' : World) : Prop := ∃ A c, e = .returned (.tuple #[.slice A l.length c, .int .i64 k]) ∧ Rd w' A c l ∧ Below w.heap.size w w'
/-- What Next gives: the error and the successors. -/
def nxE (C : List I8) (x : Int) : Int := if cfE C ≠ 0 then cfE C else if x < 0 ∨ (C.length : Int) ≤ x then 2 else 0
def nxR (C : List I8) (x : Int) : List Int := if nxE C x = 0 then scS C x.toNat else []
theorem cdV0 {C : List I8} {A : Option Addr} {n c : Nat} (h : cfE C = 0) : cdV C A n c = .slice A n c := by unfold cdV; rw [if_pos h]
theorem cdV1 {C : List I8} {A : Option Addr} {n c : Nat} (h : cfE C ≠ 0) : cdV C A n c = .slice none 0 0 := by unfold cdV; rw [if_neg h]
theorem scSLen {C : List I8} {k : Nat} : (scS C k).length ≤ 2 := by
  unfold scS
  have := lenMk ((sc C k).map Int.ofNat)
  rw [List.length_map] at this
  exact Nat.le_trans this scLen
set_option maxRecDepth 100000 in
set_option maxHeartbeats 2000000 in
theorem iNext (nm : ByteArray) (C : List I8) (n : Nat) (hn : C.length = n) (x : Int) (A : Option Addr) (c : Nat) (w : World) (h : CdW w A c C) :
    Calls Tryz.prog 23 #[fnV nm A n c, .int .i64 x] w (GivesE9 (nxR C x) (nxE C x) w) := by
  obtain ⟨W, hW⟩ : ∃ W, w.alloc (.cells #[.string nm, .slice A n c] 24) = W := ⟨_, rfl⟩
  have hbW : Below w.heap.size w W := by rw [← hW]; exact belowAlloc w _
  have hB : Blk W w.heap.size 24 #[.string nm, .slice A n c] := by rw [← hW]; exact Blk.new w _ _
  have k0 := hB.cell 0
  have k1 := hB.cell 1
  have k0 : W.cell? ⟨w.heap.size, 0, none⟩ = some (.string nm) := k0
  have k1 : W.cell? ⟨w.heap.size, 1, none⟩ = some (.slice A n c) := k1
  have HCO := Lib.hid (iCodeOf nm C n hn A c W (h.below hbW))
  have HCW := Lib.hid (fun X (hX : Below W.heap.size W X) => (h.below hbW).below hX)
  have HW := Lib.hid hW
  have HBW := Lib.hid hbW
  have hle := h.rd.le
  have hmx := h.rd.max
  rw [hn] at hle
  unfold maxLen at hmx
  clear h hB hW hbW
  unfold fnV at HCO ⊢
  by_cases hc : cfE C = 0
  rotate_left
  · have hne : (cfE C != 0) = true := by simpa using hc
    have e1 : nxE C x = cfE C := by unfold nxE; rw [if_pos hc]
    have e2 : nxR C x = [] := by unfold nxR; rw [if_neg (by rw [e1]; exact hc)]
    rw [e1, e2]
    rw [cdV1 hc] at HCO
    generalize cfE C = E at HCO hne
    clear hc e1 e2
    go_enter Tryz.func23, Tryz.ntmps23
    go_wp2_with fail
    rw [HW.out]
    refine HCO.out.mono ?_
    rintro e w1 ⟨rfl, b1⟩
    go_wp2
    go_ret2
    exact ⟨none, 0, rfl, Rd.nil, belowThen HBW.out b1⟩
  have hok := cfOk hc
  rw [cdV0 hc, hc] at HCO
  by_cases hx : x < 0 ∨ (n : Int) ≤ x
  · have e1 : nxE C x = 2 := by unfold nxE; rw [if_neg (by rw [hc]; simp), if_pos (by rw [hn]; exact hx)]
    have e2 : nxR C x = [] := by unfold nxR; rw [if_neg (by rw [e1]; decide)]
    rw [e1, e2]
    clear hc hok e1 e2
    go_enter Tryz.func23, Tryz.ntmps23
    go_wp2_with fail
    rw [HW.out]
    refine HCO.out.mono ?_
    rintro e w1 ⟨rfl, b1⟩
    go_wp2
    all_goals first
      | (exfalso; omega)
      | (go_ret2; exact ⟨none, 0, rfl, Rd.nil, belowThen HBW.out b1⟩)
  · have e1 : nxE C x = 0 := by unfold nxE; rw [if_neg (by rw [hc]; simp), if_neg (by rw [hn]; exact hx)]
    have e2 : nxR C x = scS C x.toNat := by unfold nxR; rw [if_pos e1]
    rw [e1, e2]
    obtain ⟨k, rfl⟩ : ∃ k : Nat, x = k := ⟨x.toNat, by omega⟩
    have hk : k < n := by omega
    have hk0 : (0 : Int) ≤ k := by omega
    have hk1 : (k : Int) < n := by omega
    have HNX := Lib.hid (fun X (hX : Below W.heap.size W X) => iNextV C hok n hn k hk A c X (HCW.out X hX).rd)
    have e3 : (k : Int).toNat = k := rfl
    rw [e3]
    have hsl := scLen (C := C) (k := k)
    have hsl2 := scSLen (C := C) (k := k)
    obtain ⟨xs, hxs⟩ : ∃ xs, sc C k = xs := ⟨_, rfl⟩
    have hms : mk (xs.map Int.ofNat) = scS C k := by rw [← hxs]; rfl
    rw [hxs] at HNX hsl
    obtain ⟨r, hr⟩ : ∃ r, scS C k = r := ⟨_, rfl⟩
    rw [hr] at hms ⊢
    clear hc hok e1 e2 hx hxs hr hsl2 e3
    go_enter Tryz.func23, Tryz.ntmps23
    go_wp2_with fail
    rw [HW.out]
    refine HCO.out.mono ?_
    rintro e w1 ⟨rfl, b1⟩
    have HN1 := Lib.hid (HNX.out w1 b1)
    go_wp2_with fail
    all_goals first
      | (exfalso; omega)
      | skip
    refine HN1.out.mono ?_
    rintro e w2 ⟨⟨gf, L, rfl, hit⟩, b2⟩
    have HC2 := Lib.hid (iCollect gf L xs (by omega) w2 hit)
    have B2 := belowThen b1 b2
    clear hit
    go_wp2_with fail
    refine HC2.out.mono ?_
    rintro e w3 ⟨A3, c3, rfl, hr3, b3⟩
    have HM3 := Lib.hid (iMake (xs.map Int.ofNat) r hms (by rw [List.length_map]; omega) A3 c3 w3 hr3)
    rw [List.length_map] at HM3
    have B3 := belowThen B2 b3
    clear hr3
    go_wp2_with fail
    refine HM3.out.mono ?_
    rintro e w4 ⟨A4, c4, rfl, hr4, b4⟩
    go_wp2
    go_ret2
    exact ⟨A4, c4, rfl, hr4, belowThen HBW.out (belowThen B3 b4)⟩
end Go.Proofs.YtpkagpobobmnfaaGreatDoor

namespace Go.Proofs.YtpkagpobobmnfaaGreatDoor
open Go Go.RowKit Go.Shelf

/-- What instruction k adds to the leaders. -/
def ldI (k : Nat) (i : I8) : List Int := if i.op = 4 ∨ i.op = 5 then [i.n, ((k + 1 : Nat) : Int)] else if i.op = 7 then [((k + 1 : Nat) : Int)] else []
def ldL (C : List I8) : Nat → List Int
  | 0 => [0]
  | k + 1 => ldL C k ++ match C[k]? with
    | some i => ldI k i
    | none => []
theorem ldS {C : List I8} {k : Nat} (hk : k < C.length) : ldL C (k + 1) = ldL C k ++ ldI k C[k] := by rw [ldL, List.getElem?_eq_getElem hk]
theorem ldILen {k : Nat} {i : I8} : (ldI k i).length ≤ 2 := by
  unfold ldI
  split
  · simp
  · split <;> simp
theorem ldLen {C : List I8} : ∀ k, (ldL C k).length ≤ 1 + 2 * k
  | 0 => by simp [ldL]
  | k + 1 => by
    have h1 := ldLen (C := C) k
    rw [ldL, List.length_append]
    split
    · have := ldILen (k := k) (i := ‹I8›); omega
    · simp; omega
/-- What Leaders gives. -/
def ldR (C : List I8) : List Int := if cfE C = 0 then min' (ldL C C.length) [(C.length : Int)] else []
theorem ownLit9 (w : World) (base : Nat) (h : base ≤ w.heap.size) (y : Int) : OwnI (w.alloc (.cells #[.int .i64 y] 3)) base (.slice (some ⟨w.heap.size, 0, none⟩) 1 1) [y] :=
  ⟨rfl, .inr ⟨w.heap.size, 1, #[_], rfl, h, heap_alloc_new w _, Nat.le_refl _, by unfold maxLen; omega, rfl, rfl⟩⟩
set_option maxRecDepth 100000 in
set_option maxHeartbeats 2000000 in
theorem iLeaders (nm : ByteArray) (C : List I8) (n : Nat) (hn : C.length = n) (A : Option Addr) (c : Nat) (w : World) (h : CdW w A c C) :
    Calls Tryz.prog 24 #[fnV nm A n c] w (GivesE9 (ldR C) (cfE C) w) := by
  obtain ⟨W, hW⟩ : ∃ W, w.alloc (.cells #[.string nm, .slice A n c] 24) = W := ⟨_, rfl⟩
  have hbW : Below w.heap.size w W := by rw [← hW]; exact belowAlloc w _
  have hB : Blk W w.heap.size 24 #[.string nm, .slice A n c] := by rw [← hW]; exact Blk.new w _ _
  have k0 : W.cell? ⟨w.heap.size, 0, none⟩ = some (.string nm) := hB.cell 0
  have k1 : W.cell? ⟨w.heap.size, 1, none⟩ = some (.slice A n c) := hB.cell 1
  have HCO := Lib.hid (iCodeOf nm C n hn A c W (h.below hbW))
  have HCW := Lib.hid (fun X (hX : Below W.heap.size W X) => ((h.below hbW).below hX).rd)
  have HW := Lib.hid hW
  have HBW := Lib.hid hbW
  have hle := h.rd.le
  have hmx := h.rd.max
  rw [hn] at hle
  unfold maxLen at hmx
  clear h hB hW hbW
  unfold fnV at HCO ⊢
  by_cases hc : cfE C = 0
  rotate_left
  · have hne : (cfE C != 0) = true := by simpa using hc
    have e2 : ldR C = [] := by unfold ldR; rw [if_neg hc]
    rw [e2]
    rw [cdV1 hc] at HCO
    generalize cfE C = E at HCO hne ⊢
    clear hc e2
    go_enter Tryz.func24, Tryz.ntmps24
    go_wp2_with fail
    rw [HW.out]
    refine HCO.out.mono ?_
    rintro e w1 ⟨rfl, b1⟩
    go_wp2
    go_ret2
    exact ⟨none, 0, rfl, Rd.nil, belowThen HBW.out b1⟩
  have hok := cfOk hc
  have h64 := hok.len
  rw [hn] at h64
  have e2 : ldR C = min' (ldL C n) [(n : Int)] := by unfold ldR; rw [if_pos hc, hn]
  rw [e2, hc]
  rw [cdV0 hc, hc] at HCO
  obtain ⟨R, hR⟩ : ∃ R, min' (ldL C n) [(n : Int)] = R := ⟨_, rfl⟩
  rw [hR]
  have HR := Lib.hid hR
  have HN := Lib.hid hn
  clear hc hok e2 hR hn
  go_enter Tryz.func24, Tryz.ntmps24
  go_wp2_with fail
  rw [HW.out]
  refine HCO.out.mono ?_
  rintro e w1 ⟨rfl, b1⟩
  have HO0 := Lib.hid (ownLit9 w1 W.heap.size b1.size 0)
  have HB0 := Lib.hid (belowThen b1 (belowAlloc w1 (.cells #[.int .i64 0] 3)))
  clear b1 k0 k1
  go_wp2
  go_loopw [6, 20] (fun v i X => ∃ k : Nat, k ≤ n ∧ i = .int .i64 k ∧ Hid (OwnI X W.heap.size v (ldL C k)) ∧ Hid (Below W.heap.size W X)) (fun _ i _ => n - (intOf i).toNat)
  case atStart => exact ⟨0, Nat.zero_le _, rfl, HO0, HB0⟩
  case round =>
    obtain ⟨k, hk, rfl, HO, HB⟩ := hrel
    obtain ⟨A6, c6, rfl, r6, _⟩ := HO.out.rd
    have hlk := ldLen (C := C) k
    obtain ⟨m, hm⟩ : ∃ m, (ldL C k).length = m := ⟨_, rfl⟩
    rw [hm] at HO hlk ⊢
    have HM := Lib.hid hm
    by_cases hlt : k < n
    · have hkl : k < C.length := by rw [HN.out]; exact hlt
      obtain ⟨q, off, hA, _, i0, i1, i2, i3, i4, i5, i6, i7⟩ := (HCW.out wr HB.out).one hkl
      have hA : A = _ := hA
      subst hA
      have HST := Lib.hid (ldS hkl)
      obtain ⟨ii, hii⟩ : ∃ x, C[k] = x := ⟨_, rfl⟩
      rw [hii] at i0 i1 i2 i3 i4 i5 i6 i7 HST
      clear hii hm r6
      obtain ⟨op, ra, rb, rc, obj, nn, fn, ord⟩ := ii
      simp only at i0 i1 i2 i3 i4 i5 i6 i7
      have hk0 : (0 : Int) ≤ k := by omega
      have hk1 : (k : Int) < n := by omega
      have hbb := belowAlloc wr (.cells #[.int .i64 op, .int .i64 ra, .int .i64 rb, .int .i64 rc, .int .i64 obj, .int .i64 nn, .int .i64 fn, .int .i64 ord] 55)
      have HB2 := Lib.hid (belowThen HB.out hbb)
      have HO2 := Lib.hid (HO.out.alloc (.cells #[.int .i64 op, .int .i64 ra, .int .i64 rb, .int .i64 rc, .int .i64 obj, .int .i64 nn, .int .i64 fn, .int .i64 ord] 55))
      have hzb : W.heap.size ≤ wr.heap.size := HB.out.size
      obtain ⟨k1, hk1e⟩ : ∃ k1, k + 1 = k1 := ⟨_, rfl⟩
      have hwk : IntKind.i64.wrap ((k : Int) + 1) = (k1 : Int) := by rw [IntKind.wrap_i64]; omega
      clear hbb
      by_cases hj : op = 4 ∨ op = 5
      · have HLI := Lib.hid (show ldL C (k + 1) = ldL C k ++ [nn, (k1 : Int)] by rw [HST.out]; unfold ldI; rw [if_pos hj, hk1e])
        have hlen : (ldL C k).length + 2 ≤ 1000000 := by rw [HM.out]; omega
        have HRL := Lib.hid (show Rd ((wr.alloc (.cells #[.int .i64 op, .int .i64 ra, .int .i64 rb, .int .i64 rc, .int .i64 obj, .int .i64 nn, .int .i64 fn, .int .i64 ord] 55)).alloc (.cells #[.int .i64 nn, .int .i64 (k1 : Int)] 3)) (some ⟨wr.heap.size + 1, 0, none⟩) 2 [nn, (k1 : Int)] from by
          have h := Rd.lit (wr.alloc (.cells #[.int .i64 op, .int .i64 ra, .int .i64 rb, .int .i64 rc, .int .i64 obj, .int .i64 nn, .int .i64 fn, .int .i64 ord] 55)) [nn, (k1 : Int)] 3 (by simp)
          rw [World.size_alloc] at h
          exact h)
        rcases hj with rfl | rfl
        all_goals (
          go_wp2_with (at_builtin; refine appI _ rfl (.tmp 30) (.tmp 35) rfl W.heap.size _ (ldL C k) rfl (HO2.out.alloc _) (some ⟨wr.heap.size + 1, 0, none⟩) 2 2 [nn, (k1 : Int)] rfl rfl HRL.out (by rw [List.length_cons, List.length_singleton]; exact hlen) (by simp; omega) ?_; intro v1 w4 o1 _ b4; have HO4 := Lib.hid (show OwnI w4 W.heap.size v1 (ldL C (k + 1)) by rw [HLI.out]; exact o1); have HB4 := Lib.hid (stepA HB2.out b4); clear o1 b4)
          all_goals go_roundw
          all_goals first
            | exact ⟨k + 1, by omega, by go_num, HO4, HB4⟩
            | (simp only [intOf]; omega))
      · have z4 : (op == 4) = false := by simp; omega
        have z5 : (op == 5) = false := by simp; omega
        by_cases h7 : op = 7
        · have HLI := Lib.hid (show ldL C (k + 1) = ldL C k ++ [(k1 : Int)] by rw [HST.out]; unfold ldI; rw [if_neg hj, if_pos h7, hk1e])
          have hlen : (ldL C k).length + 1 ≤ 1000000 := by rw [HM.out]; omega
          have HRL := Lib.hid (show Rd ((wr.alloc (.cells #[.int .i64 op, .int .i64 ra, .int .i64 rb, .int .i64 rc, .int .i64 obj, .int .i64 nn, .int .i64 fn, .int .i64 ord] 55)).alloc (.cells #[.int .i64 (k1 : Int)] 3)) (some ⟨wr.heap.size + 1, 0, none⟩) 1 [(k1 : Int)] from by
            have h := Rd.lit (wr.alloc (.cells #[.int .i64 op, .int .i64 ra, .int .i64 rb, .int .i64 rc, .int .i64 obj, .int .i64 nn, .int .i64 fn, .int .i64 ord] 55)) [(k1 : Int)] 3 (by simp)
            rw [World.size_alloc] at h
            exact h)
          subst h7
          clear hj
          go_wp2_with (at_builtin; refine appI _ rfl (.tmp 39) (.tmp 42) rfl W.heap.size _ (ldL C k) rfl (HO2.out.alloc _) (some ⟨wr.heap.size + 1, 0, none⟩) 1 1 [(k1 : Int)] rfl rfl HRL.out (by rw [List.length_singleton]; exact hlen) (by simp; omega) ?_; intro v1 w4 o1 _ b4; have HO4 := Lib.hid (show OwnI w4 W.heap.size v1 (ldL C (k + 1)) by rw [HLI.out]; exact o1); have HB4 := Lib.hid (stepA HB2.out b4); clear o1 b4)
          all_goals go_roundw
          all_goals first
            | exact ⟨k + 1, by omega, by go_num, HO4, HB4⟩
            | (simp only [intOf]; omega)
        · have z7 : (op == 7) = false := by simpa using h7
          have HF := Lib.hid (show OwnI (wr.alloc (.cells #[.int .i64 op, .int .i64 ra, .int .i64 rb, .int .i64 rc, .int .i64 obj, .int .i64 nn, .int .i64 fn, .int .i64 ord] 55)) W.heap.size (.slice A6 m c6) (ldL C (k + 1)) by
            rw [HST.out]
            unfold ldI
            rw [if_neg hj, if_neg h7, List.append_nil]
            exact HO2.out)
          clear hj h7
          go_wp2
          all_goals go_roundw
          all_goals first
            | exact ⟨k + 1, by omega, by go_num, HF, HB2⟩
            | (simp only [intOf]; omega)
    · obtain rfl : k = n := by omega
      have HRM := Lib.hid (iRemove (ldL C k) (k : Int) m HM.out R HR.out (by omega) A6 c6 wr r6)
      clear r6 hm
      go_wp2_with fail
      refine HRM.out.mono ?_
      rintro e w3 ⟨A3, c3, rfl, r3, b3⟩
      go_wp2
      go_ret2
      exact ⟨A3, c3, rfl, r3, belowThen HBW.out (belowThen HB.out b3)⟩
end Go.Proofs.YtpkagpobobmnfaaGreatDoor

namespace Go.Proofs.YtpkagpobobmnfaaGreatDoor
open Go Go.RowKit Go.Shelf

theorem belowSet9 {B : Nat} {a b : World} (h : Below B a b) (p : Addr) (v : Value) (hp : B ≤ p.block) : Below B a (b.setCell p v) :=
  ⟨h.os, h.tape, h.output, by simpa using h.size, fun k hk => (heap_setCell_other b p k v (by omega)).trans (h.block k hk)⟩
theorem dmKMem {n : Nat} {g : Nat → List Nat} {i : Nat} {x : Int} : x ∈ dmK n g n i ↔ ∃ d : Nat, x = (d : Int) ∧ dmB n g d i = true := by
  rw [dmKAll, List.mem_map]
  constructor
  · rintro ⟨d, hd, rfl⟩
    exact ⟨d, rfl, dmLMem.1 hd⟩
  · rintro ⟨d, rfl, h⟩
    exact ⟨d, dmLMem.2 h, rfl⟩
theorem dmKLenL {n : Nat} {g : Nat → List Nat} {i : Nat} : (dmK n g n i).length = (dmL n g i).length := by rw [dmKAll, List.length_map]
/-- What the loop over the dominators of i has set. -/
def ImIn (n : Nat) (g : Nat → List Nat) (i j : Nat) (m : Int) : Prop :=
  (m = -1 ∧ ∀ k (h : k < (dmK n g n i).length), k < j → ∀ d : Nat, (dmK n g n i)[k] = (d : Int) → (dmL n g d).length + 1 ≠ (dmL n g i).length) ∨ ∃ d : Nat, m = d ∧ dmB n g d i = true ∧ (dmL n g d).length + 1 = (dmL n g i).length
theorem imEnd {n : Nat} {g : Nat → List Nat} {i j : Nat} {m : Int} (h : ImIn n g i j m) (hj : (dmK n g n i).length ≤ j) : m = idm n g i := by
  rcases h with ⟨rfl, h⟩ | ⟨d, rfl, h1, h2⟩
  · refine (idNone fun d hd => ?_).symm
    obtain ⟨k, hk, e⟩ := List.getElem_of_mem (dmKMem.2 ⟨d, rfl, hd⟩)
    exact h k hk (by omega) d e
  · exact (idLen h1 h2).symm
theorem imNo {n : Nat} {g : Nat → List Nat} {i j d : Nat} {m : Int} (h : ImIn n g i j m) (hj : j < (dmK n g n i).length) (hd : (dmK n g n i)[j] = (d : Int)) (hl : (dmL n g d).length + 1 ≠ (dmL n g i).length) : ImIn n g i (j + 1) m := by
  rcases h with ⟨h0, h⟩ | h
  · refine .inl ⟨h0, fun k hk hkj e he => ?_⟩
    by_cases ek : k = j
    · subst ek
      have : e = d := by rw [hd] at he; exact (Int.ofNat_inj.1 he).symm
      subst this
      exact hl
    · exact h k hk (by omega) e he
  · exact .inr h
/-- The row of immediate dominators. -/
noncomputable def idL (n : Nat) (g : Nat → List Nat) : List Int := (List.range n).map fun i => idm n g i
noncomputable def doR (C : List I8) : List Int := if cfE C = 0 then idL C.length (sc C) else []
theorem idLLen {n : Nat} {g : Nat → List Nat} : (idL n g).length = n := by simp [idL]
theorem idLExt {n : Nat} {g : Nat → List Nat} {L : List Int} (hl : L.length = n) (h : ∀ i, i < n → L[i]? = some (idm n g i)) : L = idL n g := by
  refine List.ext_getElem? fun i => ?_
  by_cases hi : i < n
  · rw [h i hi]
    simp [idL, hi]
  · rw [List.getElem?_eq_none (by omega), List.getElem?_eq_none (by rw [idLLen]; omega)]
/-- The row that is being filled. -/
structure ImSt (w : World) (n k : Nat) (g : Nat → List Nat) (L : List Int) (X : World) : Prop where
  len : L.length = n
  own : OwnI X w.heap.size (.slice (some ⟨w.heap.size, 0, none⟩) n n) L
  bel : Below w.heap.size w X
  pre : ∀ i, i < k → L[i]? = some (idm n g i)
theorem ImSt.cell {w X : World} {n k : Nat} {g : Nat → List Nat} {L : List Int} (h : ImSt w n k g L X) {i : Nat} (hi : i < n) : ∃ v, X.cell? ⟨w.heap.size, i, none⟩ = some (.int .i64 v) ∧ L[i]? = some v ∧ X.frozen? ⟨w.heap.size, i, none⟩ = false := by
  have ho := h.own
  unfold OwnI at ho
  rw [h.len] at ho
  have hil : i < L.length := by rw [h.len]; exact hi
  refine ⟨L[i], ?_, List.getElem?_eq_getElem hil, World.ownsRow.frozenAt ho i⟩
  rw [World.ownsRow.cellAt ho i (by omega)]
  unfold iv
  rw [List.getElem?_map, List.getElem?_eq_getElem hil]
  rfl
theorem ImSt.set {w X : World} {n k : Nat} {g : Nat → List Nat} {L : List Int} (h : ImSt w n k g L X) (v : Int) : ImSt w n k g (L.set k v) (X.setCell ⟨w.heap.size, k, none⟩ (.int .i64 v)) := by
  obtain ⟨hl, ho, hb, hp⟩ := h
  subst hl
  refine ⟨by rw [List.length_set], ?_, belowSet9 hb _ _ (Nat.le_refl _), fun i hi => ?_⟩
  · unfold OwnI at ho ⊢
    rw [List.length_set]
    have := (World.ownsRow.stored ho k (.int .i64 v)).1
    unfold iv at this ⊢
    rw [List.map_set]
    exact this
  · rw [List.getElem?_set_ne (by omega)]
    exact hp i hi
theorem ImSt.drewN {w X : World} {n k : Nat} {g : Nat → List Nat} {L : List Int} (h : ImSt w n k g L X) (q : Nat) : ImSt w n k g L (X.drewN q) := ⟨h.len, h.own, belowDrewN h.bel q, h.pre⟩
theorem ImSt.step {w X : World} {n k : Nat} {g : Nat → List Nat} {L : List Int} (h : ImSt w n k g L X) (hk : L[k]? = some (idm n g k)) : ImSt w n (k + 1) g L X :=
  ⟨h.len, h.own, h.bel, fun i hi => by
    by_cases e : i = k
    · subst e; exact hk
    · exact h.pre i (by omega)⟩
set_option maxRecDepth 100000 in
set_option maxHeartbeats 4000000 in
theorem iDominators (nm : ByteArray) (C : List I8) (n : Nat) (hn : C.length = n) (A : Option Addr) (c : Nat) (w : World) (h : CdW w A c C) :
    Calls Tryz.prog 25 #[fnV nm A n c] w (GivesE9 (doR C) (cfE C) w) := by
  obtain ⟨W, hW⟩ : ∃ W, w.alloc (.cells #[.string nm, .slice A n c] 24) = W := ⟨_, rfl⟩
  have hbW : Below w.heap.size w W := by rw [← hW]; exact belowAlloc w _
  have hB : Blk W w.heap.size 24 #[.string nm, .slice A n c] := by rw [← hW]; exact Blk.new w _ _
  have k0 : W.cell? ⟨w.heap.size, 0, none⟩ = some (.string nm) := hB.cell 0
  have k1 : W.cell? ⟨w.heap.size, 1, none⟩ = some (.slice A n c) := hB.cell 1
  have HCO := Lib.hid (iCodeOf nm C n hn A c W (h.below hbW))
  have HCW := Lib.hid (fun X (hX : Below W.heap.size W X) => ((h.below hbW).below hX).rd)
  have HW := Lib.hid hW
  have HBW := Lib.hid hbW
  have hle := h.rd.le
  have hmx := h.rd.max
  rw [hn] at hle
  unfold maxLen at hmx
  clear h hB hW hbW
  unfold fnV at HCO ⊢
  by_cases hc : cfE C = 0
  rotate_left
  · have hne : (cfE C != 0) = true := by simpa using hc
    have e2 : doR C = [] := by unfold doR; rw [if_neg hc]
    rw [e2]
    rw [cdV1 hc] at HCO
    generalize cfE C = E at HCO hne ⊢
    clear hc e2
    go_enter Tryz.func25, Tryz.ntmps25
    go_wp2_with fail
    rw [HW.out]
    refine HCO.out.mono ?_
    rintro e w1 ⟨rfl, b1⟩
    go_wp2
    go_ret2
    exact ⟨none, 0, rfl, Rd.nil, belowThen HBW.out b1⟩
  have hok := cfOk hc
  have h64 := hok.len
  rw [hn] at h64
  have e2 : doR C = idL n (sc C) := by unfold doR; rw [if_pos hc, hn]
  rw [e2, hc]
  rw [cdV0 hc, hc] at HCO
  have HDM := Lib.hid (fun X (hX : Below W.heap.size W X) => iDoms C hok n hn A c X (HCW.out X hX))
  obtain ⟨g, hg⟩ : ∃ g, sc C = g := ⟨_, rfl⟩
  rw [hg] at HDM ⊢
  obtain ⟨i0, hi, hz0, hz1, hz2⟩ := info_parts infoInt
  have HBY := Lib.hid (show i0.bytes * n ≤ 281474976710656 by rw [hz2]; omega)
  have HNM := Lib.hid (show n ≤ maxLen by unfold maxLen; omega)
  clear hc hok e2 hg hn
  go_enter Tryz.func25, Tryz.ntmps25
  go_wp2_with fail
  rw [HW.out]
  refine HCO.out.mono ?_
  rintro e w1 ⟨rfl, b1⟩
  have HD1 := Lib.hid (HDM.out w1 b1)
  clear k0 k1
  go_wp2_with fail
  refine HD1.out.mono ?_
  rintro e w2 ⟨Ad, cd, rfl, hrf, b2⟩
  have HB2 := Lib.hid (belowThen b1 b2)
  have HRF := Lib.hid (fun i (hi : i < n) => by
    obtain ⟨ad, A', c', ea, hb, hc, hr⟩ := hrf.one hi
    exact (⟨ad, A', c', ea, fun X hX => ⟨(hX.cell (by rw [addBlock]; exact hb)).trans hc, hr.below hX⟩⟩ : ∃ ad A' c', Ad = some ad ∧ ∀ X, Below w2.heap.size w2 X → X.cell? (ad.add i) = some (.slice A' (dmK n g n i).length c') ∧ Rd X A' c' (dmK n g n i)))
  have hdle := hrf.le
  have hdmx := hrf.max
  unfold maxLen at hdmx
  clear hrf b1 b2
  go_wp2_with (first
    | (at_make; refine wpList_make_full _ rfl (.tmp 22) (.tmp 22) 33 rfl w2.heap.size 3 i0 _ 1 Tryz.underlying33 hi hz0 hz1 .i64 .i64 _ _ n rfl rfl rfl rfl HBY.out HNM.out (by simp) ?_; intro w3 o3 g3; have O3 := Lib.hid o3; have G3 := Lib.hid g3; clear o3 g3)
    | fail)
  have HS3 : Hid (ImSt w2 n 0 g (List.replicate n 0) w3) := Lib.hid (by
    have h := O3.out
    have e : (madeCells (Value.int .i64 0).cells (n * 1)).toList = iv (List.replicate n 0) := by rw [Nat.mul_one]; unfold iv; rw [List.map_replicate]; exact toList_madeCells_one _ _
    rw [e] at h
    refine ⟨by simp, by unfold OwnI; rw [List.length_replicate]; exact h, (Below.refl _ w2).grown G3.out (Nat.le_refl _) (fun k hk => by cases hk), fun i h => absurd h (Nat.not_lt_zero _)⟩)
  clear hi hz0 hz1 hz2 O3 G3
  go_loopw [26] (fun v X => ∃ (k : Nat) (L : List Int), k ≤ n ∧ v = .int .i64 k ∧ Hid (ImSt w2 n k g L X)) (fun v _ => n - (intOf v).toNat)
  case atStart => exact ⟨0, _, Nat.zero_le _, rfl, HS3⟩
  case round =>
    clear HS3
    obtain ⟨k, L, hk, rfl, HS⟩ := hrel
    by_cases hlt : k < n
    · obtain ⟨v0, hc0, _, hf0⟩ := HS.out.cell hlt
      have hs1 := HS.out.set (-1)
      obtain ⟨Y, hY⟩ : ∃ Y, wr.setCell ⟨w2.heap.size, k, none⟩ (.int .i64 (-1)) = Y := ⟨_, rfl⟩
      rw [hY] at hs1
      have HS1 := Lib.hid hs1
      obtain ⟨ad, Ak, ck, rfl, hrr⟩ := HRF.out k hlt
      have HRR := Lib.hid hrr
      obtain ⟨hcw, _⟩ := hrr wr HS.out.bel
      obtain ⟨hcl, hrk⟩ := hrr Y hs1.bel
      rw [← hY] at hcl
      have hlk := dmKLen (n := n) (g := g) (k := n) (i := k)
      have hlk2 := dmKLenL (n := n) (g := g) (i := k)
      obtain ⟨m, hm⟩ : ∃ m, (dmK n g n k).length = m := ⟨_, rfl⟩
      rw [hm] at hcl hcw hlk hlk2
      have hmle := hrk.le
      have hmmx := Rd.max hrk
      rw [hm] at hmle
      unfold maxLen at hmmx
      have HM := Lib.hid hm
      have HI0 : Hid (ImIn n g k 0 (-1)) := Lib.hid (.inl ⟨rfl, fun _ _ h => absurd h (Nat.not_lt_zero _)⟩)
      have HLL : Hid ((L.set k (-1))[k]? = some (-1)) := Lib.hid (by rw [List.getElem?_set_self (by rw [HS.out.len]; exact hlt)])
      have hk0 : (0 : Int) ≤ k := by omega
      have hk1 : (k : Int) < n := by omega
      have HYE := Lib.hid hY
      clear hs1 hm hY hrk hrr
      go_wp2
      go_loopw [37] (fun v X => ∃ (j : Nat) (L : List Int) (cur : Int), j ≤ m ∧ v = .int .i64 j ∧ Hid (ImSt w2 n k g L X) ∧ Hid (L[k]? = some cur) ∧ Hid (ImIn n g k j cur)) (fun v _ => m - (intOf v).toNat)
      case atStart => exact ⟨0, _, -1, Nat.zero_le _, rfl, by rw [HYE.out]; exact HS1, HLL, HI0⟩
      case round =>
        clear HS1 HS HLL HI0 hcl hcw hc0 hf0
        obtain ⟨j, L, cur, hj, rfl, HS, HLC, HIN⟩ := hrel
        by_cases hjm : j < m
        · have hjl : j < (dmK n g n k).length := by rw [HM.out]; exact hjm
          obtain ⟨hcr, hr'⟩ := HRR.out wr HS.out.bel
          rw [HM.out] at hcr
          obtain ⟨d, hd, hdm⟩ := dmKMem.1 (List.getElem_mem hjl)
          have hdn := (dmLt hdm).1
          obtain ⟨aj, ej, _, hcj⟩ := hr'.one hjl
          rw [hd] at hcj
          subst ej
          obtain ⟨ad', Ad', cd', e1, hrd⟩ := HRF.out d hdn
          injection e1 with e1
          subst e1
          obtain ⟨hcd, hrd'⟩ := hrd wr HS.out.bel
          have hld := dmKLenL (n := n) (g := g) (i := d)
          have hldn := dmKLen (n := n) (g := g) (k := n) (i := d)
          have hdle' := hrd'.le
          have hdmx' := Rd.max hrd'
          obtain ⟨md, hmd⟩ : ∃ md, (dmK n g n d).length = md := ⟨_, rfl⟩
          rw [hmd] at hcd hld hldn hdle'
          unfold maxLen at hdmx'
          obtain ⟨v1, hc1, _, hf1⟩ := HS.out.cell hlt
          have hj0 : (0 : Int) ≤ j := by omega
          have hj1 : (j : Int) < m := by omega
          have hd0 : (0 : Int) ≤ d := by omega
          have hd1 : (d : Int) < n := by omega
          have hwm : IntKind.i64.wrap ((m : Int) - 1) = (m : Int) - 1 := by rw [IntKind.wrap_i64]; omega
          have HD := Lib.hid hd
          have HDM2 := Lib.hid hdm
          clear hr' hrd hrd' hmd hd hdm
          by_cases hl : md + 1 = m
          · have he : ((md : Int) == (m : Int) - 1) = true := by simp; omega
            have HF := Lib.hid (fun q => (HS.out.drewN q).set (d : Int))
            have HFL : Hid ((L.set k (d : Int))[k]? = some (d : Int)) := Lib.hid (by rw [List.getElem?_set_self (by rw [HS.out.len]; exact hlt)])
            have HFI : Hid (ImIn n g k (j + 1) (d : Int)) := Lib.hid (.inr ⟨d, rfl, HDM2.out, by rw [← hld, ← hlk2]; exact hl⟩)
            clear hl
            go_wp2_with fail
            try go_quiet (fail)
            all_goals go_wp2
            all_goals go_roundw
            case rel => exact ⟨j + 1, _, _, by omega, by go_num, Lib.hid (HF.out _), HFL, HFI⟩
            case measure => simp [intOf]; omega
          · have he : ((md : Int) == (m : Int) - 1) = false := by simp; omega
            have HFI : Hid (ImIn n g k (j + 1) cur) := Lib.hid (imNo HIN.out hjl HD.out (by rw [← hld, ← hlk2]; exact hl))
            clear hl
            go_wp2_with fail
            try go_quiet (fail)
            all_goals go_wp2
            all_goals go_roundw
            case rel => exact ⟨j + 1, L, cur, by omega, by go_num, Lib.hid (HS.out.drewN _), HLC, HFI⟩
            case measure => simp [intOf]; omega
        · obtain rfl : j = m := by omega
          have he := imEnd HIN.out (by rw [HM.out]; exact Nat.le_refl _)
          have HF := Lib.hid (HS.out.step (by rw [HLC.out, he]))
          clear he
          go_wp2
          go_roundw
          case rel => exact ⟨k + 1, L, by omega, by go_num, HF⟩
          case measure => simp [intOf]; omega
    · obtain rfl : k = n := by omega
      have HF := Lib.hid (idLExt HS.out.len HS.out.pre)
      obtain ⟨A3, c3, e3, hr3, _⟩ := HS.out.own.rd
      rw [HS.out.len] at e3
      injection e3 with e1 _ e2
      subst e1; subst e2
      have HR3 := Lib.hid (HF.out ▸ hr3)
      have HBX := Lib.hid (belowThen HBW.out (belowThen HB2.out HS.out.bel))
      have HLN := Lib.hid (idLLen (n := k) (g := g))
      clear hr3
      go_wp2
      go_ret2
      exact ⟨_, _, by rw [HLN.out]; rfl, HR3.out, HBX.out⟩
end Go.Proofs.YtpkagpobobmnfaaGreatDoor
