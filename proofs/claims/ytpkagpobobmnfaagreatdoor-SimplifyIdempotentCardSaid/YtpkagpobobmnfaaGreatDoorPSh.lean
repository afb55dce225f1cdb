/-
  The contracts of hasTarget, finalTarget and simplify.Thread.
-/
import Derived.Test.YtpkagpobobmnfaaGreatDoorPSa
import Derived.Test.YtpkagpobobmnfaaGreatDoorPSb
import Derived.Test.YtpkagpobobmnfaaGreatDoorPCg
import Derived.Deep.CutRange
import Derived.Deep.DeepCutAuto
import Derived.Test.YtpkagpobobmnfaaGreatDoorPCc
namespace Go.Proofs.YtpkagpobobmnfaaGreatDoor
open Go Go.RowKit

set_option maxRecDepth 100000 in
set_option maxHeartbeats 2000000 in
theorem iHasTgt (i : I8) (w : World) : Calls Tryz.prog 47 #[i.val] w fun e w' => e = .returned (.bool i.jmp) ∧ Below w.heap.size w w' := by
  obtain ⟨r, hr⟩ : ∃ r, i.jmp = r := ⟨_, rfl⟩
  rw [hr]
  obtain ⟨op, ra, rb, rc, obj, m, fn, ord⟩ := i
  obtain ⟨W, hW, hbW, -, hbox⟩ := boxNew w op ra rb rc obj m fn ord
  obtain ⟨c0, c1, c2, c3, c4, c5, c6, c7⟩ := boxFactsW hbox
  have HW := Lib.hid hW
  have HBW := Lib.hid hbW
  have hr : (decide (op = 4) || decide (op = 5)) = r := hr
  unfold I8.val
  simp only
  clear hW hbW hbox c1 c2 c3 c4 c5 c6 c7
  by_cases h4 : op = 4
  · subst h4
    have hr : true = r := hr
    subst hr
    go_enter Tryz.func47, Tryz.ntmps47
    go_wp2_with fail
    rw [HW.out]
    go_wp2
    go_ret
    exact ⟨rfl, HBW.out⟩
  · have z4 : (op == 4) = false := by simpa using h4
    by_cases h5 : op = 5
    · subst h5
      have hr : true = r := hr
      subst hr
      go_enter Tryz.func47, Tryz.ntmps47
      go_wp2_with fail
      rw [HW.out]
      go_wp2
      go_ret
      exact ⟨rfl, HBW.out⟩
    · have z5 : (op == 5) = false := by simpa using h5
      have hr : false = r := by rw [← hr, decide_eq_false h4, decide_eq_false h5]; rfl
      subst hr
      clear h4 h5
      go_enter Tryz.func47, Tryz.ntmps47
      go_wp2_with fail
      rw [HW.out]
      go_wp2
      go_ret
      exact ⟨rfl, HBW.out⟩
theorem retN {a b : Nat} (h : a = b) : Ending.returned (.int .i64 (a : Int)) = .returned (.int .i64 (b : Int)) := by rw [h]
set_option maxRecDepth 100000 in
set_option maxHeartbeats 4000000 in
theorem iFinalT (C : List I8) (hok : CfOk C) (n : Nat) (hn : C.length = n) (A : Option Addr) (c : Nat) (w : World) (hr : RdE 8 EI w A c C) (k t : Nat) (hk : k < C.length) (hj : C[k].jmp = true) (ht : C[k].n.toNat = t) :
    Calls Tryz.prog 48 #[.slice A n c, .int .i64 (t : Int)] w fun e w' => e = .returned (.int .i64 ((fin C t : Nat) : Int)) ∧ Below w.heap.size w w' := by
  have htn : t ≤ n := by have := hok.tgt _ (List.getElem_mem hk) hj; omega
  have HRD := Lib.hid (fun X (hX : Below w.heap.size w X) => hr.below stabI hX)
  obtain ⟨r, hre⟩ : ∃ r, fin C t = r := ⟨_, rfl⟩
  have HY := Lib.hid (fun j u (h1 : ptJ C t j = some u) (h2 : nxJ C u = none) => ((finYes ⟨j, h1, h2⟩).symm.trans hre : u = r))
  have HNO := Lib.hid (fun u (h1 : ptJ C t C.length = some u) => ((finLongN h1 hk hj ht).symm.trans hre : t = r))
  have HT := Lib.hid (fun u (hu : u < C.length) (h4 : C[u].op = 4) => hok.tgt _ (List.getElem_mem hu) (jmp4 h4))
  have HN := Lib.hid hn
  have h64 : n ≤ 64 := by have := hok.len; omega
  have hle := hr.le
  have hmx := hr.max
  rw [hn] at hle
  unfold maxLen at hmx
  rw [hre]
  clear hre hr hok hj ht hk
  go_enter Tryz.func48, Tryz.ntmps48
  go_wp2
  go_loopg [5, 9] n (fun g u i X => ∃ j z : Nat, j + g = n ∧ i = .int .i64 j ∧ u = .int .i64 (z : Int) ∧ z ≤ n ∧ Hid (ptJ C t j = some z) ∧ Below w.heap.size w X)
  case atStart => exact ⟨0, t, by omega, rfl, rfl, htn, Lib.hid rfl, Below.refl _ _⟩
  case round =>
    obtain ⟨j, z, hj, rfl, rfl, hz, HP, hb⟩ := hrel
    cases gk with
    | zero =>
      have hjn : j = n := by omega
      subst hjn
      have hjz : ¬ ((j : Int) < j) := by omega
      have HX := Lib.hid (HNO.out z (by rw [HN.out]; exact HP.out))
      go_wp2
      go_ret
      exact ⟨retN HX.out, hb⟩
    | succ g2 =>
      have hj1 : (j : Int) < n := by omega
      by_cases hzn : z = n
      · subst hzn
        have HX := Lib.hid (HY.out j z HP.out (nxOut (by rw [HN.out]; exact Nat.le_refl _)))
        go_wp2
        go_ret
        exact ⟨retN HX.out, hb⟩
      · have hzl : z < C.length := by rw [HN.out]; omega
        obtain ⟨q, off, hA, _, i0, i1, i2, i3, i4, i5, i6, i7⟩ := (HRD.out wr hb).one hzl
        have hA : A = _ := hA
        subst hA
        have hz0 : (0 : Int) ≤ z := by omega
        have hz1 : (z : Int) < n := by omega
        have ze : ((z : Int) == (n : Int)) = false := by simp; omega
        have HNX := Lib.hid (nxAtF hzl)
        have HTT := Lib.hid (HT.out z hzl)
        obtain ⟨ii, hii⟩ : ∃ x, C[z] = x := ⟨_, rfl⟩
        rw [hii] at i0 i5 HNX HTT
        clear hii i1 i2 i3 i4 i6 i7 hzn
        obtain ⟨op, ra, rb, rc, obj, m, fn, ord⟩ := ii
        simp only at i0 i5 HNX HTT
        by_cases h4 : op = 4
        · subst h4
          have hm := HTT.out rfl
          have HP2 : Hid (ptJ C t (j + 1) = some m.toNat) := Lib.hid (by rw [ptS HP.out, HNX.out, if_pos rfl])
          have hmn : m.toNat ≤ n := by rw [HN.out] at hm; omega
          have em : m = ((m.toNat : Nat) : Int) := by omega
          generalize m.toNat = m2 at HP2 hmn em
          subst em
          clear hm
          go_wp2
          go_roundg g2
          case measure => omega
          case rel => exact ⟨j + 1, m2, by omega, by go_num, rfl, hmn, HP2, hb⟩
        · have z4 : (op != 4) = true := by simpa using h4
          have HX := Lib.hid (HY.out j z HP.out (by rw [HNX.out, if_neg h4]))
          clear h4
          go_wp2
          go_ret
          exact ⟨retN HX.out, hb⟩
end Go.Proofs.YtpkagpobobmnfaaGreatDoor

namespace Go.Proofs.YtpkagpobobmnfaaGreatDoor
open Go Go.RowKit Go.Maps

noncomputable def thK (C : List I8) (k : Nat) : List I8 := (C.take k).map (thI C)
theorem thKS {C : List I8} {k : Nat} (hk : k < C.length) : thK C (k + 1) = thK C k ++ [thI C C[k]] := by
  unfold thK
  rw [List.take_succ_eq_append_getElem hk, List.map_append]; rfl
theorem thKAll {C : List I8} : thK C C.length = thL C := by unfold thK thL; rw [List.take_length]
theorem thKLen {C : List I8} {k : Nat} (hk : k ≤ C.length) : (thK C k).length = k := by unfold thK; rw [List.length_map, List.length_take]; omega
/-- What lies in memory while the code is threaded. -/
structure ThStF (w1 : World) (nm : ByteArray) (L : List I8) (X : World) : Prop where
  bel : Below w1.heap.size w1 X
  fn : ∃ v, FnSv X w1.heap.size (w1.heap.size + 1) nm v L
theorem thStartF (w1 : World) (nm : ByteArray) : ThStF w1 nm [] (w1.alloc (.cells #[.string nm, .slice none 0 0] 24)) :=
  ⟨belowAlloc _ _, ⟨_, ⟨Blk.new w1 _ _, OwnC8.nil _ _, by omega, by simp⟩⟩⟩
end Go.Proofs.YtpkagpobobmnfaaGreatDoor

namespace Go.Proofs.YtpkagpobobmnfaaGreatDoor
open Go Go.RowKit

/-- What Reach gives. -/
noncomputable def rchO (C : List I8) : List Int := if cfE C = 0 then (rmK C C.length).map Int.ofNat else []
theorem rmSrt (C : List I8) (k : Nat) : Srt ((rmK C k).map Int.ofNat) := by
  unfold rmK Srt
  rw [List.pairwise_map]
  refine (List.Pairwise.filter _ (List.pairwise_lt_range (n := k))).imp fun h => ?_
  exact Int.ofNat_lt.2 h
theorem rmMk {C : List I8} {D : List Nat} (h : ∀ x, x ∈ D ↔ onB C x = true) : mk (D.map Int.ofNat) = (rmK C C.length).map Int.ofNat := by
  refine (mkEq (rmSrt C _) fun x => ?_).symm
  rw [List.mem_map, List.mem_map]
  constructor
  · rintro ⟨y, h1, rfl⟩
    exact ⟨y, (h y).2 (rmMem.1 h1).2, rfl⟩
  · rintro ⟨y, h1, rfl⟩
    exact ⟨y, rmMem.2 ⟨onLt ((h y).1 h1), (h y).1 h1⟩, rfl⟩
/-- How many reached instructions lie ahead of a target. -/
theorem rmCnt {C : List I8} : ∀ {m t : Nat}, ((rmK C m).map Int.ofNat).countP (fun z => decide (z < (t : Int))) = rmN C (min t m)
  | 0, t => by simp [rmK, rmN]
  | m + 1, t => by
    have h := rmCnt (C := C) (m := m) (t := t)
    rw [rmKS, List.map_append, List.countP_append, h]
    by_cases ht : t ≤ m
    · rw [Nat.min_eq_left ht, Nat.min_eq_left (by omega)]
      have : (List.map Int.ofNat (if onB C m = true then [m] else [])).countP (fun z => decide (z < (t : Int))) = 0 := by
        split
        · rw [List.map_singleton, List.countP_singleton, if_neg]
          have : ¬ ((m : Int) < (t : Int)) := by omega
          simpa using this
        · rfl
      omega
    · rw [Nat.min_eq_right (by omega), Nat.min_eq_right (show m + 1 ≤ t by omega), rmNS]
      congr 1
      split
      · rw [List.map_singleton, List.countP_singleton, if_pos]
        have : ((m : Int) < (t : Int)) := by omega
        simpa using this
      · rfl
set_option maxRecDepth 100000 in
set_option maxHeartbeats 4000000 in
theorem iReachF (nm : ByteArray) (C : List I8) (n : Nat) (hn : C.length = n) (A : Option Addr) (c : Nat) (w : World) (h : CdW w A c C) :
    Calls Tryz.prog 10 #[fnV nm A n c] w (GivesE9 (rchO C) (cfE C) w) := by
  obtain ⟨W, hWE⟩ : ∃ W, w.alloc (.cells #[.string nm, .slice A n c] 24) = W := ⟨_, rfl⟩
  have hbW : Below w.heap.size w W := by rw [← hWE]; exact belowAlloc w _
  have hBF : Blk W w.heap.size 24 #[.string nm, .slice A n c] := by rw [← hWE]; exact Blk.new w _ _
  have k0 : W.cell? ⟨w.heap.size, 0, none⟩ = some (.string nm) := hBF.cell 0
  have k1 : W.cell? ⟨w.heap.size, 1, none⟩ = some (.slice A n c) := hBF.cell 1
  have HCO := Lib.hid (iCodeOf nm C n hn A c W (h.below hbW))
  have HCW := Lib.hid (fun X (hX : Below W.heap.size W X) => ((h.below hbW).below hX).rd)
  have HW := Lib.hid hWE
  have HBW := Lib.hid hbW
  have HN := Lib.hid hn
  clear hbW hBF hWE h
  unfold fnV at HCO ⊢
  by_cases hc : cfE C = 0
  rotate_left
  · have e2 : rchO C = [] := by unfold rchO; rw [if_neg hc]
    have hne : (cfE C != 0) = true := by simpa using hc
    rw [e2]
    rw [cdV1 hc] at HCO
    generalize cfE C = E at HCO hne ⊢
    clear hc e2 hn
    go_enter Tryz.func10, Tryz.ntmps10
    go_wp2_with fail
    rw [HW.out]
    go_wp2_with fail
    refine HCO.out.mono ?_
    rintro e w1 ⟨rfl, b1⟩
    go_wp2
    go_ret2
    exact ⟨none, 0, rfl, Rd.nil, belowThen HBW.out b1⟩
  have hok := cfOk hc
  have e2 : rchO C = (rmK C C.length).map Int.ofNat := by unfold rchO; rw [if_pos hc]
  have h64 := hok.len
  rw [hn] at h64
  have HRW := Lib.hid (fun X (hX : Below W.heap.size W X) => iReachW C hok n hn A c (-1) X (HCW.out X hX))
  have HME : Hid (∀ D : List Nat, (∀ x, x ∈ D ↔ rcB n (sc C) (-1) x = true) → mk (D.map Int.ofNat) = rchO C ∧ ∀ x ∈ D, x < n) := Lib.hid fun D hD => by
    have hD' : ∀ x, x ∈ D ↔ onB C x = true := fun x => by rw [hD x]; unfold onB; rw [hn]
    exact ⟨by rw [e2]; exact rmMk hD', fun x hx => by have := onLt ((hD' x).1 hx); omega⟩
  rw [hc]
  rw [cdV0 hc, hc] at HCO
  obtain ⟨R, hR⟩ : ∃ R, rchO C = R := ⟨_, rfl⟩
  rw [hR] at HME ⊢
  clear hc hok e2 hR hn
  go_enter Tryz.func10, Tryz.ntmps10
  go_wp2_with fail
  rw [HW.out]
  go_wp2_with fail
  refine HCO.out.mono ?_
  rintro e w1 ⟨rfl, b1⟩
  have HB1 := Lib.hid b1
  have HR1 := Lib.hid (HRW.out w1 b1)
  clear b1
  go_wp2_with fail
  refine HR1.out.mono ?_
  rintro e w2 ⟨gm, D, rfl, hm, hnd, hD, hg, b2⟩
  obtain ⟨hmk, hlt⟩ := HME.out D hD
  have HS := Lib.hid (iSorted gm D hnd (by have := nodupLe9 hnd hlt; omega) w2 hm)
  rw [hmk] at HS
  have HB2 := Lib.hid (belowThen HB1.out b2)
  clear hm hnd hD hg b2 hmk hlt
  go_wp2_with fail
  refine HS.out.mono ?_
  rintro e w3 ⟨A3, c3, rfl, r3, b3⟩
  go_wp2
  go_ret2
  exact ⟨A3, c3, rfl, r3, belowThen HBW.out (belowThen HB2.out b3)⟩
/-- The library's search for a target among the reached instructions. -/
theorem iBin {C : List I8} {t m : Nat} (ht : t ≤ C.length) (h64 : C.length ≤ 64) (hm : (rmK C C.length).length = m) (h0 : 0 < m) (A : Option Addr) (c : Nat) (w : World) (hr : Rd w A c ((rmK C C.length).map Int.ofNat)) :
    Calls Tryz.prog 49 #[.slice A m c, .int .i64 (t : Int)] w fun e w' => ∃ b, e = .returned (.tuple #[.int .i64 ((rmN C t : Nat) : Int), .bool b]) ∧ Below w.heap.size w w' := by
  have hl : ((rmK C C.length).map Int.ofNat).length = m := by rw [List.length_map]; exact hm
  obtain ⟨b, off, rfl, _, hc⟩ := rdPlain9 hr (by omega)
  have hml : m ≤ 64 := by rw [← hm]; have := rmNLe (C := C) (k := C.length); unfold rmN at this; omega
  have htk : ((rmK C C.length).map Int.ofNat).take m = (rmK C C.length).map Int.ofNat := List.take_of_length_le (by omega)
  refine (Tryz.slices_BinarySearch_int b off m c ((rmK C C.length).map Int.ofNat) (t : Int) w (by omega) (by omega) hc ?_).mono ?_
  · rw [htk]
    exact (rmSrt C _).imp fun h => by omega
  · rintro e w' ⟨rfl, q, rfl⟩
    have e1 : (((rmK C C.length).map Int.ofNat).take m).countP (fun z => decide (z < (t : Int))) = rmN C t := by rw [htk, rmCnt, Nat.min_eq_left ht]
    exact ⟨(((rmK C C.length).map Int.ofNat).take m).contains (t : Int), by rw [e1], belowN w q⟩
end Go.Proofs.YtpkagpobobmnfaaGreatDoor

namespace Go.Proofs.YtpkagpobobmnfaaGreatDoor
open Go Go.RowKit Go.Maps

noncomputable def prT (C : List I8) (j : Nat) : List I8 := ((rmK C C.length).take j).map fun x => prI C (gI C x)
theorem prTS {C : List I8} {j : Nat} (hj : j < (rmK C C.length).length) : prT C (j + 1) = prT C j ++ [prI C (gI C (rmK C C.length)[j])] := by
  unfold prT
  rw [List.take_succ_eq_append_getElem hj, List.map_append]; rfl
theorem prTAll {C : List I8} : prT C (rmK C C.length).length = prL C := by unfold prT prL prK; rw [List.take_length]
theorem prTLen {C : List I8} {j : Nat} (hj : j ≤ (rmK C C.length).length) : (prT C j).length = j := by unfold prT; rw [List.length_map, List.length_take]; omega
set_option maxRecDepth 100000 in
set_option maxHeartbeats 8000000 in
theorem iPruneF (nm : ByteArray) (C : List I8) (n : Nat) (hn : C.length = n) (A : Option Addr) (c : Nat) (w : World) (h : CdW w A c C) :
    Calls Tryz.prog 21 #[fnV nm A n c] w (GivesFn (nmRf C nm) (cdR C (prL C)) (cfE C) w) := by
  obtain ⟨W, hW⟩ : ∃ W, (w.alloc (.cells #[.string nm, .slice A n c] 24)).alloc (.cells #[.string ⟨#[]⟩, .slice none 0 0] 24) = W := ⟨_, rfl⟩
  obtain ⟨h1, h2, hbW, hsz⟩ := two8 w _ _ hW
  have HB1 := Lib.hid (show Blk W w.heap.size 24 _ from h1)
  have HB2 := Lib.hid (show Blk W (w.heap.size + 1) 24 _ from h2)
  have hcd := h.below hbW
  have HCD := Lib.hid (fun X (hX : Below W.heap.size W X) => hcd.below hX)
  have HLE := Lib.hid (iReachF nm C n hn A c W hcd)
  have HW := Lib.hid hW
  have HBW := Lib.hid hbW
  have HSZ := Lib.hid hsz
  have HN := Lib.hid hn
  have hle := h.rd.le
  have hmx := h.rd.max
  rw [hn] at hle
  unfold maxLen at hmx
  have a0 := HB1.out.cell 0
  have a1 := HB1.out.cell 1
  clear h h1 h2 hbW hW hsz hcd hn
  unfold fnV at HLE ⊢
  by_cases hc : cfE C = 0
  rotate_left
  · have hne : (cfE C != 0) = true := by simpa using hc
    unfold GivesFn
    rw [nmR1 hc, cdR1 hc]
    obtain ⟨er, her⟩ : ∃ er, cfE C = er := ⟨_, rfl⟩
    rw [her] at HLE hne ⊢
    obtain ⟨q, hq⟩ : ∃ q, (rchO C).length = q := ⟨_, rfl⟩
    clear hc her
    go_enter Tryz.func21, Tryz.ntmps21
    go_wp2_with fail
    rw [HW.out]
    go_wp2_with fail
    refine HLE.out.mono ?_
    rintro e w1 ⟨A1, c1, rfl, -, b1⟩
    rw [hq]
    have HB2' := Lib.hid (HB2.out.below' b1)
    have HG := Lib.hid (belowThen HBW.out b1)
    have g0 := HB2'.out.cell 0
    have g1 := HB2'.out.cell 1
    have fg0 := HB2'.out.frozen 0
    have fg1 := HB2'.out.frozen 1
    clear b1 a0 a1
    go_wp2_with fail
    refine bodyPost_ret ((stored2F HB2'.out).res2 rfl _ rfl Tryz.underlying24 rfl infoFn2) rfl ?_
    exact ⟨none, 0, rfl, RdE.nil, below2F HG.out (by omega)⟩
  have hok := cfOk hc
  unfold GivesFn
  rw [nmR0 hc, cdR0 hc]
  rw [hc] at HLE ⊢
  have h64 : n ≤ 64 := by have := hok.len; rw [HN.out] at this; exact this
  have HOK := Lib.hid hok
  obtain ⟨q, hq⟩ : ∃ q, (rchO C).length = q := ⟨_, rfl⟩
  have ero : rchO C = (rmK C C.length).map Int.ofNat := if_pos hc
  have hqm : (rmK C C.length).length = q := by rw [ero, List.length_map] at hq; exact hq
  have e9 : (prL C).length = q := by rw [prLen]; exact hqm
  rw [e9]
  have HQM := Lib.hid hqm
  have HRO := Lib.hid ero
  have hq64 : q ≤ 64 := by have h9 := rmNLe (C := C) (k := C.length); have h8 : rmN C C.length = q := hqm; have h7 := HN.out; omega
  clear hc hok e9 hqm ero
  go_enter Tryz.func21, Tryz.ntmps21
  go_wp2_with fail
  rw [HW.out]
  go_wp2_with fail
  refine HLE.out.mono ?_
  rintro e w1 ⟨A1, c1, rfl, r1, b1⟩
  rw [hq]
  rw [HRO.out] at r1
  have HR1 := Lib.hid r1
  have hle1 := r1.le
  have hmx1 := r1.max
  rw [List.length_map, HQM.out] at hle1
  unfold maxLen at hmx1
  clear r1
  have HB1' := Lib.hid b1
  have HB2' := Lib.hid (HB2.out.below' b1)
  have HST0 := Lib.hid (thStartF w1 nm)
  have HSZ1 : Hid (w.heap.size + 2 ≤ w1.heap.size) := Lib.hid (by have := b1.size; have := HSZ.out; omega)
  clear a0 a1 hq
  have a0 := (HB1.out.below' b1).cell 0
  have a1 := (HB1.out.below' b1).cell 1
  have HA1 := Lib.hid a1
  obtain ⟨w2, hw2⟩ : ∃ w2, w1.alloc (.cells #[.string nm, .slice none 0 0] 24) = w2 := ⟨_, rfl⟩
  rw [hw2] at HST0
  have a1' := (HST0.out.bel.cell (p := ⟨w.heap.size, 1, none⟩) (by have := HSZ1.out; show w.heap.size < _; omega)).trans a1
  have HW2 := Lib.hid hw2
  clear b1 hw2
  go_upto_region 5 with fail
  rw [HW2.out]
  clear a0 a1
  go_wp2_with fail
  go_loopg [24] q (fun g i X => ∃ k : Nat, k + g = q ∧ i = .int .i64 k ∧ ThStF w1 nm (prT C k) X)
  case atStart => exact ⟨0, by omega, rfl, HST0.out⟩
  case round =>
    obtain ⟨k, hk, rfl, hst⟩ := hrel
    have HS := Lib.hid hst
    clear a1'
    obtain ⟨v, hv⟩ := hst.fn
    obtain ⟨Av, cv, ev, -⟩ := hv.row.rd
    have hlk : (prT C k).length = k := prTLen (by rw [HQM.out]; omega)
    rw [hlk] at ev
    subst ev
    obtain ⟨d0, d1, fd0, fd1⟩ := hv.cells
    have HV := Lib.hid hv
    have HLK := Lib.hid hlk
    cases gk with
    | zero =>
      have hkn : k = q := by omega
      subst hkn
      have hjz : ¬ ((k : Int) < k) := by omega
      have HB3 := Lib.hid (HB2'.out.below' hst.bel)
      have g0 := HB3.out.cell 0
      have g1 := HB3.out.cell 1
      have fg0 := HB3.out.frozen 0
      have fg1 := HB3.out.frozen 1
      have HG := Lib.hid (belowThen (belowThen HBW.out HB1'.out) hst.bel)
      have HL : Hid (prT C k = prL C) := Lib.hid (by rw [← HQM.out]; exact prTAll)
      have HZ := HSZ1.out
      clear hst hv hlk
      go_wp2_with fail
      refine bodyPost_ret ((stored2F HB3.out).res2 rfl _ rfl Tryz.underlying24 rfl infoFn2) rfl ?_
      have hrow := HV.out.row.chg ((chgSetF wr (w.heap.size + 1) 0 (.string nm)).trans (chgSetF _ (w.heap.size + 1) 1 (.slice Av k cv)) fun _ _ h => h) fun g hg => by
        have := (World.ownsRow.lt HV.out.row g hg).1
        show g ≠ _
        omega
      obtain ⟨A6, c6, e6, r6⟩ := hrow.rd
      rw [HLK.out] at e6
      injection e6 with e7 _ e8
      subst e7 e8
      rw [HL.out] at r6
      exact ⟨Av, cv, rfl, r6, below2F HG.out (by omega)⟩
    | succ g2 =>
      have hkq : k < q := by omega
      have hkr : k < (rmK C C.length).length := by rw [HQM.out]; exact hkq
      have hj0 : (0 : Int) ≤ k := by omega
      have hj1 : (k : Int) < q := by omega
      have hbw := belowThen HB1'.out hst.bel
      have hcdw := HCD.out wr hbw
      have hrw := HR1.out.below hst.bel
      have ha8 := (hst.bel.cell (p := ⟨w.heap.size, 1, none⟩) (by have := HSZ1.out; show w.heap.size < _; omega)).trans HA1.out
      obtain ⟨rb, roff, eR, _, hrc⟩ := rdPlain9 hrw (by rw [List.length_map]; omega)
      have hx0 := hrc k (by rw [List.length_map]; exact hkr)
      obtain ⟨y, hy⟩ : ∃ y, (rmK C C.length)[k] = y := ⟨_, rfl⟩
      have ey : ((rmK C C.length).map Int.ofNat).getD k 0 = (y : Int) := by rw [← hy]; simp [List.getD, hkr]
      rw [ey] at hx0
      have hyl : y < C.length := by have := (rmMem.1 (List.getElem_mem hkr)).1; rw [hy] at this; exact this
      have hyn : y < n := by rw [HN.out] at hyl; exact hyl
      have hk0 : (0 : Int) ≤ y := by omega
      have hk1 : (y : Int) < n := by omega
      obtain ⟨q8, off, hA, _, i0, i1, i2, i3, i4, i5, i6, i7⟩ := hcdw.rd.one hyl
      have hA : A = _ := hA
      have HPU0 := prTS hkr
      rw [hy, gIAt hyl] at HPU0
      have HPU := Lib.hid HPU0
      have HHT := Lib.hid (fun X => iHasTgt C[y] X)
      have HTG := Lib.hid (fun (hj : C[y].jmp = true) => HOK.out.tgt _ (List.getElem_mem hyl) hj)
      have HFT := Lib.hid (fun (hj : C[y].jmp = true) X (hX : Below w1.heap.size w1 X) => iBin (C := C) (t := C[y].n.toNat) (m := q) (by have := HOK.out.tgt _ (List.getElem_mem hyl) hj; omega) (by rw [HN.out]; exact h64) HQM.out (by omega) A1 c1 X (HR1.out.below hX))
      have HTI1 := Lib.hid (fun (hj : C[y].jmp = true) => (show prI C C[y] = setNf C[y] (rmN C C[y].n.toNat : Nat) from if_pos hj))
      have HTI0 := Lib.hid (fun (hj : C[y].jmp = false) => (show prI C C[y] = C[y] from if_neg (by rw [hj]; simp)))
      obtain ⟨b, hb⟩ : ∃ b, C[y].jmp = b := ⟨_, rfl⟩
      rw [hb] at HHT HTG HFT HTI1 HTI0
      subst hA eR
      have HKL : Hid ((prT C k).length ≤ 1000) := Lib.hid (by rw [hlk]; omega)
      obtain ⟨ii, hii⟩ : ∃ x, C[y] = x := ⟨_, rfl⟩
      rw [hii] at i0 i1 i2 i3 i4 i5 i6 i7 HHT HTG HFT HTI1 HTI0 HPU
      obtain ⟨R, hR⟩ : ∃ R, prI C ii = R := ⟨_, rfl⟩
      rw [hR] at HTI1 HTI0 HPU
      clear hb hii hR HPU0 hy ey hrc hrw hyl
      obtain ⟨op, ra, rb2, rc, obj, nn, fn, ord⟩ := ii
      unfold I8.val at HHT
      unfold setNf at HTI1
      simp only at i0 i1 i2 i3 i4 i5 i6 i7 HHT HTG HFT HTI1 HTI0
      obtain ⟨wb, hwb⟩ : ∃ x, wr.alloc (.cells #[.int .i64 op, .int .i64 ra, .int .i64 rb2, .int .i64 rc, .int .i64 obj, .int .i64 nn, .int .i64 fn, .int .i64 ord] 55) = x := ⟨_, rfl⟩
      have hbb : Below wr.heap.size wr wb := by rw [← hwb]; exact belowAlloc wr _
      have hbi : Blk wb wr.heap.size 55 #[.int .i64 op, .int .i64 ra, .int .i64 rb2, .int .i64 rc, .int .i64 obj, .int .i64 nn, .int .i64 fn, .int .i64 ord] := by rw [← hwb]; exact Blk.new wr _ _
      have HBI := Lib.hid hbi
      have HBB := Lib.hid (belowThen hst.bel hbb)
      have HVB := Lib.hid (hv.below hbb)
      have HWB := Lib.hid hwb
      have HSW : Hid (w1.heap.size + 1 ≤ wr.heap.size) := Lib.hid hv.le
      obtain ⟨k1, hk1e⟩ : ∃ k1, k + 1 = k1 := ⟨_, rfl⟩
      have hwk : IntKind.i64.wrap ((k : Int) + 1) = (k1 : Int) := by rw [IntKind.wrap_i64]; omega
      rw [hk1e] at HPU
      have HK1 := Lib.hid hk1e
      obtain ⟨x0, x1, x2, x3, x4, x5, x6, x7⟩ := boxFactsW hbi
      clear hst hv hbw hcdw hbb hbi hwb hk1e hlk
      obtain ⟨j0, j1, j2, j3, j4, j5, j6, j7⟩ := R
      go_wp2_with fail
      rw [HWB.out]
      go_wp2_with fail
      refine (HHT.out _).mono ?_
      rintro e w4 ⟨rfl, b4⟩
      have HB4 := Lib.hid (belowThen HBB.out b4)
      have HV4 := Lib.hid (HVB.out.below b4)
      have HI4 := Lib.hid (HBI.out.below' b4)
      clear x0 x1 x2 x3 x4 x5 x6 x7 b4
      obtain ⟨⟨x0, x1, x2, x3, x4, x5, x6, x7⟩, fx0, fx1, fx2, fx3, fx4, fx5, fx6, fx7⟩ := blkFacts HI4.out
      go_upto_if 34 with fail
      go_cut [24] from 24 to 49 (fun s24 wx => s24 = .int .i64 (k : Int) ∧ Below w1.heap.size w1 wx ∧ FnSv wx w1.heap.size (w1.heap.size + 1) nm (.slice Av k cv) (prT C k) ∧ Blk wx wr.heap.size 55 #[.int .i64 j0, .int .i64 j1, .int .i64 j2, .int .i64 j3, .int .i64 j4, .int .i64 j5, .int .i64 j6, .int .i64 j7])
      case first =>
        cases b
        · have hti := HTI0.out rfl
          injection hti with t0 t1 t2 t3 t4 t5 t6 t7
          subst t0 t1 t2 t3 t4 t5 t6 t7
          go_wp2_with fail
          go_meet
          case rel => exact ⟨rfl, HB4.out, HV4.out, HI4.out⟩
        · have hti := HTI1.out rfl
          have htg := HTG.out rfl
          have HF4 := Lib.hid (HFT.out rfl w4 HB4.out)
          have hnn : nn = ((nn.toNat : Nat) : Int) := by omega
          generalize nn.toNat = n2 at HF4 hti hnn
          subst hnn
          injection hti with t0 t1 t2 t3 t4 t5 t6 t7
          subst t0 t1 t2 t3 t4 t6 t7
          obtain ⟨ff, hff⟩ : ∃ ff, rmN C n2 = ff := ⟨_, rfl⟩
          rw [hff] at HF4 t5
          subst t5
          clear htg hff
          go_wp2_with fail
          refine HF4.out.mono ?_
          rintro e w5 ⟨bf, rfl, b5⟩
          have hI5 := HI4.out.below' b5
          have f5 := hI5.frozen 5
          have y5 := hI5.cell 5
          have HC := Lib.hid (chgSetF w5 wr.heap.size 5 (.int .i64 (ff : Int)))
          have HB6 := Lib.hid (belChgF (belowThen HB4.out b5) HC.out (by have := HSW.out; have := hI5.lt; omega) fun k hk => (show k ≠ wr.heap.size by have := HSW.out; omega))
          have HV6 := Lib.hid ((HV4.out.below b5).chg HC.out (show w1.heap.size ≠ wr.heap.size by have := HSW.out; omega) fun k hk hv => (by have := (World.ownsRow.lt HV.out.row k hv).2; show k ≠ wr.heap.size; omega))
          have HI6 := Lib.hid (hI5.set 5 (.int .i64 (ff : Int)))
          clear b5 hI5
          go_wp2_with fail
          go_meet
          case rel => exact ⟨rfl, HB6.out, HV6.out, HI6.out⟩
      case rest =>
      obtain ⟨rfl, hbc, hvc, hic⟩ := hcut
      have hb8 := belowAlloc wc (.cells #[.int .i64 j0, .int .i64 j1, .int .i64 j2, .int .i64 j3, .int .i64 j4, .int .i64 j5, .int .i64 j6, .int .i64 j7] 55)
      obtain ⟨v', w9, hrun9, hbl9, hfn9, hc9⟩ := (hvc.below hb8).push HKL.out (i := ⟨j0, j1, j2, j3, j4, j5, j6, j7⟩) (Blk.new wc _ _)
      rw [← HPU.out] at hfn9
      have HFN9 := Lib.hid hfn9
      obtain ⟨A9, c9, e9, -⟩ := hfn9.row.rd
      subst e9
      have HB9 := Lib.hid (belChgF (belowThen hbc hb8) hc9 (by have := (belowThen hbc hb8).size; omega) fun k hk => ⟨(show k ≠ w1.heap.size by omega), (show k < w1.heap.size + 1 by omega)⟩)
      have f1 := hvc.cells.2.1
      have f9 := hbl9.cell 1
      have g9 := hbl9.frozen 1
      clear x0 x1 x2 x3 x4 x5 x6 x7
      obtain ⟨x0, x1, x2, x3, x4, x5, x6, x7⟩ := boxFactsW hic
      clear hbc hvc hic hb8 hbl9 hfn9 hc9
      go_wp2_with (at_builtin; refine Lib.wpList_append_run _ rfl _ _ _ _ rfl _ _ rfl rfl _ _ (hrun9 _) ?_)
      go_roundg g2
      case measure => omega
      case rel => exact ⟨k1, by have := HK1.out; omega, by first | rfl | go_num, ⟨HB9.out, ⟨_, HFN9.out⟩⟩⟩
end Go.Proofs.YtpkagpobobmnfaaGreatDoor
