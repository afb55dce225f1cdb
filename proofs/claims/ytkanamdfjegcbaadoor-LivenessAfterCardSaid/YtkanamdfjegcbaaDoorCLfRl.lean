/-
  The specification's live: passes forward until no place turns (nothing live at the exit).
-/
import Derived.Test.YtkanamdfjegcbaaDoorCLfRv
namespace Go.Proofs.YtkanamdfjegcbaaDoor
open Go Go.RowKit Go.Shelf

/-- The successors as they are given. -/
def scV (C : List I8) (k : Nat) : List Nat := (scS C k).map Int.toNat
theorem scVMap {C : List I8} {k : Nat} : (scV C k).map Int.ofNat = scS C k := by
  unfold scV
  rw [List.map_map]
  have : ∀ x ∈ scS C k, (Int.ofNat ∘ Int.toNat) x = x := fun x hx => by
    obtain ⟨y, _, rfl⟩ := scSMem.1 hx
    rfl
  exact (List.map_congr_left this).trans (List.map_id _)
theorem scVMem {C : List I8} {k y : Nat} : y ∈ scV C k ↔ y ∈ sc C k := by
  unfold scV
  rw [List.mem_map]
  constructor
  · rintro ⟨x, hx, rfl⟩
    obtain ⟨y, hy, rfl⟩ := scSMem.1 hx
    exact hy
  · intro hy
    exact ⟨(y : Int), scSMem.2 ⟨y, hy, rfl⟩, rfl⟩
/-- The rows of live: one a place, and the exit's. -/
noncomputable def lvLs (C : List I8) (ex : Bool) : List (List Int) := (List.range (C.length + 1)).map fun k => rgL (lvB C ex k)
/-- No place turns. -/
def Still (C : List I8) (T : Nat → Int → Bool) (m : Nat) : Prop := ∀ j r, j < m → lfF C T j r = true → T j r = true

set_option maxRecDepth 100000 in
set_option maxHeartbeats 8000000 in
theorem rLive0 (nm : ByteArray) (C : List I8) (hc : cfE C = 0) (n : Nat) (hn : C.length = n) (A : Option Addr) (c : Nat) (w : World) (h : CdW w A c C) :
    Calls Tryd.prog 42 #[fnV nm A n c, .bool false] w fun e w' => e = .returned (.slice (some ⟨w.heap.size + 1, 0, none⟩) (n + 1) (n + 1)) ∧ RdL w' (some ⟨w.heap.size + 1, 0, none⟩) (n + 1) (lvLs C false) ∧ Below w.heap.size w w' := by
  obtain ⟨W, hW⟩ : ∃ W, w.alloc (.cells #[.string nm, .slice A n c] 24) = W := ⟨_, rfl⟩
  have hbW : Below w.heap.size w W := by rw [← hW]; exact belowAlloc w _
  have hws : W.heap.size = w.heap.size + 1 := by rw [← hW, World.size_alloc]
  have hB : Blk W w.heap.size 24 #[.string nm, .slice A n c] := by rw [← hW]; exact Blk.new w _ _
  have HKB := Lib.hid (fun X (hX : Below W.heap.size W X) => (⟨(hB.below' hX).cell 0, (hB.below' hX).cell 1⟩ : X.cell? ⟨w.heap.size, 0, none⟩ = some (.string nm) ∧ X.cell? ⟨w.heap.size, 1, none⟩ = some (.slice A n c)))
  obtain ⟨k0, k1⟩ := HKB.out W (Below.refl _ _)
  have hok := cfOk hc
  have h64 := hok.len
  rw [hn] at h64
  have HCD := Lib.hid (h.below hbW)
  have HNX := Lib.hid (fun k (hk : k < n) X (hX : Below W.heap.size W X) => by
    have e := nxAtL hc hn hk
    have := rNx12 nm C n hn (k : Int) A c X ((h.below hbW).below hX)
    rw [e.1, e.2] at this
    exact this)
  have HLE := Lib.hid (fun k y (hy : y ∈ sc C k) => (scLe hok hy).2)
  unfold fnV at HNX ⊢
  have hle := h.rd.le
  have hmx := h.rd.max
  rw [hn] at hle
  unfold maxLen at hmx
  obtain ⟨n1, hn1⟩ : ∃ n1, n + 1 = n1 := ⟨_, rfl⟩
  have hwn : IntKind.i64.wrap ((n : Int) + 1) = (n1 : Int) := by rw [IntKind.wrap_i64]; omega
  have hmk := makeLl n1 (by omega)
  have HT0 : Hid (LfT C false (fun _ _ => false)) := Lib.hid (by
    have h0 := lfStart (C := C) (ex := false)
    have e : (fun (k : Nat) (r : Int) => decide (k = C.length) && (false && rgB r)) = fun _ _ => false := by funext k r; simp
    rw [e] at h0
    exact h0)
  have HR0 := Lib.hid (RvSt.made (T := fun _ _ => false) W n1 (by omega) (fun _ _ => rfl))
  have HN := Lib.hid hn
  have HN1 := Lib.hid hn1
  have HBW := Lib.hid hbW
  have HWE := Lib.hid hW
  have HWS := Lib.hid hws
  have HOK := Lib.hid hok
  rw [hn1, ← hws]
  obtain ⟨W1, hW1⟩ : ∃ W1, W.alloc (.cells (madeCells #[.slice none 0 0] n1) 34) = W1 := ⟨_, rfl⟩
  have HW1 := Lib.hid hW1
  rw [hW1] at HR0
  have hn1p : n < n1 := by omega
  have hn1l : n1 ≤ 100 := by omega
  clear hB hW h hok hn hbW hc hws hn1 hW1
  go_enter Tryd.func42, Tryd.ntmps42
  go_wp2_with fail
  rw [HWE.out]
  go_wp2_with fail
  rw [HW1.out, ← HWS.out]
  clear hmk hwn k0 k1
  go_loopg [7] 0 (fun g v X => v = .int .i64 0 ∧ X = W1)
  case atStart => exact ⟨rfl, rfl⟩
  case round =>
    obtain ⟨rfl, rfl⟩ := hrel
    go_wp2
    go_loopg [8] (8 * n + 1) (fun g v X => ∃ (ch : Bool) (T : Nat → Int → Bool), v = .bool ch ∧ Hid (LfT C false T) ∧ Hid (RvSt T n1 W X) ∧ Hid (ch = true → 8 * n - tS T n < g) ∧ Hid (ch = false → Still C T n))
    case atStart => exact ⟨true, _, rfl, HT0, HR0, Lib.hid (fun _ => by omega), Lib.hid (fun h => by cases h)⟩
    case round =>
      clear HT0 HR0
      obtain ⟨ch, T, rfl, HT, HR, HG, HF⟩ := hrel
      cases ch with
      | false =>
        go_wp2
        go_ret
        refine ⟨rfl, ?_, belowThen HBW.out HR.out.bel⟩
        have h1 := HR.out.rdL (by omega)
        have e : (List.range n1).map (fun j => rgL (T j)) = lvLs C false := by
          unfold lvLs
          rw [HN.out, HN1.out]
          refine List.map_congr_left fun j hj => ?_
          have hj' := List.mem_range.1 hj
          congr 1
          funext r
          exact lfEnd HT.out (fun k r hk => HF.out (by first | rfl | trivial) k r (by rw [← HN.out]; exact hk)) (by have := HN.out; have := HN1.out; omega) HLE.out r
        rw [e] at h1
        exact h1
      | true =>
        obtain ⟨go, hgo⟩ : ∃ go, gk = go + 1 := ⟨gk - 1, by have := HG.out (by first | rfl | trivial); omega⟩
        subst hgo
        clear HF
        go_wp2
        go_loopg [8, 9] n (fun g v c X => ∃ (ch : Bool) (T2 : Nat → Int → Bool) (k : Nat), k + g = n ∧ v = .bool ch ∧ c = .int .i64 k ∧ Hid (LfT C false T2) ∧ Hid (RvSt T2 n1 W X) ∧ Hid (tS T n ≤ tS T2 n) ∧ Hid (ch = true → tS T n < tS T2 n) ∧ Hid (ch = false → Still C T2 k))
        case atStart => exact ⟨false, T, 0, by omega, rfl, rfl, HT, HR, Lib.hid (Nat.le_refl _), Lib.hid (fun h => by cases h), Lib.hid (fun _ j r hj => absurd hj (Nat.not_lt_zero _))⟩
        case round =>
          clear HT HR
          obtain ⟨ch, T2, k, hk, rfl, rfl, HT, HR, HM, HU, HS⟩ := hrel
          cases gk with
          | zero =>
            have hkn : k = n := by omega
            subst hkn
            have hkk : ¬ ((k : Int) < (k : Int)) := by omega
            go_wp2
            go_roundg go
            case measure => omega
            case rel => exact ⟨ch, T2, rfl, HT, HR, Lib.hid (fun h => by have h1 := HG.out (by first | rfl | trivial); have h2 := HU.out h; have h3 := tSLe (T := T2) (n := k); omega), HS⟩
          | succ g3 =>
            have hkn : k < n := by omega
            have hkC : k < C.length := by rw [HN.out]; exact hkn
            have hkI : (k : Int) < (n : Int) := by omega
            have hk0 : (0 : Int) ≤ k := by omega
            have hk1 : (k : Int) < (n1 : Int) := by omega
            obtain ⟨qi, off, hA, hqi, hEI⟩ := HCD.out.rd.one hkC
            obtain ⟨a0, a1⟩ := HKB.out wr HR.out.bel
            obtain ⟨S, hS⟩ : ∃ S, scV C k = S := ⟨_, rfl⟩
            have HSM : Hid (∀ y, y ∈ S ↔ y ∈ sc C k) := Lib.hid (by subst hS; exact fun y => scVMem)
            have HSR : Hid (∀ y ∈ S, Regs (T2 y)) := Lib.hid fun y hy => rvRegsAll HOK.out HT.out (HLE.out k y ((HSM.out y).1 hy))
            have HSN : Hid (∀ y ∈ S, y ≤ n) := Lib.hid fun y hy => by rw [← HN.out]; exact HLE.out k y ((HSM.out y).1 hy)
            have HX := Lib.hid (HNX.out k hkn wr HR.out.bel)
            rw [← scVMap, hS] at HX
            unfold GivesE9 at HX
            obtain ⟨mS, hmS⟩ : ∃ mS, S.length = mS := ⟨_, rfl⟩
            rw [List.length_map, hmS] at HX
            have HMS := Lib.hid hmS
            obtain ⟨ii, hii⟩ : ∃ ii, C[k] = ii := ⟨_, rfl⟩
            have HLYa := fun hp => lessYes (T := T2) hkC hp HSM.out HSR.out
            have HLNa := fun hp => lessNo (T := T2) hkC hp HSM.out
            have HLUa := lessUni HOK.out (T := T2) hkC (fun y hy => HSR.out y ((HSM.out y).2 hy))
            rw [hii] at hEI HLYa HLNa HLUa
            clear hii
            obtain ⟨op, ra, rb, rc, obj, m, fn, ord⟩ := ii
            have HEI : Hid (∀ Z, Below W.heap.size W Z → EI Z qi (off + k * 8) (I8.mk8 op ra rb rc obj m fn ord)) := Lib.hid fun Z hZ => stabI W Z qi _ _ hqi hZ hEI
            obtain ⟨R, hR⟩ : ∃ R, (I8.mk8 op ra rb rc obj m fn ord).dfR = R := ⟨_, rfl⟩
            obtain ⟨p, hp⟩ : ∃ p, (I8.mk8 op ra rb rc obj m fn ord).dfB = p := ⟨_, rfl⟩
            obtain ⟨us, hus⟩ : ∃ us, (I8.mk8 op ra rb rc obj m fn ord).uses = us := ⟨_, rfl⟩
            have hul : us.length ≤ 2 := by rw [← hus]; exact useLen _
            have HDE := Lib.hid (fun X => rDefs (I8.mk8 op ra rb rc obj m fn ord) R p hR hp X)
            have HUC := Lib.hid (fun X => rUses (I8.mk8 op ra rb rc obj m fn ord) us hus X)
            rw [hR, hp] at HLYa
            rw [hp] at HLNa
            rw [hus] at HLUa
            have HLY := Lib.hid HLYa
            have HLN := Lib.hid HLNa
            have HLU := Lib.hid HLUa
            subst hA
            clear hEI hqi hS hmS hkC HLYa HLNa HLUa hR hp hus
            go_wp2_with fail
            refine HX.out.mono ?_
            rintro e w2 ⟨As, cs, rfl, rs, b2⟩
            have hcs := rs.le
            have hcsm := rs.max
            rw [List.length_map, HMS.out] at hcs
            unfold maxLen at hcsm
            obtain ⟨w3, hw3⟩ : ∃ w3, w2.alloc (.cells #[] 3) = w3 := ⟨_, rfl⟩
            have b3 := belowThen b2 (show Below w2.heap.size w2 w3 by rw [← hw3]; exact belowAlloc _ _)
            have HB3 := Lib.hid (belowThen HR.out.bel b3)
            have HR3 := Lib.hid (HR.out.below b3)
            have HRS3 : Hid (Rd w3 As cs (S.map Int.ofNat)) := Lib.hid (by rw [← hw3]; exact Rd.alloc rs _)
            have HW3 := Lib.hid hw3
            clear a0 a1 rs b2 b3 hw3 HX HR
            go_wp2_with fail
            rw [HW3.out]
            go_loopg [12, 13] mS (fun g v i X => ∃ (j : Nat) (A : Option Addr) (c q : Nat), j + g = mS ∧ i = .int .i64 j ∧ v = .slice A q c ∧ Hid ((nowL T2 (S.take j)).length = q) ∧ Hid (Rd X A c (nowL T2 (S.take j))) ∧ Hid (Below w3.heap.size w3 X))
            case atStart => exact ⟨0, _, 0, 0, by omega, rfl, rfl, Lib.hid rfl, Lib.hid (by rw [List.take_zero, nowNil]; exact rdEmp _ _), Lib.hid (Below.refl _ _)⟩
            case round =>
              obtain ⟨j, A4, c4, q, hj, rfl, rfl, HQ, HNW, HB⟩ := hrel
              have hq8 : q ≤ 8 := by rw [← HQ.out]; exact nowLLen
              cases gk with
              | succ g4 =>
                have hjS : j < S.length := by rw [HMS.out]; omega
                have hj0 : (0 : Int) ≤ j := by omega
                have hj1 : (j : Int) < mS := by omega
                obtain ⟨y, hy⟩ : ∃ y, S[j] = y := ⟨_, rfl⟩
                have hyn := HSN.out y (hy ▸ List.getElem_mem hjS)
                obtain ⟨ad, eA, _, hcl⟩ := (Rd.below HRS3.out HB.out).one (k := j) (by rw [List.length_map]; exact hjS)
                rw [List.getElem_map, hy] at hcl
                have hcl : wr.cell? (ad.add j) = some (.int .i64 (y : Int)) := hcl
                have hy0 : (0 : Int) ≤ y := by omega
                have hy1 : (y : Int) < n1 := by omega
                obtain ⟨At, ct, t0, t1, t2⟩ := (HR3.out.below HB.out).cell (j := y) (by omega)
                obtain ⟨lt, hlt⟩ : ∃ lt, (rgL (T2 y)).length = lt := ⟨_, rfl⟩
                have hlt8 : lt ≤ 8 := by rw [← hlt]; exact rgLLen
                have hst := nowStep hjS HSR.out
                rw [hy] at hst
                have HUN := Lib.hid (rUnion _ _ _ hst (by rw [HQ.out]; omega) (by rw [hlt]; omega) A4 At c4 ct wr HNW.out t2)
                rw [HQ.out, hlt] at HUN
                rw [hlt] at t0
                subst eA
                clear hst hlt t2 hy hjS hyn HQ HNW
                go_wp2_with fail
                refine HUN.out.mono ?_
                rintro e w5 ⟨A5, c5, rfl, r5, b5⟩
                have HR5 := Lib.hid r5
                have HB5 := Lib.hid (belowThen HB.out b5)
                clear r5 b5 t0 t1 hcl
                go_wp2
                go_roundg g4
                case measure => omega
                case rel => exact ⟨j + 1, A5, c5, _, by omega, by go_num, rfl, Lib.hid rfl, HR5, HB5⟩
              | zero =>
                have hjm : j = mS := by omega
                subst hjm
                have hjj : ¬ ((j : Int) < (j : Int)) := by omega
                have hta : S.take j = S := by rw [← HMS.out]; exact List.take_length
                rw [hta] at HQ HNW
                clear hta
                have HBW4 := Lib.hid (belowThen HB3.out HB.out)
                have HR4 := Lib.hid (HR3.out.below HB.out)
                obtain ⟨a0, a1⟩ := HKB.out wr HBW4.out
                obtain ⟨i0, i1, i2, i3, i4, i5, i6, i7⟩ := HEI.out wr HBW4.out
                simp only at i0 i1 i2 i3 i4 i5 i6 i7
                have HDC := Lib.hid (HDE.out wr)
                clear HDE
                go_wp2_with fail
                refine HDC.out.mono ?_
                rintro e w6 ⟨rfl, b6⟩
                have HB6 := Lib.hid b6
                have HNW6 := Lib.hid (Rd.below HNW.out b6)
                have HR6 := Lib.hid (HR4.out.below b6)
                clear a0 a1 i0 i1 i2 i3 i4 i5 i6 i7 b6 HNW HR4
                have HSTL := HS
                have hlk : (lessL C T2 k).length ≤ 8 := rgLLen
                cases p with
                | true =>
                  have HRM := rRemove (nowL T2 S) R _ (HLY.out rfl) (by rw [HQ.out]; omega) A4 c4 w6 HNW6.out
                  obtain ⟨q7, hq7⟩ : ∃ q7, (lessL C T2 k).length = q7 := ⟨_, rfl⟩
                  unfold GivesL at HRM
                  rw [HQ.out, hq7] at HRM
                  have HRM := Lib.hid HRM
                  have HQ7 := Lib.hid hq7
                  rw [hq7] at hlk
                  clear hq7
                  go_wp2_with fail
                  refine HRM.out.mono ?_
                  rintro e w7 ⟨A7, c7, rfl, r7, b7⟩
                  have HL7 := Lib.hid r7
                  have HB7 := Lib.hid (belowThen (belowThen HBW4.out HB6.out) b7)
                  have HR7 := Lib.hid (HR6.out.below b7)
                  clear r7 b7 HR6 HNW6 HRM
                  obtain ⟨a0, a1⟩ := HKB.out w7 HB7.out
                  obtain ⟨i0, i1, i2, i3, i4, i5, i6, i7⟩ := HEI.out w7 HB7.out
                  simp only at i0 i1 i2 i3 i4 i5 i6 i7
                  have HUS := Lib.hid (HUC.out w7)
                  obtain ⟨mu, hmu⟩ : ∃ mu, us.length = mu := ⟨_, rfl⟩
                  unfold GivesL at HUS
                  rw [hmu] at HUS hul
                  have HMU := Lib.hid hmu
                  clear HUC hmu
                  go_wp2_with fail
                  refine HUS.out.mono ?_
                  rintro e w8 ⟨A8, c8, rfl, r8, b8⟩
                  have HB8 := Lib.hid (belowThen HB7.out b8)
                  have HR8 := Lib.hid (HR7.out.below b8)
                  have HUN := rUnion _ us _ HLU.out (by rw [HQ7.out]; omega) (by rw [HMU.out]; omega) A7 A8 c7 c8 w8 (Rd.below HL7.out b8) r8
                  obtain ⟨q9, hq9⟩ : ∃ q9, (rgL (lfF C T2 k)).length = q9 := ⟨_, rfl⟩
                  have hq98 : q9 ≤ 8 := by rw [← hq9]; exact rgLLen
                  unfold GivesL at HUN
                  rw [HQ7.out, HMU.out, hq9] at HUN
                  have HUN := Lib.hid HUN
                  have HQ9 := Lib.hid hq9
                  clear a0 a1 i0 i1 i2 i3 i4 i5 i6 i7 r8 b8 HR7 HL7 hq9
                  go_wp2_with fail
                  refine HUN.out.mono ?_
                  rintro e w9 ⟨A9, c9, rfl, r9, b9⟩
                  have HB9 := Lib.hid (belowThen HB8.out b9)
                  have HR9 := Lib.hid (HR8.out.below b9)
                  have HL9 := Lib.hid r9
                  obtain ⟨At, ct, t0, t1, t2⟩ := HR9.out.cell (j := k) (by omega)
                  obtain ⟨lt, hlt⟩ : ∃ lt, (rgL (T2 k)).length = lt := ⟨_, rfl⟩
                  rw [hlt] at t0
                  have HIN := Lib.hid (fun r hr => rInts (rgL (lfF C T2 k)) (rgL (T2 k)) r hr A9 At c9 ct w9 HL9.out t2)
                  rw [HQ9.out, hlt] at HIN
                  clear r9 b9 HR8 hlt t1 t2
                  by_cases heq : rgL (lfF C T2 k) = rgL (T2 k)
                  · have HI := Lib.hid (HIN.out true (eqB_yes heq))
                    have HSI : Hid (ch = false → Still C T2 (k + 1)) := Lib.hid fun h j r hj hl => by
                      by_cases hjk : j = k
                      · subst hjk
                        have e := rvInj (rvRegs HOK.out (fun y hy => HSR.out y ((HSM.out y).2 hy))) (rvRegsAll HOK.out HT.out (k := j) (by have := HN.out; omega)) heq r
                        rw [← e]; exact hl
                      · exact HSTL.out h j r (by omega) hl
                    clear HIN heq
                    go_wp2_with fail
                    refine HI.out.mono ?_
                    rintro e wx ⟨rfl, qd, rfl⟩
                    have HRd := Lib.hid (HR9.out.below (belowN w9 qd))
                    clear t0
                    go_wp2
                    go_roundg g3
                    case measure => omega
                    case rel => exact ⟨ch, T2, k + 1, by omega, rfl, by go_num, HT, HRd, HM, HU, HSI⟩
                  · have HI := Lib.hid (HIN.out false (by unfold eqB; exact decide_eq_false heq))
                    have hkC : k < C.length := by rw [HN.out]; exact hkn
                    have HT' := Lib.hid (lfUp HLE.out HT.out hkC)
                    have hgr := lfGrow HOK.out HT.out HN.out hkn (HLE.out k) heq
                    have HM' : Hid (tS T n ≤ tS (lfPut C T2 k) n) := Lib.hid (by have := HM.out; omega)
                    have HU' : Hid (true = true → tS T n < tS (lfPut C T2 k) n) := Lib.hid (fun _ => by have := HM.out; omega)
                    clear HIN heq hgr hkC
                    go_wp2_with fail
                    refine HI.out.mono ?_
                    rintro e wx ⟨rfl, qd, rfl⟩
                    obtain ⟨wd, hwd⟩ : ∃ wd, w9.drewN qd = wd := ⟨_, rfl⟩
                    have bd : Below w9.heap.size w9 wd := by rw [← hwd]; exact belowN w9 qd
                    rw [hwd]
                    have HRd := HR9.out.below bd
                    obtain ⟨Au, cu, s0, s1, _⟩ := HRd.cell (j := k) (by omega)
                    have HPU := HRd.put (k := k) (by omega) (T' := lfPut C T2 k) (fun j hj => lfPutSame hj) (l := rgL (lfF C T2 k)) (by rw [lfPutAt]) (Rd.below HL9.out bd)
                    rw [HQ9.out] at HPU
                    have HPU := Lib.hid HPU
                    clear t0 hwd bd HRd
                    go_wp2
                    go_roundg g3
                    case measure => omega
                    case rel => exact ⟨true, lfPut C T2 k, k + 1, by omega, rfl, by go_num, HT', HPU, HM', Lib.hid (fun _ => HU'.out trivial), Lib.hid (fun h => by cases h)⟩
                | false =>
                  have hq7 : (lessL C T2 k).length = q := by rw [← HLN.out rfl]; exact HQ.out
                  have HL7 : Hid (Rd w6 A4 c4 (lessL C T2 k)) := Lib.hid (by rw [← HLN.out rfl]; exact HNW6.out)
                  have HQ7 := Lib.hid hq7
                  rw [hq7] at hlk
                  have HB7 := Lib.hid (belowThen HBW4.out HB6.out)
                  have HR7 := HR6
                  clear HR6 HNW6 hq7
                  obtain ⟨a0, a1⟩ := HKB.out w6 HB7.out
                  obtain ⟨i0, i1, i2, i3, i4, i5, i6, i7⟩ := HEI.out w6 HB7.out
                  simp only at i0 i1 i2 i3 i4 i5 i6 i7
                  have HUS := Lib.hid (HUC.out w6)
                  obtain ⟨mu, hmu⟩ : ∃ mu, us.length = mu := ⟨_, rfl⟩
                  unfold GivesL at HUS
                  rw [hmu] at HUS hul
                  have HMU := Lib.hid hmu
                  clear HUC hmu
                  go_wp2_with fail
                  refine HUS.out.mono ?_
                  rintro e w8 ⟨A8, c8, rfl, r8, b8⟩
                  have HB8 := Lib.hid (belowThen HB7.out b8)
                  have HR8 := Lib.hid (HR7.out.below b8)
                  have HUN := rUnion _ us _ HLU.out (by rw [HQ7.out]; omega) (by rw [HMU.out]; omega) A4 A8 c4 c8 w8 (Rd.below HL7.out b8) r8
                  obtain ⟨q9, hq9⟩ : ∃ q9, (rgL (lfF C T2 k)).length = q9 := ⟨_, rfl⟩
                  have hq98 : q9 ≤ 8 := by rw [← hq9]; exact rgLLen
                  unfold GivesL at HUN
                  rw [HQ7.out, HMU.out, hq9] at HUN
                  have HUN := Lib.hid HUN
                  have HQ9 := Lib.hid hq9
                  clear a0 a1 i0 i1 i2 i3 i4 i5 i6 i7 r8 b8 HR7 HL7 hq9
                  go_wp2_with fail
                  refine HUN.out.mono ?_
                  rintro e w9 ⟨A9, c9, rfl, r9, b9⟩
                  have HB9 := Lib.hid (belowThen HB8.out b9)
                  have HR9 := Lib.hid (HR8.out.below b9)
                  have HL9 := Lib.hid r9
                  obtain ⟨At, ct, t0, t1, t2⟩ := HR9.out.cell (j := k) (by omega)
                  obtain ⟨lt, hlt⟩ : ∃ lt, (rgL (T2 k)).length = lt := ⟨_, rfl⟩
                  rw [hlt] at t0
                  have HIN := Lib.hid (fun r hr => rInts (rgL (lfF C T2 k)) (rgL (T2 k)) r hr A9 At c9 ct w9 HL9.out t2)
                  rw [HQ9.out, hlt] at HIN
                  clear r9 b9 HR8 hlt t1 t2
                  by_cases heq : rgL (lfF C T2 k) = rgL (T2 k)
                  · have HI := Lib.hid (HIN.out true (eqB_yes heq))
                    have HSI : Hid (ch = false → Still C T2 (k + 1)) := Lib.hid fun h j r hj hl => by
                      by_cases hjk : j = k
                      · subst hjk
                        have e := rvInj (rvRegs HOK.out (fun y hy => HSR.out y ((HSM.out y).2 hy))) (rvRegsAll HOK.out HT.out (k := j) (by have := HN.out; omega)) heq r
                        rw [← e]; exact hl
                      · exact HSTL.out h j r (by omega) hl
                    clear HIN heq
                    go_wp2_with fail
                    refine HI.out.mono ?_
                    rintro e wx ⟨rfl, qd, rfl⟩
                    have HRd := Lib.hid (HR9.out.below (belowN w9 qd))
                    clear t0
                    go_wp2
                    go_roundg g3
                    case measure => omega
                    case rel => exact ⟨ch, T2, k + 1, by omega, rfl, by go_num, HT, HRd, HM, HU, HSI⟩
                  · have HI := Lib.hid (HIN.out false (by unfold eqB; exact decide_eq_false heq))
                    have hkC : k < C.length := by rw [HN.out]; exact hkn
                    have HT' := Lib.hid (lfUp HLE.out HT.out hkC)
                    have hgr := lfGrow HOK.out HT.out HN.out hkn (HLE.out k) heq
                    have HM' : Hid (tS T n ≤ tS (lfPut C T2 k) n) := Lib.hid (by have := HM.out; omega)
                    have HU' : Hid (true = true → tS T n < tS (lfPut C T2 k) n) := Lib.hid (fun _ => by have := HM.out; omega)
                    clear HIN heq hgr hkC
                    go_wp2_with fail
                    refine HI.out.mono ?_
                    rintro e wx ⟨rfl, qd, rfl⟩
                    obtain ⟨wd, hwd⟩ : ∃ wd, w9.drewN qd = wd := ⟨_, rfl⟩
                    have bd : Below w9.heap.size w9 wd := by rw [← hwd]; exact belowN w9 qd
                    rw [hwd]
                    have HRd := HR9.out.below bd
                    obtain ⟨Au, cu, s0, s1, _⟩ := HRd.cell (j := k) (by omega)
                    have HPU := HRd.put (k := k) (by omega) (T' := lfPut C T2 k) (fun j hj => lfPutSame hj) (l := rgL (lfF C T2 k)) (by rw [lfPutAt]) (Rd.below HL9.out bd)
                    rw [HQ9.out] at HPU
                    have HPU := Lib.hid HPU
                    clear t0 hwd bd HRd
                    go_wp2
                    go_roundg g3
                    case measure => omega
                    case rel => exact ⟨true, lfPut C T2 k, k + 1, by omega, rfl, by go_num, HT', HPU, HM', Lib.hid (fun _ => HU'.out trivial), Lib.hid (fun h => by cases h)⟩
end Go.Proofs.YtkanamdfjegcbaaDoor
