/-
  The contracts of the reference's Seal and Open.
-/
import Derived.Test.YtcbipokohjajoaaFSeal
import Derived.Test.YtcbipokohjajoaaFStr2
import Derived.IntWalk
namespace Go.Proofs.Ytcbipokohjajoaa
open Go.RowKit

/-- append of bytes onto an empty slice without room. -/
theorem runZero (w : World) (ty : TypeId) (g : Nat) (A : Option Addr) (m c : Nat) (news : List UInt8) (hm : m = news.length) (hr : Rb w A c news) (hb : m ≤ 1000000) :
    ∃ A' c' w', (Builtin.append_ #[22, 22] ty #[.slice (some ⟨g, 0, none⟩) 0 0, .slice A m c]).run Try.prog w = .ok (.slice A' m c') w' ∧ Rb w' A' c' news ∧ Below w.heap.size w w' := by
  obtain ⟨i, hi, hz, hs, hby⟩ := info_parts infoB
  subst hm
  rcases Nat.eq_zero_or_pos news.length with h0 | h0
  · obtain rfl : news = [] := List.eq_nil_of_length_eq_zero h0
    refine ⟨some ⟨g, 0, none⟩, 0, w, ?_, ⟨Nat.le_refl _, Nat.zero_le _, fun h => absurd h (by simp)⟩, Below.refl _ _⟩
    cases A <;> simp [Builtin.append_, run_underlying Try.underlying22, sizeOf, typeInfo, hi, Builtin.lenOf, Builtin.firstCells, storeCells, loadCells, loadCellsFrom]
  · obtain ⟨ad, rfl, _, hcl⟩ := Rds.at_ hr (by simpa using h0)
    have hrr := run_append_grow (P := Try.prog) w 22 ty 5 i (.int .u8 0) Try.underlying22 hi hz ⟨g, 0, none⟩ 0 0 [] (by simp) (by simp) ad news.length c (bv news) (by rw [hs]; simp) hcl (by omega) (by omega) (growslice_fits (by omega) (by rw [hby]; omega))
    rw [Nat.zero_add] at hrr
    have hge := grownCap_ge w news.length 0 5
    have hmx := grownCap_le_maxLen w news.length 0 5 (by unfold maxLen; omega)
    refine ⟨_, _, _, hrr, ⟨by simpa using hge, hmx, fun _ => ⟨_, rfl, by simp, fun j u hu => ?_⟩⟩, (((Below.refl _ w).drew).alloc (by simp) _)⟩
    rw [Addr.add_lit, Nat.zero_add]
    have hj : j < news.length := by have := (List.getElem?_eq_some_iff.1 hu).1; simpa using this
    rw [cell_of_row _ w.heap.size j _ 5 (0, 0) (heap_alloc_new w.drew _)]
    rw [List.getElem?_eq_getElem (by simpa using hj)] at hu
    injection hu with hu
    subst hu
    simp [Array.getElem?_append, hj]
/-- The same as one step of a region that draws its order. -/
theorem stepZ (w : World) {ops : Array Oper} {o : Oper} {a : Act} {K : Act → World → Prop} {Q : Exit → Act → World → Prop} {E : Prop} (hgd : o.guard = none) (s x : Operand)
    (ho : o.op = .call { callee := .builtin .append, args := #[s, x], argTypes := #[22, 22] }) (g : Nat) (hs : a.eval s = .slice (some ⟨g, 0, none⟩) 0 0)
    (A : Option Addr) (m c : Nat) (news : List UInt8) (hx : a.eval x = .slice A m c) (hm : m = news.length) (hr : Rb w A c news) (hb : m ≤ 1000000)
    (h : ∀ A' c' w', Rb w' A' c' news → Below w.heap.size w w' → K (a.put o.dst (.slice A' m c')) w') :
    if Region.wanted o (yielded ops a.tmps) = true then Oper.wp Try.prog o a w K Q else E := by
  have hw : Region.wanted o (yielded ops a.tmps) = true := by simp [Region.wanted, hgd]
  rw [if_pos hw]
  obtain ⟨A', c', w', hrun, h2, h3⟩ := runZero w o.type g A m c news hm hr hb
  unfold Oper.wp execOp
  simp only [ho, resolve, invoke, builtin, Sem.run_bind, Sem.run_pure, Result.andThen_ok, List.map_toArray, List.map_cons, List.map_nil, hs, hx, hrun]
  exact h A' c' w' h2 h3
theorem rSumQ (l : List UInt8) (n : Nat) (hn : l.length = n) (A : Option Addr) (c : Nat) (w : World) (ha : Rb w A c l) :
    Calls Try.prog 32 #[.slice A n c] w fun e w' => e = .returned (.int .u32 (crc l)) ∧ w' = w := (rSum l n hn A c w ha).mono fun _ _ ⟨h1, h2⟩ => ⟨h1, h2.symm⟩
theorem rSeal (p : List UInt8) (n : Nat) (hn : p.length = n) (hs : n ≤ 100000) (A : Option Addr) (c : Nat) (w : World) (ha : Rb w A c p) :
    Calls Try.prog 34 #[.slice A n c] w (GivesO (sealL p) w) := by
  have hq := encULen (n : Int)
  have HE := Lib.hid (rAppU [] 0 rfl (by omega) (n : Int) none 0 w Rb.nil)
  rw [encUNat (by omega)] at hq HE
  obtain ⟨R, hR⟩ : ∃ R, sealL p = R := ⟨_, rfl⟩
  have hR2 := hR
  unfold sealL at hR2
  rw [hn] at hR2
  have hlen : (encL n ++ p).length ≤ n + 9 := by rw [List.length_append, hn]; omega
  rw [List.nil_append] at HE
  obtain ⟨m, hm⟩ : ∃ m, encL n = m := ⟨_, rfl⟩
  rw [hm] at hq HE hR2 hlen
  obtain ⟨M, hM⟩ : ∃ M, m ++ p = M := ⟨_, rfl⟩
  rw [hM] at hR2 hlen
  have HM := Lib.hid hM
  have HR := Lib.hid hR2
  rw [hR]
  have HA := Lib.hid ha; clear ha
  have HN := Lib.hid hn; clear hn
  clear hm hM hR hR2
  go_enter Try.func34, Try.ntmps34
  go_wp2_with fail
  refine HE.out.mono ?_
  rintro e w1 ⟨B, q, d, rfl, hqm, o1, b1⟩
  have hqb := hq
  rw [hqm.out] at hqb
  have hz := b1.size
  go_wp2_with (at_builtin; refine appB _ rfl (.tmp 6) (.tmp 7) rfl w.heap.size _ m rfl o1 A n c p rfl HN.out.symm (HA.out.below b1) (by have := HN.out; have := hqm.out; omega) hz ?_; intro v2 w2 o2 b2)
  rw [HM.out] at o2
  have b3 := Lib.hid (b1.trans b2)
  obtain ⟨D, f, rfl, r2, _⟩ := o2.rd
  obtain ⟨j, hj⟩ : ∃ j, M.length = j := ⟨_, rfl⟩
  rw [hj] at hlen o2
  have HJ := Lib.hid hj
  have R2 := Lib.hid r2
  have O2 := Lib.hid o2
  rw [hj]
  clear o1 b1 b2 hj r2 o2
  go_wp2_with fail
  refine (rSum M j HJ.out D f w2 R2.out).mono ?_
  rintro e w0 ⟨rfl, rfl⟩
  have hcl := crcLt M
  obtain ⟨C, hC⟩ : ∃ C, crc M = C := ⟨_, rfl⟩
  rw [hC] at hcl HR ⊢
  clear hC
  go_wp2_with fail
  refine (rSumB C hcl w2).mono ?_
  rintro e w3 ⟨D3, j3, f3, rfl, hj3, o3, b4⟩
  have hz3 := b3.out.size
  have b5 := Lib.hid (belowThen b3.out b4)
  have hj4 : j3 = 4 := by rw [← hj3.out]; rfl
  have r3 := Lib.hid o3.rb.1
  have O4 := Lib.hid (OwnB.below O2.out b4)
  have hz5 := b5.out.size
  have HJ4 := Lib.hid hj4
  clear o3 b4 hj4
  go_wp2_with (at_builtin; refine appB _ rfl (.tmp 9) (.tmp 12) rfl w.heap.size _ M rfl O4.out D3 j3 f3 (sumB C) rfl hj3.out.symm r3.out (by have := HJ.out; have := hj3.out; have := HJ4.out; omega) hz5 ?_; intro v6 w6 o6 b6)
  rw [HR.out] at o6
  go_ret
  exact GivesO.of o6 (b5.out.trans b6)
set_option maxRecDepth 100000 in
set_option maxHeartbeats 1000000 in
theorem rOpen (l : List UInt8) (n : Nat) (hn : l.length = n) (hs : n ≤ 100000) (A : Option Addr) (c : Nat) (w : World) (ha : Rb w A c l) :
    Calls Try.prog 30 #[.slice A n c] w (GivesP (payO l) (aftO l) (errO l) w) := by
  have hle := ha.le
  have hmax := ha.max
  unfold maxLen at hmax
  rw [hn] at hle
  have HD := Lib.hid (rUint l n hn (by omega) A c w ha)
  have hvl := valLeU l
  by_cases h : errU l = 0
  · rw [h] at HD
    by_cases h2 : (resU l).length < valU l + 4
    · have HE := Lib.hid (errOS h h2)
      obtain ⟨V, hV⟩ : ∃ V, valU l = V := ⟨_, rfl⟩
      rw [hV] at HD hvl h2
      have H2 := Lib.hid h2
      clear h h2 hV ha hn
      go_enter Try.func30, Try.ntmps30
      go_wp2_with fail
      refine HD.out.mono ?_
      rintro e w1 ⟨B, q, d, rfl, hq, r1, _, b1⟩
      have hqv : q < V + 4 := by rw [← hq.out]; exact H2.out
      have hqd := r1.le
      have hdm := r1.max
      unfold maxLen at hdm
      rw [hq.out] at hqd
      clear r1
      by_cases h4 : q < 4
      · go_wp2
        go_ret3
        exact GivesP.err 22 HE.out (by decide) b1
      · have h4' : decide ((q : Int) < 4) = false := by simp; omega
        have h5 : (q : Int) - 4 < (V : Int) := by omega
        go_wp2
        go_ret3
        exact GivesP.err 22 HE.out (by decide) b1
    · have hsz := sumAtLe (l := l) (by omega)
      have hrl := resLenLe l
      rw [hn] at hsz hrl
      have HA := Lib.hid ha
      have HN := Lib.hid hn
      obtain ⟨V, hV⟩ : ∃ V, valU l = V := ⟨_, rfl⟩
      obtain ⟨R, hR⟩ : ∃ R, resU l = R := ⟨_, rfl⟩
      obtain ⟨z, hz⟩ : ∃ z, sumAt l = z := ⟨_, rfl⟩
      have hzz : z = n - R.length + V := by rw [← hz]; unfold sumAt; rw [hn, hR, hV]
      have hrd : R.drop (V + 4) = l.drop (z + 4) := by
        have := resDrop h (V + 4)
        rw [hR, hn] at this
        rw [this, hzz]; congr 1
      rw [hV, hR] at HD
      rw [hV] at hvl
      rw [hV, hR] at h2
      rw [hR] at hrl
      rw [hz] at hsz
      have hcut := cutH A n c z (by omega) z rfl
      have hcut2 := cutLH A n c z (z + 4) (by omega) (by omega) z ((z : Int) + 4) rfl (by omega)
      have hze : z + 4 - z = 4 := by omega
      rw [hze] at hcut2
      have rC := ha.take z (by omega)
      have rS := lhRb ha (k := z) (m := z + 4) (by omega) (by omega)
      rw [hze] at rS
      obtain ⟨TS, hTS⟩ : ∃ T, tailA A c z = T := ⟨_, rfl⟩
      rw [hTS] at rS hcut2
      have RC := Lib.hid rC
      have RS := Lib.hid rS
      have HCL := Lib.hid (show (l.take z).length = z by rw [List.length_take]; omega)
      have HSL := Lib.hid (show ((l.drop z).take 4).length = 4 by rw [List.length_take, List.length_drop]; omega)
      have H2 := Lib.hid h2
      have HZ := Lib.hid hz
      have HVV := Lib.hid hV
      have HRR := Lib.hid hR
      have HZZ := Lib.hid hzz
      have HRD := Lib.hid hrd
      have HH := Lib.hid h
      clear hze rC rS hTS ha hn hzz h2 hz hV hR h hrd
      go_enter Try.func30, Try.ntmps30
      go_wp2_with fail
      refine HD.out.mono ?_
      rintro e w1 ⟨B, q, d, rfl, hq, r1, _, b1⟩
      have hqv : V + 4 ≤ q := by have := H2.out; have := hq.out; omega
      have hqn : q ≤ n := by rw [← hq.out]; exact hrl
      obtain ⟨g, hg⟩ : ∃ g, n - q = g := ⟨_, rfl⟩
      have hnq : (n : Int) - (q : Int) = (g : Int) := by omega
      have hzg : (g : Int) + (V : Int) = (z : Int) := by have := HZZ.out; have := hq.out; omega
      have hrl2 := r1.le
      rw [hq.out] at hrl2
      have hrm := r1.max
      unfold maxLen at hrm
      have h4 : ¬ (q : Int) < 4 := by omega
      have h5 : ¬ (V : Int) > (q : Int) - 4 := by omega
      have R1 := Lib.hid r1
      have B1 := Lib.hid b1
      have HG := Lib.hid hg
      clear r1 b1 hg hrl HD
      go_wp2
      by_cases hsum : (l.drop (sumAt l)).take 4 = sumB (crc (l.take (sumAt l)))
      · have HE := Lib.hid (errOOk HH.out (by rw [HRR.out, HVV.out]; exact H2.out) hsum)
        rw [HZ.out] at hsum
        have HEQ := Lib.hid (eqLy hsum)
        have hcl := crcLt (l.take z)
        have HCS := Lib.hid (rSumQ (l.take z) z HCL.out A c w1.drew (RC.out.below B1.out).drew)
        obtain ⟨C, hC⟩ : ∃ C, crc (l.take z) = C := ⟨_, rfl⟩
        rw [hC] at hcl HCS HEQ
        clear hsum hC
        have hw4 : IntKind.i64.wrap ((z : Int) + 4) = (z : Int) + 4 := IntWalk.i64_in _ (by omega)
        go_region_with (first
          | (go_at_call 32; refine HCS.out.mono ?_; rintro e w0 ⟨rfl, rfl⟩)
          | (go_at_call 44; refine (rSumB C hcl _).mono ?_; rintro e w3 ⟨D3, j3, f3, rfl, hj3, o3, b4⟩; obtain rfl : 4 = j3 := hj3.out; have r3 := o3.rb.1; have rs3 := (RS.out.below B1.out).drew.below b4)
          | (go_at_call 15; refine (rSame ((l.drop z).take 4) (sumB C) true HEQ.out 4 4 HSL.out hj3.out TS D3 (c - z) f3 _ rs3 r3).mono ?_; rintro e w0 ⟨rfl, rfl⟩))
        all_goals
          have b13 := belowThen ((Below.refl _ w1).drew) b4
          have B3 := Lib.hid (belowThen B1.out b13)
          have hcutA := cutH B q d V (by omega) V rfl
          have hcutB := cutB B q d (V + 4) (by omega) ((V : Int) + 4) (by omega)
          have RP := Lib.hid ((R1.out.take V (by have := hq.out; omega)).below b13)
          have HPL := Lib.hid (show (R.take V).length = V by rw [List.length_take]; have := hq.out; omega)
          have rQ := (tailRb R1.out (k := V + 4) (by have := hq.out; omega)).below b13
          obtain ⟨TB, hTB⟩ : ∃ T, tailA B d (V + 4) = T := ⟨_, rfl⟩
          rw [hTB] at rQ hcutB
          have RQ := Lib.hid rQ
          have HQL := Lib.hid (show (R.drop (V + 4)).length = q - (V + 4) by rw [List.length_drop, hq.out])
          have HP := Lib.hid (show payO l = R.take V by unfold payO; rw [if_pos HE.out, HRR.out, HVV.out])
          have HF := Lib.hid (show aftO l = R.drop (V + 4) by unfold aftO; rw [if_pos HE.out, HZ.out, HRD.out])
          clear hTB rQ b13 b4 r3 rs3 o3 hw4
          go_wp2
          have hV1 : V ≤ 1000000 := by omega
          have hQ1 : q - (V + 4) ≤ 1000000 := by omega
          have hwV : IntKind.i64.wrap ((V : Int) + 4) = (V : Int) + 4 := IntWalk.i64_in _ (by omega)
          go_region_law (first
            | (refine stepZ _ (by rfl) (.tmp 47) (.tmp 50) (by rfl) _ (by rfl) B V d (R.take V) (by rfl) HPL.out.symm ?_ hV1 ?_; (refine RP.out.below ?_; (first | exact Below.refl _ _ | exact (Below.refl _ _).drew | exact belowAlloc _ _ | exact (belowAlloc _ _).drew | exact (belowAlloc _ _).alloc (by simp) _ | exact ((belowAlloc _ _).alloc (by simp) _).drew | exact bz2 | exact bz2.drew | exact bz2.alloc bz2.size _ | exact (bz2.alloc bz2.size _).drew)); intro A5 c5 X5 r5 bx5; have bz1 : Below w3.heap.size w3 X5 := (by refine belowThen ?_ bx5; (first | exact Below.refl _ _ | exact (Below.refl _ _).drew | exact belowAlloc _ _ | exact (belowAlloc _ _).drew | exact (belowAlloc _ _).alloc (by simp) _ | exact ((belowAlloc _ _).alloc (by simp) _).drew | exact bz2 | exact bz2.drew | exact bz2.alloc bz2.size _ | exact (bz2.alloc bz2.size _).drew)))
            | (refine stepZ _ (by rfl) (.tmp 52) (.tmp 56) (by rfl) _ (by rfl) TB (q - (V + 4)) (d - (V + 4)) (R.drop (V + 4)) (by rfl) HQL.out.symm ?_ hQ1 ?_; (refine RQ.out.below ?_; (first | exact Below.refl _ _ | exact (Below.refl _ _).drew | exact belowAlloc _ _ | exact (belowAlloc _ _).drew | exact (belowAlloc _ _).alloc (by simp) _ | exact ((belowAlloc _ _).alloc (by simp) _).drew | exact bz1 | exact bz1.drew | exact bz1.alloc bz1.size _ | exact (bz1.alloc bz1.size _).drew)); intro A6 c6 X6 r6 bx6; have bz2 : Below w3.heap.size w3 X6 := (by refine belowThen ?_ bx6; (first | exact Below.refl _ _ | exact (Below.refl _ _).drew | exact belowAlloc _ _ | exact (belowAlloc _ _).drew | exact (belowAlloc _ _).alloc (by simp) _ | exact ((belowAlloc _ _).alloc (by simp) _).drew | exact bz1 | exact bz1.drew | exact bz1.alloc bz1.size _ | exact (bz1.alloc bz1.size _).drew))))
          all_goals
            clear hwV
            go_wp2
            go_ret3
            rw [HP.out, HF.out, HE.out]
            first
              | exact ⟨A5, V, c5, A6, _, c6, rfl, HPL, HQL, r5.below (by first | exact bx6 | exact belowThen (belowAlloc _ _) bx6 | exact belowThen (belowAlloc _ _).drew bx6 | exact belowThen (Below.refl _ _).drew bx6), r6, belowThen B3.out bz2⟩
              | exact ⟨A5, V, c5, A6, _, c6, rfl, HPL, HQL, r5, r6.below (by first | exact bx5 | exact belowThen (belowAlloc _ _) bx5 | exact belowThen (belowAlloc _ _).drew bx5 | exact belowThen (Below.refl _ _).drew bx5), belowThen B3.out bz1⟩
      · have HE := Lib.hid (errOSum HH.out (by rw [HRR.out, HVV.out]; exact H2.out) hsum)
        rw [HZ.out] at hsum
        have HEQ := Lib.hid (eqLn hsum)
        have hcl := crcLt (l.take z)
        have HCS := Lib.hid (rSumQ (l.take z) z HCL.out A c w1.drew (RC.out.below B1.out).drew)
        obtain ⟨C, hC⟩ : ∃ C, crc (l.take z) = C := ⟨_, rfl⟩
        rw [hC] at hcl HCS HEQ
        clear hsum hC
        have hw4 : IntKind.i64.wrap ((z : Int) + 4) = (z : Int) + 4 := IntWalk.i64_in _ (by omega)
        go_region_with (first
          | (go_at_call 32; refine HCS.out.mono ?_; rintro e w0 ⟨rfl, rfl⟩)
          | (go_at_call 44; refine (rSumB C hcl _).mono ?_; rintro e w3 ⟨D3, j3, f3, rfl, hj3, o3, b4⟩; obtain rfl : 4 = j3 := hj3.out; have r3 := o3.rb.1; have rs3 := (RS.out.below B1.out).drew.below b4)
          | (go_at_call 15; refine (rSame ((l.drop z).take 4) (sumB C) false HEQ.out 4 4 HSL.out hj3.out TS D3 (c - z) f3 _ rs3 r3).mono ?_; rintro e w0 ⟨rfl, rfl⟩))
        all_goals go_wp2
        all_goals go_ret3
        all_goals exact GivesP.err 21 HE.out (by decide) (belowThen B1.out (belowThen ((Below.refl _ w1).drew) b4))
  · have HE := Lib.hid (errOU h)
    have hv := valErr h
    rw [hv.1, hv.2] at HD
    obtain ⟨E, hE⟩ : ∃ E, errU l = E := ⟨_, rfl⟩
    rw [hE] at h HD HE
    have hE0 : ((E : Int) != 0) = true := by simp; omega
    have H0 := Lib.hid h
    clear hE hv h ha hn hvl
    go_enter Try.func30, Try.ntmps30
    go_wp2_with fail
    refine HD.out.mono ?_
    rintro e w1 ⟨B, q, d, rfl, hq, r1, _, b1⟩
    go_wp2
    go_ret3
    exact GivesP.err E HE.out H0.out b1
end Go.Proofs.Ytcbipokohjajoaa
