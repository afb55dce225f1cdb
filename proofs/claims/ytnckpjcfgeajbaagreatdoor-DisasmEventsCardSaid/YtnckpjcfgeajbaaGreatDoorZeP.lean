/-
  The specification's Event: agents from 0.
-/
import Derived.Test.YtnckpjcfgeajbaaGreatDoorZeA
namespace Go.Proofs.YtnckpjcfgeajbaaGreatDoor
open Go Go.RowKit

set_option maxRecDepth 100000 in
set_option maxHeartbeats 16000000 in
theorem rEvInP {a : PgA} {p : Prg} (x : E9) (hi : x.Wf) (k : Nat) (hk : 1 ≤ k ∧ k ≤ 17) (hkd : x.kd = k) (hag : ¬ x.ag < 0) (w : World) (hP : PgW w a p) (hW : p.Wf) (hsm : p.small = true) : Calls Tryz.prog 27 #[a.val, x.val] w fun e w' => e = gvW (p.evR x) ∧ Below w.heap.size w w' := by
  obtain ⟨W, hWE⟩ : ∃ W, w.alloc (.cells a.fs 28) = W := ⟨_, rfl⟩
  have hbW : Below w.heap.size w W := by rw [← hWE]; exact belowAlloc w _
  have hB : PBox W w.heap.size a := by rw [← hWE]; exact Blk.new w _ _
  have hz : W.heap.size = w.heap.size + 1 := by rw [← hWE]; simp
  have HCK := Lib.hid (fun X (hX : PgW X a p) => rCheckP X hX hW hsm)
  have hkN : x.kd.toNat = k := by omega
  have hkk : 1 ≤ x.kd.toNat ∧ x.kd.toNat ≤ 17 := by omega
  obtain ⟨r, hr⟩ : ∃ r, gvW (p.evR x) = r := ⟨_, rfl⟩
  rw [hr]
  have HR1 : Hid (p.chk.1 ≠ 0 → r = .returned (.tuple #[.string ⟨#[]⟩, .int .i64 p.chk.1])) := Lib.hid fun h => by rw [← hr, Prg.evR, if_pos h]; rfl
  have HR3 : Hid (p.chk.1 = 0 → p.wrR x (evl k) ≠ 0 → r = .returned (.tuple #[.string ⟨#[]⟩, .int .i64 (p.wrR x (evl k))])) := Lib.hid fun h h2 => by rw [← hkN] at h2 ⊢; rw [← hr, evRno h hkk h2]; rfl
  have HR4 : Hid (p.chk.1 = 0 → p.wrR x (evl k) = 0 → r = .returned (.tuple #[.string (bs (p.etk x (evl k).length)), .int .i64 0])) := Lib.hid fun h h2 => by rw [← hkN] at h2 ⊢; rw [← hr, evRok h hkk h2]; rfl
  have HWD := Lib.hid (fun X => rWords k hk X)
  have HWR := Lib.hid (fun X (hX : PgW X a p) => rWrong x (evl k) (evlIn k (by omega)) (evlLen k (by omega)) X hX)
  have HNU := Lib.hid (fun c (hc : c ∈ ([118, 109, 99, 119, 79, 82, 87, 78, 74, 69] : List UInt8)) X => rNum x c hc X)
  have HNE : Hid (∀ c, x.nuE c = ((x.num c).2 && !isVal (x.num c).1)) := Lib.hid fun c => rfl
  have H0B := Lib.hid (fun (h : p.wrR x (evl k) = 0) => wr0bad h)
  have HBA : Hid (x.bad = (!isVal x.ag || !isVal x.ix || decide (x.ix < 0))) := Lib.hid rfl
  have HN0 := Lib.hid (fun (h : x.ag < 0) => etk0N (p := p) h)
  have HP0 := Lib.hid (fun (h : ¬ x.ag < 0) => etk0P (p := p) h)
  have HLN := Lib.hid (fun (hv : p.Vld) (hg : isVal x.ag = true) j => etkLen hv hi hg hkk j)
  have HNX : Hid (∀ j (h : j < (evl k).length), p.etk x (j + 1) = p.etk x j ++ Lib.joinTail [32] ((p.lwE x (evl k)[j]).map (·.t))) := Lib.hid (by subst hkN; exact fun j h => etkNext h)
  have HEI := Lib.hid (fun c (h : c ∈ evl k) => evlIn k (by omega) c h)
  have HE4 := evlLen k (by omega)
  rw [hkN] at HN0 HP0
  have hws := evnSz k hk
  have HL118 := Lib.hid (lwE118 p x)
  have HL109 := Lib.hid (lwE109 p x)
  have HL99 := Lib.hid (lwE99 p x)
  have HL119 := Lib.hid (lwE119 p x)
  have HL79 := Lib.hid (lwE79 p x)
  have HL82 := Lib.hid (lwE82 p x)
  have HL87 := Lib.hid (lwE87 p x)
  have HL78 := Lib.hid (lwE78 p x)
  have HL74 := Lib.hid (lwE74 p x)
  have HL69 := Lib.hid (lwE69 p x)
  have HNV := Lib.hid (fun X (hX : PgW X a p) => rVn x.ob X hX)
  have HNM := Lib.hid (fun X (hX : PgW X a p) => rMn x.ob X hX)
  have HNC := Lib.hid (fun X (hX : PgW X a p) => rCn x.ob X hX)
  have HNW := Lib.hid (fun X (hX : PgW X a p) => rMn x.mu X hX)
  have HFA := Lib.hid (fun X => rForm x.ag _ rfl hi.ag.1 hi.ag.2 X)
  have HFI := Lib.hid (fun X => rForm x.ix _ rfl hi.ix.1 hi.ix.2 X)
  have HFN := Lib.hid (fun (h : In64 (-x.ag - 1)) X => rForm (-x.ag - 1) _ rfl h.1 h.2 X)
  have hia := hi.ag
  have hsa := itoaSz _ hi.ag
  have hsi := itoaSz _ hi.ix
  have HSN := Lib.hid (fun (h : In64 (-x.ag - 1)) => itoaSz _ h)
  have HOR := Lib.hid (fun X => rOrd x.od _ rfl X)
  have HOT := Lib.hid (orText x.od)
  have hWf := hi
  obtain ⟨k1, k2, k3, hchk⟩ : ∃ k1 k2 k3, p.chk = (k1, k2, k3) := ⟨_, _, _, rfl⟩
  have HVL : Hid (k1 = 0 → p.Vld) := Lib.hid fun h => p.vld (by rw [hchk]; exact h)
  rw [hchk] at HR1 HR3 HR4
  simp only at HR1 HR3 HR4
  simp only [hchk, err3] at HCK
  generalize p.wrR x (evl k) = wres at HR3 HR4 HWR H0B
  have hNU2 : ∀ c, E9.num x c = E9.num x c := fun _ => rfl
  have HI64 : Hid (∀ c ∈ ([118, 109, 99, 119, 79, 82, 87, 78, 74, 69] : List UInt8), In64 (x.num c).1) := Lib.hid fun c hc => by
    simp only [List.mem_cons, List.not_mem_nil, or_false] at hc
    have z : In64 0 := ⟨by decide, by decide⟩
    rcases hc with rfl | rfl | rfl | rfl | rfl | rfl | rfl | rfl | rfl | rfl
    · exact z
    · exact z
    · exact z
    · exact z
    · exact z
    · exact hi.rd
    · exact hi.wr
    · exact hi.en
    · exact hi.ob
    · exact hi.en
  obtain ⟨ag, ix, kd, ob, mu, en, od, rd, wo⟩ := x
  simp only at hkd hia hag
  subst hkd
  clear hr hchk hi hkN hkk hW hsm hNU2 hWf
  obtain ⟨V, hVE⟩ : ∃ V, W.alloc (.cells #[.int .i64 ag, .int .i64 ix, .int .i64 (k : Int), .int .i64 ob, .int .i64 mu, .int .i64 en, .int .i64 od, .int .i64 rd, .int .i64 wo] 52) = V := ⟨_, rfl⟩
  have hbV : Below W.heap.size W V := by rw [← hVE]; exact belowAlloc W _
  have hI : Blk V W.heap.size 52 #[.int .i64 ag, .int .i64 ix, .int .i64 (k : Int), .int .i64 ob, .int .i64 mu, .int .i64 en, .int .i64 od, .int .i64 rd, .int .i64 wo] := by rw [← hVE]; exact Blk.new W _ _
  rw [hz] at hI
  have hbB := belowThen hbW hbV
  have HKB := Lib.hid (hB.below hbV)
  have HKI := Lib.hid hI
  have HP := Lib.hid (fun X (hX : Below V.heap.size V X) => (hP.below hbB).below hX)
  obtain ⟨A1, n1, c1, A2, n2, c2, A3, n3, c3, A4, n4, c4, A5, n5, c5⟩ := a
  simp only [PgA.val, PgA.fs, E9.val] at *
  obtain ⟨b0, hb0⟩ : ∃ b0, w.heap.size = b0 := ⟨_, rfl⟩
  obtain ⟨b1, hb1⟩ : ∃ b1, w.heap.size + 1 = b1 := ⟨_, rfl⟩
  have HBB := Lib.hid hbB
  have HB0 := Lib.hid hb0
  have HB1 := Lib.hid hb1
  have HK : Hid (∀ X, Below V.heap.size V X → Below V.heap.size V X ∧ X.cell? ⟨b0, 0, none⟩ = some (.slice A1 n1 c1) ∧ X.cell? ⟨b0, 1, none⟩ = some (.slice A2 n2 c2) ∧ X.cell? ⟨b0, 2, none⟩ = some (.slice A3 n3 c3) ∧ X.cell? ⟨b0, 3, none⟩ = some (.slice A4 n4 c4) ∧ X.cell? ⟨b0, 4, none⟩ = some (.slice A5 n5 c5) ∧ X.cell? ⟨b1, 0, none⟩ = some (.int .i64 ag) ∧ X.cell? ⟨b1, 1, none⟩ = some (.int .i64 ix) ∧ X.cell? ⟨b1, 2, none⟩ = some (.int .i64 (k : Int)) ∧ X.cell? ⟨b1, 3, none⟩ = some (.int .i64 ob) ∧ X.cell? ⟨b1, 4, none⟩ = some (.int .i64 mu) ∧ X.cell? ⟨b1, 5, none⟩ = some (.int .i64 en) ∧ X.cell? ⟨b1, 6, none⟩ = some (.int .i64 od) ∧ X.cell? ⟨b1, 7, none⟩ = some (.int .i64 rd) ∧ X.cell? ⟨b1, 8, none⟩ = some (.int .i64 wo)) := by
    refine Lib.hid fun X hX => ?_
    obtain ⟨g0, g1, g2, g3, g4⟩ := (HKB.out.below hX).facts
    have hJ := HKI.out.below' hX
    rw [hb1] at hJ
    rw [hb0] at g0 g1 g2 g3 g4
    exact ⟨hX, g0, g1, g2, g3, g4, hJ.cell 0, hJ.cell 1, hJ.cell 2, hJ.cell 3, hJ.cell 4, hJ.cell 5, hJ.cell 6, hJ.cell 7, hJ.cell 8⟩
  have HWE := Lib.hid hWE
  have HVE := Lib.hid hVE
  clear hP hB hbW hbV hWE hVE hI hbB hb0 hb1 HKB HKI
  obtain ⟨S, hS⟩ : ∃ S, bs (evl k) = S := ⟨_, rfl⟩
  rw [hS] at HWD HWR
  have hSL : S.size = (evl k).length := by rw [← hS]; simp [bs, ByteArray.size]
  have HAT : Hid (∀ j (h : j < S.size) (h2 : j < (evl k).length), S[j] = (evl k)[j]) := Lib.hid (by subst hS; intro j h h2; simp [bs]; rfl)
  have hS4 : S.size ≤ 4 := by omega
  have HSL := Lib.hid hSL
  have hne : ¬ (evn k).toList = [] := by
    intro e
    have h1 : (evn k).toList.length = (evn k).size := by rw [Lib.toList_data]; rfl
    rw [e] at h1
    simp at h1
    omega
  have hne2 : (evn k).toList.isEmpty = false := by rw [← Bool.not_eq_true, List.isEmpty_iff]; exact hne
  generalize p.etk ⟨ag, ix, (k : Int), ob, mu, en, od, rd, wo⟩ = et at *
  generalize evn k = wd at *
  generalize evl k = ws at *
  clear hS hSL HE4
  go_enter Tryz.func27, Tryz.ntmps27
  go_wp2_with fail
  rw [HWE.out, HVE.out]
  rw [HB1.out, HB0.out]
  obtain ⟨q, k0, k1', k2', k3', k4, r0, r1, r2, r3, r4, r5, r6, r7, r8⟩ := HK.out V (Below.refl _ _)
  clear q
  by_cases hk1 : k1 = 0
  · subst hk1
    have HVLD := Lib.hid (HVL.out (by first | trivial | rfl))
    clear HVL HR1
    go_wp2_with fail
    refine (HCK.out _ (HP.out _ (Below.refl _ _))).mono ?_
    rintro e w1 ⟨rfl, q1⟩
    have HS1 := Lib.hid q1
    clear q1 k0 k1' k2' k3' k4 r0 r1 r2 r3 r4 r5 r6 r7 r8
    obtain ⟨q, k0, k1', k2', k3', k4, r0, r1, r2, r3, r4, r5, r6, r7, r8⟩ := HK.out w1 HS1.out
    clear q
    go_wp2_with fail
    refine (HWD.out _).mono ?_
    rintro e wA ⟨rfl, rfl⟩
    go_wp2_with fail
    refine (HWR.out _ (HP.out _ HS1.out)).mono ?_
    rintro e w2 ⟨rfl, q2⟩
    have HS2 := Lib.hid (belowThen HS1.out q2)
    clear q2 k0 k1' k2' k3' k4 r0 r1 r2 r3 r4 r5 r6 r7 r8
    obtain ⟨q, k0, k1', k2', k3', k4, r0, r1, r2, r3, r4, r5, r6, r7, r8⟩ := HK.out w2 HS2.out
    clear q
    by_cases hw : wres = 0
    · subst hw
      have HZ := Lib.hid (HR4.out (by first | trivial | rfl) (by first | trivial | rfl))
      have H00 := Lib.hid (H0B.out (by first | trivial | rfl))
      have hbad := H00.out.1
      rw [HBA.out] at hbad
      simp only [Bool.or_eq_false_iff, Bool.not_eq_false', decide_eq_false_iff_not] at hbad
      obtain ⟨⟨hva, hvi⟩, hx0⟩ := hbad
      have HLE := Lib.hid (HLN.out HVLD.out hva)
      have hvb : -2147483648 ≤ ag ∧ ag ≤ 2147483647 := by simpa [isVal] using hva
      have key : ∀ (so : ByteArray) (wq : World), so = bs (et 0) → Below V.heap.size V wq → True := fun _ _ _ _ => trivial
      clear key hva hvi hx0
      clear HN0 HFN HSN
      have HT0 := Lib.hid (HP0.out hag)
      generalize (⟨(Lib.itoa ag).toArray⟩ : ByteArray) = ta at *
      generalize (⟨(Lib.itoa ix).toArray⟩ : ByteArray) = ti at *
      go_wp2_with fail
      refine (HFA.out _).mono ?_
      rintro e wA ⟨rfl, rfl⟩
      go_wp2_with fail
      refine (HFI.out _).mono ?_
      rintro e wA ⟨rfl, rfl⟩
      go_wp2
      go_loopw [12, 13] (fun vo vi wr => ∃ j : Nat, j ≤ S.size ∧ vi = .int .i64 j ∧ vo = .string (bs (et j)) ∧ Below V.heap.size V wr) (fun _ i _ => S.size - (intOf i).toNat)
      case atStart => exact ⟨0, Nat.zero_le _, rfl, by rw [HT0.out], HS2.out⟩
      case round =>
        clear k0 k1' k2' k3' k4 r0 r1 r2 r3 r4 r5 r6 r7 r8
        obtain ⟨j, hj, rfl, rfl, hb⟩ := hrel
        obtain ⟨q, k0, k1', k2', k3', k4, r0, r1, r2, r3, r4, r5, r6, r7, r8⟩ := HK.out wr hb
        clear q
        have hso : (bs (et j)).size ≤ 400 := by rw [bsSz9]; exact HLE.out j
        by_cases hjs : j < S.size
        · have hjw : j < ws.length := by rw [← HSL.out]; exact hjs
          have hsk := HAT.out j hjs hjw
          have hj0 : (0 : Int) ≤ j := by omega
          have hj1 : (j : Int) < S.size := by omega
          have hin := HEI.out _ (List.getElem_mem hjw)
          have hbd : Below V.heap.size V wr.drew := hb.drew
          simp only [List.mem_cons, List.not_mem_nil, or_false] at hin
          rcases hin with hlk | hlk | hlk | hlk | hlk | hlk | hlk | hlk | hlk | hlk
          · have hc := hsk.trans hlk
            have hN : S[j].toNat = 118 := by rw [hc]; rfl
            have hNX := HNX.out j hjw
            rw [hlk, HL118.out] at hNX
            have HNL := Lib.hid (fun X => HNU.out 118 (by decide) X)
            rw [show E9.num ⟨ag, ix, (k : Int), ob, mu, en, od, rd, wo⟩ 118 = (0, false) from rfl] at HNL
            rw [show (((118 : UInt8).toNat : Nat) : Int) = (118 : Int) from rfl] at HNL
            have HNK := Lib.hid (fun X => HNL.out X)
            rw [show (118 : Int) = (S[j].toNat : Int) by rw [hN]; rfl] at HNK
            simp only at HNL HNK
            have HAP := Lib.hid ((congrArg bs hNX).trans (app1 _ _))
            have hst : (bs (obW p.vN ob).t).size ≤ 22 := by rw [bsSz9]; exact obLen22 HVLD.out.vNn _
            have HNM2 := Lib.hid (fun X hX => HNV.out X hX)
            have HNM3 := Lib.hid (fun X hX => HNV.out X hX)
            generalize obW p.vN ob = y at HAP hst HNM2 HNM3
            clear hNX
            clear hsk hlk hc
            go_wp2_with fail
            clear k0 k1' k2' k3' k4 r0 r1 r2 r3 r4 r5 r6 r7 r8
            go_region_held3 (fun w' => Below V.heap.size V w' ∧ w'.cell? ⟨b0, 0, none⟩ = some (.slice A1 n1 c1) ∧ w'.cell? ⟨b0, 1, none⟩ = some (.slice A2 n2 c2) ∧ w'.cell? ⟨b0, 2, none⟩ = some (.slice A3 n3 c3) ∧ w'.cell? ⟨b0, 3, none⟩ = some (.slice A4 n4 c4) ∧ w'.cell? ⟨b0, 4, none⟩ = some (.slice A5 n5 c5) ∧ w'.cell? ⟨b1, 0, none⟩ = some (.int .i64 ag) ∧ w'.cell? ⟨b1, 1, none⟩ = some (.int .i64 ix) ∧ w'.cell? ⟨b1, 2, none⟩ = some (.int .i64 (k : Int)) ∧ w'.cell? ⟨b1, 3, none⟩ = some (.int .i64 ob) ∧ w'.cell? ⟨b1, 4, none⟩ = some (.int .i64 mu) ∧ w'.cell? ⟨b1, 5, none⟩ = some (.int .i64 en) ∧ w'.cell? ⟨b1, 6, none⟩ = some (.int .i64 od) ∧ w'.cell? ⟨b1, 7, none⟩ = some (.int .i64 rd) ∧ w'.cell? ⟨b1, 8, none⟩ = some (.int .i64 wo))
              (first
                | with_reducible assumption
                | exact HK.out _ hbd
                | exact HK.out _ (belowThen (‹Below V.heap.size V _ ∧ _›).1 bk))
              (first
                | (go_at_call 70; (first | with_reducible refine (HNL.out _).mono ?_ | with_reducible refine (HNK.out _).mono ?_ | refine (HNL.out _).mono ?_); rintro e wO ⟨rfl, bk⟩))
            have hb1 := (‹Below V.heap.size V wO ∧ _›).1
            clear hbd bk
            obtain ⟨q, k0, k1', k2', k3', k4, r0, r1, r2, r3, r4, r5, r6, r7, r8⟩ := HK.out wO hb1
            clear q
            have hbe : Below V.heap.size V wO.drew := hb1.drew
            rw [show (118 : Int) = (S[j].toNat : Int) by rw [hN]; rfl] at HNM2
            go_wp2_with fail
            clear k0 k1' k2' k3' k4 r0 r1 r2 r3 r4 r5 r6 r7 r8
            go_region_held3 (fun w' => Below V.heap.size V w' ∧ w'.cell? ⟨b0, 0, none⟩ = some (.slice A1 n1 c1) ∧ w'.cell? ⟨b0, 1, none⟩ = some (.slice A2 n2 c2) ∧ w'.cell? ⟨b0, 2, none⟩ = some (.slice A3 n3 c3) ∧ w'.cell? ⟨b0, 3, none⟩ = some (.slice A4 n4 c4) ∧ w'.cell? ⟨b0, 4, none⟩ = some (.slice A5 n5 c5) ∧ w'.cell? ⟨b1, 0, none⟩ = some (.int .i64 ag) ∧ w'.cell? ⟨b1, 1, none⟩ = some (.int .i64 ix) ∧ w'.cell? ⟨b1, 2, none⟩ = some (.int .i64 (k : Int)) ∧ w'.cell? ⟨b1, 3, none⟩ = some (.int .i64 ob) ∧ w'.cell? ⟨b1, 4, none⟩ = some (.int .i64 mu) ∧ w'.cell? ⟨b1, 5, none⟩ = some (.int .i64 en) ∧ w'.cell? ⟨b1, 6, none⟩ = some (.int .i64 od) ∧ w'.cell? ⟨b1, 7, none⟩ = some (.int .i64 rd) ∧ w'.cell? ⟨b1, 8, none⟩ = some (.int .i64 wo))
              (first
                | with_reducible assumption
                | exact HK.out _ hbe
                | exact HK.out _ (belowThen (‹Below V.heap.size V _ ∧ _›).1 bk))
              (first
                | (go_at_call 72; (first | with_reducible refine (HNM2.out _ (HP.out _ (‹Below V.heap.size V _ ∧ _›).1)).mono ?_ | with_reducible refine (HNM3.out _ (HP.out _ (‹Below V.heap.size V _ ∧ _›).1)).mono ?_ | refine (HNM3.out _ (HP.out _ (‹Below V.heap.size V _ ∧ _›).1)).mono ?_); rintro e wQ ⟨he, bk⟩; have he : e = .returned (.tuple #[.string (bs y.t), .bool (decide (y.e = 0))]) := he; subst he))
            have hfin := (‹Below V.heap.size V wQ ∧ _›).1
            clear hbe bk
            generalize bs y.t = sy at HAP hst ⊢
            generalize decide (y.e = 0) = dy
            go_wp2
            go_roundw
            case rel => exact ⟨j + 1, by omega, by go_num, by rw [HAP.out], hfin⟩
            case measure => simp [intOf]; omega
          · have hc := hsk.trans hlk
            have hN : S[j].toNat = 109 := by rw [hc]; rfl
            have hNX := HNX.out j hjw
            rw [hlk, HL109.out] at hNX
            have HNL := Lib.hid (fun X => HNU.out 109 (by decide) X)
            rw [show E9.num ⟨ag, ix, (k : Int), ob, mu, en, od, rd, wo⟩ 109 = (0, false) from rfl] at HNL
            rw [show (((109 : UInt8).toNat : Nat) : Int) = (109 : Int) from rfl] at HNL
            have HNK := Lib.hid (fun X => HNL.out X)
            rw [show (109 : Int) = (S[j].toNat : Int) by rw [hN]; rfl] at HNK
            simp only at HNL HNK
            have HAP := Lib.hid ((congrArg bs hNX).trans (app1 _ _))
            have hst : (bs (obW p.muts ob).t).size ≤ 22 := by rw [bsSz9]; exact obLen22 HVLD.out.nm _
            have HNM2 := Lib.hid (fun X hX => HNM.out X hX)
            have HNM3 := Lib.hid (fun X hX => HNM.out X hX)
            generalize obW p.muts ob = y at HAP hst HNM2 HNM3
            clear hNX
            clear hsk hlk hc
            go_wp2_with fail
            clear k0 k1' k2' k3' k4 r0 r1 r2 r3 r4 r5 r6 r7 r8
            go_region_held3 (fun w' => Below V.heap.size V w' ∧ w'.cell? ⟨b0, 0, none⟩ = some (.slice A1 n1 c1) ∧ w'.cell? ⟨b0, 1, none⟩ = some (.slice A2 n2 c2) ∧ w'.cell? ⟨b0, 2, none⟩ = some (.slice A3 n3 c3) ∧ w'.cell? ⟨b0, 3, none⟩ = some (.slice A4 n4 c4) ∧ w'.cell? ⟨b0, 4, none⟩ = some (.slice A5 n5 c5) ∧ w'.cell? ⟨b1, 0, none⟩ = some (.int .i64 ag) ∧ w'.cell? ⟨b1, 1, none⟩ = some (.int .i64 ix) ∧ w'.cell? ⟨b1, 2, none⟩ = some (.int .i64 (k : Int)) ∧ w'.cell? ⟨b1, 3, none⟩ = some (.int .i64 ob) ∧ w'.cell? ⟨b1, 4, none⟩ = some (.int .i64 mu) ∧ w'.cell? ⟨b1, 5, none⟩ = some (.int .i64 en) ∧ w'.cell? ⟨b1, 6, none⟩ = some (.int .i64 od) ∧ w'.cell? ⟨b1, 7, none⟩ = some (.int .i64 rd) ∧ w'.cell? ⟨b1, 8, none⟩ = some (.int .i64 wo))
              (first
                | with_reducible assumption
                | exact HK.out _ hbd
                | exact HK.out _ (belowThen (‹Below V.heap.size V _ ∧ _›).1 bk))
              (first
                | (go_at_call 70; (first | with_reducible refine (HNL.out _).mono ?_ | with_reducible refine (HNK.out _).mono ?_ | refine (HNL.out _).mono ?_); rintro e wO ⟨rfl, bk⟩))
            have hb1 := (‹Below V.heap.size V wO ∧ _›).1
            clear hbd bk
            obtain ⟨q, k0, k1', k2', k3', k4, r0, r1, r2, r3, r4, r5, r6, r7, r8⟩ := HK.out wO hb1
            clear q
            have hbe : Below V.heap.size V wO.drew := hb1.drew
            rw [show (109 : Int) = (S[j].toNat : Int) by rw [hN]; rfl] at HNM2
            go_wp2_with fail
            clear k0 k1' k2' k3' k4 r0 r1 r2 r3 r4 r5 r6 r7 r8
            go_region_held3 (fun w' => Below V.heap.size V w' ∧ w'.cell? ⟨b0, 0, none⟩ = some (.slice A1 n1 c1) ∧ w'.cell? ⟨b0, 1, none⟩ = some (.slice A2 n2 c2) ∧ w'.cell? ⟨b0, 2, none⟩ = some (.slice A3 n3 c3) ∧ w'.cell? ⟨b0, 3, none⟩ = some (.slice A4 n4 c4) ∧ w'.cell? ⟨b0, 4, none⟩ = some (.slice A5 n5 c5) ∧ w'.cell? ⟨b1, 0, none⟩ = some (.int .i64 ag) ∧ w'.cell? ⟨b1, 1, none⟩ = some (.int .i64 ix) ∧ w'.cell? ⟨b1, 2, none⟩ = some (.int .i64 (k : Int)) ∧ w'.cell? ⟨b1, 3, none⟩ = some (.int .i64 ob) ∧ w'.cell? ⟨b1, 4, none⟩ = some (.int .i64 mu) ∧ w'.cell? ⟨b1, 5, none⟩ = some (.int .i64 en) ∧ w'.cell? ⟨b1, 6, none⟩ = some (.int .i64 od) ∧ w'.cell? ⟨b1, 7, none⟩ = some (.int .i64 rd) ∧ w'.cell? ⟨b1, 8, none⟩ = some (.int .i64 wo))
              (first
                | with_reducible assumption
                | exact HK.out _ hbe
                | exact HK.out _ (belowThen (‹Below V.heap.size V _ ∧ _›).1 bk))
              (first
                | (go_at_call 72; (first | with_reducible refine (HNM2.out _ (HP.out _ (‹Below V.heap.size V _ ∧ _›).1)).mono ?_ | with_reducible refine (HNM3.out _ (HP.out _ (‹Below V.heap.size V _ ∧ _›).1)).mono ?_ | refine (HNM3.out _ (HP.out _ (‹Below V.heap.size V _ ∧ _›).1)).mono ?_); rintro e wQ ⟨he, bk⟩; have he : e = .returned (.tuple #[.string (bs y.t), .bool (decide (y.e = 0))]) := he; subst he))
            have hfin := (‹Below V.heap.size V wQ ∧ _›).1
            clear hbe bk
            generalize bs y.t = sy at HAP hst ⊢
            generalize decide (y.e = 0) = dy
            go_wp2
            go_roundw
            case rel => exact ⟨j + 1, by omega, by go_num, by rw [HAP.out], hfin⟩
            case measure => simp [intOf]; omega
          · have hc := hsk.trans hlk
            have hN : S[j].toNat = 99 := by rw [hc]; rfl
            have hNX := HNX.out j hjw
            rw [hlk, HL99.out] at hNX
            have HNL := Lib.hid (fun X => HNU.out 99 (by decide) X)
            rw [show E9.num ⟨ag, ix, (k : Int), ob, mu, en, od, rd, wo⟩ 99 = (0, false) from rfl] at HNL
            rw [show (((99 : UInt8).toNat : Nat) : Int) = (99 : Int) from rfl] at HNL
            have HNK := Lib.hid (fun X => HNL.out X)
            rw [show (99 : Int) = (S[j].toNat : Int) by rw [hN]; rfl] at HNK
            simp only at HNL HNK
            have HAP := Lib.hid ((congrArg bs hNX).trans (app1 _ _))
            have hst : (bs (obW p.conds ob).t).size ≤ 22 := by rw [bsSz9]; exact obLen22 HVLD.out.nc _
            have HNM2 := Lib.hid (fun X hX => HNC.out X hX)
            have HNM3 := Lib.hid (fun X hX => HNC.out X hX)
            generalize obW p.conds ob = y at HAP hst HNM2 HNM3
            clear hNX
            clear hsk hlk hc
            go_wp2_with fail
            clear k0 k1' k2' k3' k4 r0 r1 r2 r3 r4 r5 r6 r7 r8
            go_region_held3 (fun w' => Below V.heap.size V w' ∧ w'.cell? ⟨b0, 0, none⟩ = some (.slice A1 n1 c1) ∧ w'.cell? ⟨b0, 1, none⟩ = some (.slice A2 n2 c2) ∧ w'.cell? ⟨b0, 2, none⟩ = some (.slice A3 n3 c3) ∧ w'.cell? ⟨b0, 3, none⟩ = some (.slice A4 n4 c4) ∧ w'.cell? ⟨b0, 4, none⟩ = some (.slice A5 n5 c5) ∧ w'.cell? ⟨b1, 0, none⟩ = some (.int .i64 ag) ∧ w'.cell? ⟨b1, 1, none⟩ = some (.int .i64 ix) ∧ w'.cell? ⟨b1, 2, none⟩ = some (.int .i64 (k : Int)) ∧ w'.cell? ⟨b1, 3, none⟩ = some (.int .i64 ob) ∧ w'.cell? ⟨b1, 4, none⟩ = some (.int .i64 mu) ∧ w'.cell? ⟨b1, 5, none⟩ = some (.int .i64 en) ∧ w'.cell? ⟨b1, 6, none⟩ = some (.int .i64 od) ∧ w'.cell? ⟨b1, 7, none⟩ = some (.int .i64 rd) ∧ w'.cell? ⟨b1, 8, none⟩ = some (.int .i64 wo))
              (first
                | with_reducible assumption
                | exact HK.out _ hbd
                | exact HK.out _ (belowThen (‹Below V.heap.size V _ ∧ _›).1 bk))
              (first
                | (go_at_call 70; (first | with_reducible refine (HNL.out _).mono ?_ | with_reducible refine (HNK.out _).mono ?_ | refine (HNL.out _).mono ?_); rintro e wO ⟨rfl, bk⟩))
            have hb1 := (‹Below V.heap.size V wO ∧ _›).1
            clear hbd bk
            obtain ⟨q, k0, k1', k2', k3', k4, r0, r1, r2, r3, r4, r5, r6, r7, r8⟩ := HK.out wO hb1
            clear q
            have hbe : Below V.heap.size V wO.drew := hb1.drew
            rw [show (99 : Int) = (S[j].toNat : Int) by rw [hN]; rfl] at HNM2
            go_wp2_with fail
            clear k0 k1' k2' k3' k4 r0 r1 r2 r3 r4 r5 r6 r7 r8
            go_region_held3 (fun w' => Below V.heap.size V w' ∧ w'.cell? ⟨b0, 0, none⟩ = some (.slice A1 n1 c1) ∧ w'.cell? ⟨b0, 1, none⟩ = some (.slice A2 n2 c2) ∧ w'.cell? ⟨b0, 2, none⟩ = some (.slice A3 n3 c3) ∧ w'.cell? ⟨b0, 3, none⟩ = some (.slice A4 n4 c4) ∧ w'.cell? ⟨b0, 4, none⟩ = some (.slice A5 n5 c5) ∧ w'.cell? ⟨b1, 0, none⟩ = some (.int .i64 ag) ∧ w'.cell? ⟨b1, 1, none⟩ = some (.int .i64 ix) ∧ w'.cell? ⟨b1, 2, none⟩ = some (.int .i64 (k : Int)) ∧ w'.cell? ⟨b1, 3, none⟩ = some (.int .i64 ob) ∧ w'.cell? ⟨b1, 4, none⟩ = some (.int .i64 mu) ∧ w'.cell? ⟨b1, 5, none⟩ = some (.int .i64 en) ∧ w'.cell? ⟨b1, 6, none⟩ = some (.int .i64 od) ∧ w'.cell? ⟨b1, 7, none⟩ = some (.int .i64 rd) ∧ w'.cell? ⟨b1, 8, none⟩ = some (.int .i64 wo))
              (first
                | with_reducible assumption
                | exact HK.out _ hbe
                | exact HK.out _ (belowThen (‹Below V.heap.size V _ ∧ _›).1 bk))
              (first
                | (go_at_call 72; (first | with_reducible refine (HNM2.out _ (HP.out _ (‹Below V.heap.size V _ ∧ _›).1)).mono ?_ | with_reducible refine (HNM3.out _ (HP.out _ (‹Below V.heap.size V _ ∧ _›).1)).mono ?_ | refine (HNM3.out _ (HP.out _ (‹Below V.heap.size V _ ∧ _›).1)).mono ?_); rintro e wQ ⟨he, bk⟩; have he : e = .returned (.tuple #[.string (bs y.t), .bool (decide (y.e = 0))]) := he; subst he))
            have hfin := (‹Below V.heap.size V wQ ∧ _›).1
            clear hbe bk
            generalize bs y.t = sy at HAP hst ⊢
            generalize decide (y.e = 0) = dy
            go_wp2
            go_roundw
            case rel => exact ⟨j + 1, by omega, by go_num, by rw [HAP.out], hfin⟩
            case measure => simp [intOf]; omega
          · have hc := hsk.trans hlk
            have hN : S[j].toNat = 119 := by rw [hc]; rfl
            have hNX := HNX.out j hjw
            rw [hlk, HL119.out] at hNX
            have HNL := Lib.hid (fun X => HNU.out 119 (by decide) X)
            rw [show E9.num ⟨ag, ix, (k : Int), ob, mu, en, od, rd, wo⟩ 119 = (0, false) from rfl] at HNL
            rw [show (((119 : UInt8).toNat : Nat) : Int) = (119 : Int) from rfl] at HNL
            have HNK := Lib.hid (fun X => HNL.out X)
            rw [show (119 : Int) = (S[j].toNat : Int) by rw [hN]; rfl] at HNK
            simp only at HNL HNK
            have HAP := Lib.hid ((congrArg bs hNX).trans (app1 _ _))
            have hst : (bs (obW p.muts mu).t).size ≤ 22 := by rw [bsSz9]; exact obLen22 HVLD.out.nm _
            have HNM2 := Lib.hid (fun X hX => HNW.out X hX)
            have HNM3 := Lib.hid (fun X hX => HNW.out X hX)
            generalize obW p.muts mu = y at HAP hst HNM2 HNM3
            clear hNX
            clear hsk hlk hc
            go_wp2_with fail
            clear k0 k1' k2' k3' k4 r0 r1 r2 r3 r4 r5 r6 r7 r8
            go_region_held3 (fun w' => Below V.heap.size V w' ∧ w'.cell? ⟨b0, 0, none⟩ = some (.slice A1 n1 c1) ∧ w'.cell? ⟨b0, 1, none⟩ = some (.slice A2 n2 c2) ∧ w'.cell? ⟨b0, 2, none⟩ = some (.slice A3 n3 c3) ∧ w'.cell? ⟨b0, 3, none⟩ = some (.slice A4 n4 c4) ∧ w'.cell? ⟨b0, 4, none⟩ = some (.slice A5 n5 c5) ∧ w'.cell? ⟨b1, 0, none⟩ = some (.int .i64 ag) ∧ w'.cell? ⟨b1, 1, none⟩ = some (.int .i64 ix) ∧ w'.cell? ⟨b1, 2, none⟩ = some (.int .i64 (k : Int)) ∧ w'.cell? ⟨b1, 3, none⟩ = some (.int .i64 ob) ∧ w'.cell? ⟨b1, 4, none⟩ = some (.int .i64 mu) ∧ w'.cell? ⟨b1, 5, none⟩ = some (.int .i64 en) ∧ w'.cell? ⟨b1, 6, none⟩ = some (.int .i64 od) ∧ w'.cell? ⟨b1, 7, none⟩ = some (.int .i64 rd) ∧ w'.cell? ⟨b1, 8, none⟩ = some (.int .i64 wo))
              (first
                | with_reducible assumption
                | exact HK.out _ hbd
                | exact HK.out _ (belowThen (‹Below V.heap.size V _ ∧ _›).1 bk))
              (first
                | (go_at_call 70; (first | with_reducible refine (HNL.out _).mono ?_ | with_reducible refine (HNK.out _).mono ?_ | refine (HNL.out _).mono ?_); rintro e wO ⟨rfl, bk⟩))
            have hb1 := (‹Below V.heap.size V wO ∧ _›).1
            clear hbd bk
            obtain ⟨q, k0, k1', k2', k3', k4, r0, r1, r2, r3, r4, r5, r6, r7, r8⟩ := HK.out wO hb1
            clear q
            go_wp2_with fail
            refine (HNM2.out _ (HP.out _ hb1)).mono ?_
            rintro e wQ ⟨he, bk⟩
            have he : e = .returned (.tuple #[.string (bs y.t), .bool (decide (y.e = 0))]) := he
            subst he
            have hfin := belowThen hb1 bk
            clear bk k0 k1' k2' k3' k4 r0 r1 r2 r3 r4 r5 r6 r7 r8
            generalize bs y.t = sy at HAP hst ⊢
            generalize decide (y.e = 0) = dy
            go_wp2
            go_roundw
            case rel => exact ⟨j + 1, by omega, by go_num, by rw [HAP.out], hfin⟩
            case measure => simp [intOf]; omega
          · have hc := hsk.trans hlk
            have hN : S[j].toNat = 79 := by rw [hc]; rfl
            have hNX := HNX.out j hjw
            rw [hlk, HL79.out] at hNX
            have HNL := Lib.hid (fun X => HNU.out 79 (by decide) X)
            rw [show E9.num ⟨ag, ix, (k : Int), ob, mu, en, od, rd, wo⟩ 79 = (0, false) from rfl] at HNL
            rw [show (((79 : UInt8).toNat : Nat) : Int) = (79 : Int) from rfl] at HNL
            have HNK := Lib.hid (fun X => HNL.out X)
            rw [show (79 : Int) = (S[j].toNat : Int) by rw [hN]; rfl] at HNK
            simp only at HNL HNK
            have HAP := Lib.hid ((congrArg bs hNX).trans (app1 _ _))
            rw [HOT.out] at HAP
            have hst : (ornOf od).size ≤ 22 := ornOfLen od
            have HOR2 := Lib.hid (fun X => HOR.out X)
            generalize ornOf od = sy at HAP hst HOR2
            clear hNX
            clear hsk hlk hc
            go_wp2_with fail
            clear k0 k1' k2' k3' k4 r0 r1 r2 r3 r4 r5 r6 r7 r8
            go_region_held3 (fun w' => Below V.heap.size V w' ∧ w'.cell? ⟨b0, 0, none⟩ = some (.slice A1 n1 c1) ∧ w'.cell? ⟨b0, 1, none⟩ = some (.slice A2 n2 c2) ∧ w'.cell? ⟨b0, 2, none⟩ = some (.slice A3 n3 c3) ∧ w'.cell? ⟨b0, 3, none⟩ = some (.slice A4 n4 c4) ∧ w'.cell? ⟨b0, 4, none⟩ = some (.slice A5 n5 c5) ∧ w'.cell? ⟨b1, 0, none⟩ = some (.int .i64 ag) ∧ w'.cell? ⟨b1, 1, none⟩ = some (.int .i64 ix) ∧ w'.cell? ⟨b1, 2, none⟩ = some (.int .i64 (k : Int)) ∧ w'.cell? ⟨b1, 3, none⟩ = some (.int .i64 ob) ∧ w'.cell? ⟨b1, 4, none⟩ = some (.int .i64 mu) ∧ w'.cell? ⟨b1, 5, none⟩ = some (.int .i64 en) ∧ w'.cell? ⟨b1, 6, none⟩ = some (.int .i64 od) ∧ w'.cell? ⟨b1, 7, none⟩ = some (.int .i64 rd) ∧ w'.cell? ⟨b1, 8, none⟩ = some (.int .i64 wo))
              (first
                | with_reducible assumption
                | exact HK.out _ hbd
                | exact HK.out _ (belowThen (‹Below V.heap.size V _ ∧ _›).1 bk))
              (first
                | (go_at_call 70; (first | with_reducible refine (HNL.out _).mono ?_ | with_reducible refine (HNK.out _).mono ?_ | refine (HNL.out _).mono ?_); rintro e wO ⟨rfl, bk⟩))
            have hb1 := (‹Below V.heap.size V wO ∧ _›).1
            clear hbd bk
            obtain ⟨q, k0, k1', k2', k3', k4, r0, r1, r2, r3, r4, r5, r6, r7, r8⟩ := HK.out wO hb1
            clear q
            go_wp2_with fail
            refine (HOR2.out _).mono ?_
            rintro e wQ ⟨rfl, bk⟩
            have hfin := belowThen hb1 bk
            clear bk k0 k1' k2' k3' k4 r0 r1 r2 r3 r4 r5 r6 r7 r8
            go_wp2
            go_roundw
            case rel => exact ⟨j + 1, by omega, by go_num, by rw [HAP.out], hfin⟩
            case measure => simp [intOf]; omega
          · have hc := hsk.trans hlk
            have hN : S[j].toNat = 82 := by rw [hc]; rfl
            have hNX := HNX.out j hjw
            rw [hlk, HL82.out] at hNX
            have hnz := H00.out.2 _ (List.getElem_mem hjw)
            rw [hlk, HNE.out] at hnz
            have HIZ := HI64.out 82 (by decide)
            have HNL := Lib.hid (fun X => HNU.out 82 (by decide) X)
            rw [show E9.num ⟨ag, ix, (k : Int), ob, mu, en, od, rd, wo⟩ 82 = (rd, true) from rfl] at HNL
            rw [show (((82 : UInt8).toNat : Nat) : Int) = (82 : Int) from rfl] at HNL
            have HNK := Lib.hid (fun X => HNL.out X)
            rw [show (82 : Int) = (S[j].toNat : Int) by rw [hN]; rfl] at HNK
            simp only at HNL HNK
            rw [show E9.num ⟨ag, ix, (k : Int), ob, mu, en, od, rd, wo⟩ 82 = (rd, true) from rfl] at hnz HIZ
            simp only at hnz HIZ
            have hvz : isVal rd = true := by simpa using hnz
            have HAP := Lib.hid ((congrArg bs hNX).trans (app1 _ _))
            rw [nuText hvz] at HAP
            have HFZ := Lib.hid (fun X => rForm rd _ rfl HIZ.1 HIZ.2 X)
            have hst := itoaSz _ HIZ
            generalize (⟨(Lib.itoa rd).toArray⟩ : ByteArray) = sy at HAP hst HFZ
            clear hNX hnz HIZ hvz
            clear hsk hlk hc
            go_wp2_with fail
            clear k0 k1' k2' k3' k4 r0 r1 r2 r3 r4 r5 r6 r7 r8
            go_region_held3 (fun w' => Below V.heap.size V w' ∧ w'.cell? ⟨b0, 0, none⟩ = some (.slice A1 n1 c1) ∧ w'.cell? ⟨b0, 1, none⟩ = some (.slice A2 n2 c2) ∧ w'.cell? ⟨b0, 2, none⟩ = some (.slice A3 n3 c3) ∧ w'.cell? ⟨b0, 3, none⟩ = some (.slice A4 n4 c4) ∧ w'.cell? ⟨b0, 4, none⟩ = some (.slice A5 n5 c5) ∧ w'.cell? ⟨b1, 0, none⟩ = some (.int .i64 ag) ∧ w'.cell? ⟨b1, 1, none⟩ = some (.int .i64 ix) ∧ w'.cell? ⟨b1, 2, none⟩ = some (.int .i64 (k : Int)) ∧ w'.cell? ⟨b1, 3, none⟩ = some (.int .i64 ob) ∧ w'.cell? ⟨b1, 4, none⟩ = some (.int .i64 mu) ∧ w'.cell? ⟨b1, 5, none⟩ = some (.int .i64 en) ∧ w'.cell? ⟨b1, 6, none⟩ = some (.int .i64 od) ∧ w'.cell? ⟨b1, 7, none⟩ = some (.int .i64 rd) ∧ w'.cell? ⟨b1, 8, none⟩ = some (.int .i64 wo))
              (first
                | with_reducible assumption
                | exact HK.out _ hbd
                | exact HK.out _ (belowThen (‹Below V.heap.size V _ ∧ _›).1 bk))
              (first
                | (go_at_call 70; (first | with_reducible refine (HNL.out _).mono ?_ | with_reducible refine (HNK.out _).mono ?_ | refine (HNL.out _).mono ?_); rintro e wO ⟨rfl, bk⟩))
            have hb1 := (‹Below V.heap.size V wO ∧ _›).1
            clear hbd bk
            obtain ⟨q, k0, k1', k2', k3', k4, r0, r1, r2, r3, r4, r5, r6, r7, r8⟩ := HK.out wO hb1
            clear q
            go_wp2_with fail
            refine (HFZ.out _).mono ?_
            rintro e wQ ⟨rfl, rfl⟩
            clear k0 k1' k2' k3' k4 r0 r1 r2 r3 r4 r5 r6 r7 r8
            go_wp2
            go_roundw
            case rel => exact ⟨j + 1, by omega, by go_num, by rw [HAP.out], hb1⟩
            case measure => simp [intOf]; omega
          · have hc := hsk.trans hlk
            have hN : S[j].toNat = 87 := by rw [hc]; rfl
            have hNX := HNX.out j hjw
            rw [hlk, HL87.out] at hNX
            have hnz := H00.out.2 _ (List.getElem_mem hjw)
            rw [hlk, HNE.out] at hnz
            have HIZ := HI64.out 87 (by decide)
            have HNL := Lib.hid (fun X => HNU.out 87 (by decide) X)
            rw [show E9.num ⟨ag, ix, (k : Int), ob, mu, en, od, rd, wo⟩ 87 = (wo, true) from rfl] at HNL
            rw [show (((87 : UInt8).toNat : Nat) : Int) = (87 : Int) from rfl] at HNL
            have HNK := Lib.hid (fun X => HNL.out X)
            rw [show (87 : Int) = (S[j].toNat : Int) by rw [hN]; rfl] at HNK
            simp only at HNL HNK
            rw [show E9.num ⟨ag, ix, (k : Int), ob, mu, en, od, rd, wo⟩ 87 = (wo, true) from rfl] at hnz HIZ
            simp only at hnz HIZ
            have hvz : isVal wo = true := by simpa using hnz
            have HAP := Lib.hid ((congrArg bs hNX).trans (app1 _ _))
            rw [nuText hvz] at HAP
            have HFZ := Lib.hid (fun X => rForm wo _ rfl HIZ.1 HIZ.2 X)
            have hst := itoaSz _ HIZ
            generalize (⟨(Lib.itoa wo).toArray⟩ : ByteArray) = sy at HAP hst HFZ
            clear hNX hnz HIZ hvz
            clear hsk hlk hc
            go_wp2_with fail
            clear k0 k1' k2' k3' k4 r0 r1 r2 r3 r4 r5 r6 r7 r8
            go_region_held3 (fun w' => Below V.heap.size V w' ∧ w'.cell? ⟨b0, 0, none⟩ = some (.slice A1 n1 c1) ∧ w'.cell? ⟨b0, 1, none⟩ = some (.slice A2 n2 c2) ∧ w'.cell? ⟨b0, 2, none⟩ = some (.slice A3 n3 c3) ∧ w'.cell? ⟨b0, 3, none⟩ = some (.slice A4 n4 c4) ∧ w'.cell? ⟨b0, 4, none⟩ = some (.slice A5 n5 c5) ∧ w'.cell? ⟨b1, 0, none⟩ = some (.int .i64 ag) ∧ w'.cell? ⟨b1, 1, none⟩ = some (.int .i64 ix) ∧ w'.cell? ⟨b1, 2, none⟩ = some (.int .i64 (k : Int)) ∧ w'.cell? ⟨b1, 3, none⟩ = some (.int .i64 ob) ∧ w'.cell? ⟨b1, 4, none⟩ = some (.int .i64 mu) ∧ w'.cell? ⟨b1, 5, none⟩ = some (.int .i64 en) ∧ w'.cell? ⟨b1, 6, none⟩ = some (.int .i64 od) ∧ w'.cell? ⟨b1, 7, none⟩ = some (.int .i64 rd) ∧ w'.cell? ⟨b1, 8, none⟩ = some (.int .i64 wo))
              (first
                | with_reducible assumption
                | exact HK.out _ hbd
                | exact HK.out _ (belowThen (‹Below V.heap.size V _ ∧ _›).1 bk))
              (first
                | (go_at_call 70; (first | with_reducible refine (HNL.out _).mono ?_ | with_reducible refine (HNK.out _).mono ?_ | refine (HNL.out _).mono ?_); rintro e wO ⟨rfl, bk⟩))
            have hb1 := (‹Below V.heap.size V wO ∧ _›).1
            clear hbd bk
            obtain ⟨q, k0, k1', k2', k3', k4, r0, r1, r2, r3, r4, r5, r6, r7, r8⟩ := HK.out wO hb1
            clear q
            go_wp2_with fail
            refine (HFZ.out _).mono ?_
            rintro e wQ ⟨rfl, rfl⟩
            clear k0 k1' k2' k3' k4 r0 r1 r2 r3 r4 r5 r6 r7 r8
            go_wp2
            go_roundw
            case rel => exact ⟨j + 1, by omega, by go_num, by rw [HAP.out], hb1⟩
            case measure => simp [intOf]; omega
          · have hc := hsk.trans hlk
            have hN : S[j].toNat = 78 := by rw [hc]; rfl
            have hNX := HNX.out j hjw
            rw [hlk, HL78.out] at hNX
            have hnz := H00.out.2 _ (List.getElem_mem hjw)
            rw [hlk, HNE.out] at hnz
            have HIZ := HI64.out 78 (by decide)
            have HNL := Lib.hid (fun X => HNU.out 78 (by decide) X)
            rw [show E9.num ⟨ag, ix, (k : Int), ob, mu, en, od, rd, wo⟩ 78 = (en, true) from rfl] at HNL
            rw [show (((78 : UInt8).toNat : Nat) : Int) = (78 : Int) from rfl] at HNL
            have HNK := Lib.hid (fun X => HNL.out X)
            rw [show (78 : Int) = (S[j].toNat : Int) by rw [hN]; rfl] at HNK
            simp only at HNL HNK
            rw [show E9.num ⟨ag, ix, (k : Int), ob, mu, en, od, rd, wo⟩ 78 = (en, true) from rfl] at hnz HIZ
            simp only at hnz HIZ
            have hvz : isVal en = true := by simpa using hnz
            have HAP := Lib.hid ((congrArg bs hNX).trans (app1 _ _))
            rw [nuText hvz] at HAP
            have HFZ := Lib.hid (fun X => rForm en _ rfl HIZ.1 HIZ.2 X)
            have hst := itoaSz _ HIZ
            generalize (⟨(Lib.itoa en).toArray⟩ : ByteArray) = sy at HAP hst HFZ
            clear hNX hnz HIZ hvz
            clear hsk hlk hc
            go_wp2_with fail
            clear k0 k1' k2' k3' k4 r0 r1 r2 r3 r4 r5 r6 r7 r8
            go_region_held3 (fun w' => Below V.heap.size V w' ∧ w'.cell? ⟨b0, 0, none⟩ = some (.slice A1 n1 c1) ∧ w'.cell? ⟨b0, 1, none⟩ = some (.slice A2 n2 c2) ∧ w'.cell? ⟨b0, 2, none⟩ = some (.slice A3 n3 c3) ∧ w'.cell? ⟨b0, 3, none⟩ = some (.slice A4 n4 c4) ∧ w'.cell? ⟨b0, 4, none⟩ = some (.slice A5 n5 c5) ∧ w'.cell? ⟨b1, 0, none⟩ = some (.int .i64 ag) ∧ w'.cell? ⟨b1, 1, none⟩ = some (.int .i64 ix) ∧ w'.cell? ⟨b1, 2, none⟩ = some (.int .i64 (k : Int)) ∧ w'.cell? ⟨b1, 3, none⟩ = some (.int .i64 ob) ∧ w'.cell? ⟨b1, 4, none⟩ = some (.int .i64 mu) ∧ w'.cell? ⟨b1, 5, none⟩ = some (.int .i64 en) ∧ w'.cell? ⟨b1, 6, none⟩ = some (.int .i64 od) ∧ w'.cell? ⟨b1, 7, none⟩ = some (.int .i64 rd) ∧ w'.cell? ⟨b1, 8, none⟩ = some (.int .i64 wo))
              (first
                | with_reducible assumption
                | exact HK.out _ hbd
                | exact HK.out _ (belowThen (‹Below V.heap.size V _ ∧ _›).1 bk))
              (first
                | (go_at_call 70; (first | with_reducible refine (HNL.out _).mono ?_ | with_reducible refine (HNK.out _).mono ?_ | refine (HNL.out _).mono ?_); rintro e wO ⟨rfl, bk⟩))
            have hb1 := (‹Below V.heap.size V wO ∧ _›).1
            clear hbd bk
            obtain ⟨q, k0, k1', k2', k3', k4, r0, r1, r2, r3, r4, r5, r6, r7, r8⟩ := HK.out wO hb1
            clear q
            go_wp2_with fail
            refine (HFZ.out _).mono ?_
            rintro e wQ ⟨rfl, rfl⟩
            clear k0 k1' k2' k3' k4 r0 r1 r2 r3 r4 r5 r6 r7 r8
            go_wp2
            go_roundw
            case rel => exact ⟨j + 1, by omega, by go_num, by rw [HAP.out], hb1⟩
            case measure => simp [intOf]; omega
          · have hc := hsk.trans hlk
            have hN : S[j].toNat = 74 := by rw [hc]; rfl
            have hNX := HNX.out j hjw
            rw [hlk, HL74.out] at hNX
            have hnz := H00.out.2 _ (List.getElem_mem hjw)
            rw [hlk, HNE.out] at hnz
            have HIZ := HI64.out 74 (by decide)
            have HNL := Lib.hid (fun X => HNU.out 74 (by decide) X)
            rw [show E9.num ⟨ag, ix, (k : Int), ob, mu, en, od, rd, wo⟩ 74 = (ob, true) from rfl] at HNL
            rw [show (((74 : UInt8).toNat : Nat) : Int) = (74 : Int) from rfl] at HNL
            have HNK := Lib.hid (fun X => HNL.out X)
            rw [show (74 : Int) = (S[j].toNat : Int) by rw [hN]; rfl] at HNK
            simp only at HNL HNK
            rw [show E9.num ⟨ag, ix, (k : Int), ob, mu, en, od, rd, wo⟩ 74 = (ob, true) from rfl] at hnz HIZ
            simp only at hnz HIZ
            have hvz : isVal ob = true := by simpa using hnz
            have HAP := Lib.hid ((congrArg bs hNX).trans (app1 _ _))
            rw [nuText hvz] at HAP
            have HFZ := Lib.hid (fun X => rForm ob _ rfl HIZ.1 HIZ.2 X)
            have hst := itoaSz _ HIZ
            generalize (⟨(Lib.itoa ob).toArray⟩ : ByteArray) = sy at HAP hst HFZ
            clear hNX hnz HIZ hvz
            clear hsk hlk hc
            go_wp2_with fail
            clear k0 k1' k2' k3' k4 r0 r1 r2 r3 r4 r5 r6 r7 r8
            go_region_held3 (fun w' => Below V.heap.size V w' ∧ w'.cell? ⟨b0, 0, none⟩ = some (.slice A1 n1 c1) ∧ w'.cell? ⟨b0, 1, none⟩ = some (.slice A2 n2 c2) ∧ w'.cell? ⟨b0, 2, none⟩ = some (.slice A3 n3 c3) ∧ w'.cell? ⟨b0, 3, none⟩ = some (.slice A4 n4 c4) ∧ w'.cell? ⟨b0, 4, none⟩ = some (.slice A5 n5 c5) ∧ w'.cell? ⟨b1, 0, none⟩ = some (.int .i64 ag) ∧ w'.cell? ⟨b1, 1, none⟩ = some (.int .i64 ix) ∧ w'.cell? ⟨b1, 2, none⟩ = some (.int .i64 (k : Int)) ∧ w'.cell? ⟨b1, 3, none⟩ = some (.int .i64 ob) ∧ w'.cell? ⟨b1, 4, none⟩ = some (.int .i64 mu) ∧ w'.cell? ⟨b1, 5, none⟩ = some (.int .i64 en) ∧ w'.cell? ⟨b1, 6, none⟩ = some (.int .i64 od) ∧ w'.cell? ⟨b1, 7, none⟩ = some (.int .i64 rd) ∧ w'.cell? ⟨b1, 8, none⟩ = some (.int .i64 wo))
              (first
                | with_reducible assumption
                | exact HK.out _ hbd
                | exact HK.out _ (belowThen (‹Below V.heap.size V _ ∧ _›).1 bk))
              (first
                | (go_at_call 70; (first | with_reducible refine (HNL.out _).mono ?_ | with_reducible refine (HNK.out _).mono ?_ | refine (HNL.out _).mono ?_); rintro e wO ⟨rfl, bk⟩))
            have hb1 := (‹Below V.heap.size V wO ∧ _›).1
            clear hbd bk
            obtain ⟨q, k0, k1', k2', k3', k4, r0, r1, r2, r3, r4, r5, r6, r7, r8⟩ := HK.out wO hb1
            clear q
            go_wp2_with fail
            refine (HFZ.out _).mono ?_
            rintro e wQ ⟨rfl, rfl⟩
            clear k0 k1' k2' k3' k4 r0 r1 r2 r3 r4 r5 r6 r7 r8
            go_wp2
            go_roundw
            case rel => exact ⟨j + 1, by omega, by go_num, by rw [HAP.out], hb1⟩
            case measure => simp [intOf]; omega
          · have hc := hsk.trans hlk
            have hN : S[j].toNat = 69 := by rw [hc]; rfl
            have hNX := HNX.out j hjw
            rw [hlk, HL69.out] at hNX
            by_cases hen : en = -1
            · have HNL := Lib.hid (fun X => HNU.out 69 (by decide) X)
              rw [show E9.num ⟨ag, ix, (k : Int), ob, mu, en, od, rd, wo⟩ 69 = (en, false) from by show (en, !decide (en = -1)) = _; rw [decide_eq_true hen]; rfl] at HNL
              rw [show (((69 : UInt8).toNat : Nat) : Int) = (69 : Int) from rfl] at HNL
              have HNK := Lib.hid (fun X => HNL.out X)
              rw [show (69 : Int) = (S[j].toNat : Int) by rw [hN]; rfl] at HNK
              simp only at HNL HNK
              rw [if_pos hen] at hNX
              have HAP : Hid (et (j + 1) = et j) := Lib.hid (hNX.trans (app0 _))
              clear hNX hen
              clear hsk hlk hc
              go_wp2_with fail
              clear k0 k1' k2' k3' k4 r0 r1 r2 r3 r4 r5 r6 r7 r8
              go_region_held3 (fun w' => Below V.heap.size V w' ∧ w'.cell? ⟨b0, 0, none⟩ = some (.slice A1 n1 c1) ∧ w'.cell? ⟨b0, 1, none⟩ = some (.slice A2 n2 c2) ∧ w'.cell? ⟨b0, 2, none⟩ = some (.slice A3 n3 c3) ∧ w'.cell? ⟨b0, 3, none⟩ = some (.slice A4 n4 c4) ∧ w'.cell? ⟨b0, 4, none⟩ = some (.slice A5 n5 c5) ∧ w'.cell? ⟨b1, 0, none⟩ = some (.int .i64 ag) ∧ w'.cell? ⟨b1, 1, none⟩ = some (.int .i64 ix) ∧ w'.cell? ⟨b1, 2, none⟩ = some (.int .i64 (k : Int)) ∧ w'.cell? ⟨b1, 3, none⟩ = some (.int .i64 ob) ∧ w'.cell? ⟨b1, 4, none⟩ = some (.int .i64 mu) ∧ w'.cell? ⟨b1, 5, none⟩ = some (.int .i64 en) ∧ w'.cell? ⟨b1, 6, none⟩ = some (.int .i64 od) ∧ w'.cell? ⟨b1, 7, none⟩ = some (.int .i64 rd) ∧ w'.cell? ⟨b1, 8, none⟩ = some (.int .i64 wo))
                (first
                  | with_reducible assumption
                  | exact HK.out _ hbd
                  | exact HK.out _ (belowThen (‹Below V.heap.size V _ ∧ _›).1 bk))
                (first
                  | (go_at_call 70; (first | with_reducible refine (HNL.out _).mono ?_ | with_reducible refine (HNK.out _).mono ?_ | refine (HNL.out _).mono ?_); rintro e wO ⟨rfl, bk⟩))
              have hb1 := (‹Below V.heap.size V wO ∧ _›).1
              clear hbd bk
              obtain ⟨q, k0, k1', k2', k3', k4, r0, r1, r2, r3, r4, r5, r6, r7, r8⟩ := HK.out wO hb1
              clear q
              clear k0 k1' k2' k3' k4 r0 r1 r2 r3 r4 r5 r6 r7 r8
              go_wp2
              go_roundw
              case rel => exact ⟨j + 1, by omega, by go_num, by rw [HAP.out], hb1⟩
              case measure => simp [intOf]; omega
            · have hnz := H00.out.2 _ (List.getElem_mem hjw)
              rw [hlk, HNE.out] at hnz
              have HIZ := HI64.out 69 (by decide)
              have HNL := Lib.hid (fun X => HNU.out 69 (by decide) X)
              rw [show E9.num ⟨ag, ix, (k : Int), ob, mu, en, od, rd, wo⟩ 69 = (en, true) from by show (en, !decide (en = -1)) = _; rw [decide_eq_false hen]; rfl] at HNL
              rw [show (((69 : UInt8).toNat : Nat) : Int) = (69 : Int) from rfl] at HNL
              have HNK := Lib.hid (fun X => HNL.out X)
              rw [show (69 : Int) = (S[j].toNat : Int) by rw [hN]; rfl] at HNK
              simp only at HNL HNK
              rw [show E9.num ⟨ag, ix, (k : Int), ob, mu, en, od, rd, wo⟩ 69 = (en, true) from by show (en, !decide (en = -1)) = _; rw [decide_eq_false hen]; rfl] at hnz HIZ
              rw [if_neg hen] at hNX
              simp only at hnz HIZ
              have hvz : isVal en = true := by simpa using hnz
              have HAP := Lib.hid ((congrArg bs hNX).trans (appE _ _))
              rw [nuText hvz] at HAP
              have HFZ := Lib.hid (fun X => rForm en _ rfl HIZ.1 HIZ.2 X)
              have hst := itoaSz _ HIZ
              generalize (⟨(Lib.itoa en).toArray⟩ : ByteArray) = sy at HAP hst HFZ
              clear hNX hnz HIZ hvz
              clear hen
              clear hsk hlk hc
              go_wp2_with fail
              clear k0 k1' k2' k3' k4 r0 r1 r2 r3 r4 r5 r6 r7 r8
              go_region_held3 (fun w' => Below V.heap.size V w' ∧ w'.cell? ⟨b0, 0, none⟩ = some (.slice A1 n1 c1) ∧ w'.cell? ⟨b0, 1, none⟩ = some (.slice A2 n2 c2) ∧ w'.cell? ⟨b0, 2, none⟩ = some (.slice A3 n3 c3) ∧ w'.cell? ⟨b0, 3, none⟩ = some (.slice A4 n4 c4) ∧ w'.cell? ⟨b0, 4, none⟩ = some (.slice A5 n5 c5) ∧ w'.cell? ⟨b1, 0, none⟩ = some (.int .i64 ag) ∧ w'.cell? ⟨b1, 1, none⟩ = some (.int .i64 ix) ∧ w'.cell? ⟨b1, 2, none⟩ = some (.int .i64 (k : Int)) ∧ w'.cell? ⟨b1, 3, none⟩ = some (.int .i64 ob) ∧ w'.cell? ⟨b1, 4, none⟩ = some (.int .i64 mu) ∧ w'.cell? ⟨b1, 5, none⟩ = some (.int .i64 en) ∧ w'.cell? ⟨b1, 6, none⟩ = some (.int .i64 od) ∧ w'.cell? ⟨b1, 7, none⟩ = some (.int .i64 rd) ∧ w'.cell? ⟨b1, 8, none⟩ = some (.int .i64 wo))
                (first
                  | with_reducible assumption
                  | exact HK.out _ hbd
                  | exact HK.out _ (belowThen (‹Below V.heap.size V _ ∧ _›).1 bk))
                (first
                  | (go_at_call 70; (first | with_reducible refine (HNL.out _).mono ?_ | with_reducible refine (HNK.out _).mono ?_ | refine (HNL.out _).mono ?_); rintro e wO ⟨rfl, bk⟩))
              have hb1 := (‹Below V.heap.size V wO ∧ _›).1
              clear hbd bk
              obtain ⟨q, k0, k1', k2', k3', k4, r0, r1, r2, r3, r4, r5, r6, r7, r8⟩ := HK.out wO hb1
              clear q
              go_wp2_with fail
              refine (HFZ.out _).mono ?_
              rintro e wQ ⟨rfl, rfl⟩
              clear k0 k1' k2' k3' k4 r0 r1 r2 r3 r4 r5 r6 r7 r8
              go_wp2
              go_roundw
              case rel => exact ⟨j + 1, by omega, by go_num, by rw [HAP.out], hb1⟩
              case measure => simp [intOf]; omega
        · have hjw : j = ws.length := by rw [← HSL.out]; omega
          have HZ2 := Lib.hid HZ.out
          rw [← hjw] at HZ2
          clear hjw
          go_wp2
          go_ret2
          exact ⟨HZ2.out.symm, belowThen HBB.out hb⟩
    · have hw' : (wres != 0) = true := by simpa using hw
      have HZ := Lib.hid (HR3.out (by first | trivial | rfl) hw)
      clear hw
      go_wp2
      go_ret2
      exact ⟨HZ.out.symm, belowThen HBB.out HS2.out⟩
  · have hk1' : (k1 != 0) = true := by simpa using hk1
    have HZ := Lib.hid (HR1.out hk1)
    clear hk1
    go_wp2_with fail
    refine (HCK.out _ (HP.out _ (Below.refl _ _))).mono ?_
    rintro e w1 ⟨rfl, q1⟩
    go_wp2
    go_ret2
    exact ⟨HZ.out.symm, belowThen HBB.out q1⟩
end Go.Proofs.YtnckpjcfgeajbaaGreatDoor
