/-
  What disasm.Program has written at each place; a line whose words are written out.
-/
import Derived.Test.YtnckpjcfgeajbaaGreatDoorZmC
namespace Go.Proofs.YtnckpjcfgeajbaaGreatDoor
open Go Go.RowKit

theorem itLen64 {n : Int} (h : In64 n) : (Lib.itoa n).length ≤ 21 := Lib.itoa_length_le n h.1 h.2
theorem rgLen {n : Int} (h : In64 n) : (rgW n).t.length ≤ 22 := by
  have := itLen64 h
  show (114 :: Lib.itoa n).length ≤ 22
  rw [List.length_cons]; omega
theorem nuLen {n : Int} (h : In64 n) : (nuW n).t.length ≤ 22 := by
  have := itLen64 h
  unfold nuW
  split
  · show (Lib.itoa n).length ≤ 22
    omega
  · exact Nat.zero_le _
theorem tgLen {n : Int} (h : In64 n) : (tgW n).t.length ≤ 22 := by
  have := itLen64 h
  unfold tgW
  split
  · show (Lib.itoa n).length ≤ 22
    omega
  · exact Nat.zero_le _
theorem knLen {s : ByteArray} (h : s.data.toList.length ≤ 22) (E : Int) : (knW s E).t.length ≤ 22 := by
  unfold knW
  split
  · exact Nat.zero_le _
  · exact h
theorem nameOfLen (f : Int) : (nameOf f).data.toList.length ≤ 22 := by
  unfold nameOf
  split
  · have := nameLen f.toNat; omega
  · simp
theorem ornOfLen (f : Int) : (ornOf f).data.toList.length ≤ 22 := by
  unfold ornOf
  split
  · have := ornLen f.toNat; omega
  · simp
theorem obLen22 {l : List ByteArray} (h : ∀ s ∈ l, nameB s = true) (k : Int) : (obW l k).t.length ≤ 22 := Nat.le_trans (obLen h k) (by decide)
theorem opWLen {p : Prg} (hv : p.Vld) {i : I8} (hi : i.Wf) : ∀ x ∈ p.opW i, x.t.length ≤ 22 := by
  unfold Prg.opW
  split
  all_goals (try simp only [List.forall_mem_cons])
  all_goals (repeat' apply And.intro)
  all_goals first
    | exact rgLen hi.a
    | exact rgLen hi.b
    | exact rgLen hi.c
    | exact nuLen hi.n
    | exact tgLen hi.n
    | exact knLen (nameOfLen _) _
    | exact knLen (ornOfLen _) _
    | exact obLen22 hv.vNn _
    | exact obLen22 hv.nm _
    | exact obLen22 hv.nc _
    | exact obLen22 hv.fNn _
    | (intro x hx; simp at hx)
/-- The words of an instruction, joined. -/
theorem sntIns (p : Prg) (i : I8) : snt (mnOf i.op).data.toList (p.opW i) = p.insT i := rfl
set_option maxRecDepth 100000 in
set_option maxHeartbeats 8000000 in
theorem dInstr {a : PgA} {p : Prg} (i : I8) (hi : i.Wf) (w : World) (hP : PgW w a p) (hW : p.Wf) (hL : LaidD w) : Calls Tryz.prog 24 #[a.val, i.val] w fun e w' => e = gvW (p.insR i) ∧ Below w.heap.size w w' := by
  obtain ⟨W, hWE⟩ : ∃ W, w.alloc (.cells a.fs 28) = W := ⟨_, rfl⟩
  have hbW : Below w.heap.size w W := by rw [← hWE]; exact belowAlloc w _
  have hB : PBox W w.heap.size a := by rw [← hWE]; exact Blk.new w _ _
  have hz : W.heap.size = w.heap.size + 1 := by rw [← hWE]; simp
  have HCK := Lib.hid (fun X (hX : PgW X a p) (hT : InsT X) (hN : Nm X) => iCheckP X hX hW hT hN)
  have HCI := Lib.hid (fun X (hT : InsT X) (hN : Nm X) => iCheck i i.chk rfl hi X hT hN)
  obtain ⟨r, hr⟩ : ∃ r, p.insR i = r := ⟨_, rfl⟩
  rw [hr]
  have HR1 : Hid (p.chk.1 ≠ 0 → r = .no p.chk.1) := Lib.hid fun h => by rw [← hr, Prg.insR, if_pos h]
  have HR2 : Hid (p.chk.1 = 0 → i.chk ≠ 0 → r = .no i.chk) := Lib.hid fun h h2 => by rw [← hr, Prg.insR, if_neg (by simpa using h), if_pos h2]
  have HR3 : Hid (p.chk.1 = 0 → i.chk = 0 → p.insT i = r) := Lib.hid fun h h2 => by rw [← hr, Prg.insR, if_neg (by simpa using h), if_neg (by simpa using h2)]
  have HMN := Lib.hid (fun X (hT : InsT X) => (iMnem i.op (mnOf i.op) rfl X hT).mono fun e w' ⟨h1, h2⟩ => (⟨h1, h2 ▸ Below.refl _ _⟩ : _ ∧ Below X.heap.size X w'))
  have HOP := Lib.hid (fun (ho : 1 ≤ i.op ∧ i.op ≤ 22) X (hX : PgW X a p) (hT : LaidD X) => iOperands i hi ho X hX hT)
  have HSN := Lib.hid (fun (hv : p.Vld) A n c X (hX : WdL X A n c (p.opW i)) => iSentence (mnOf i.op) (Nat.le_trans (mnOfLen i.op) (by decide)) (p.opW i) (fun x hx => Nat.le_trans (opWLen hv hi x hx) (by decide)) A n c X hX)
  have HGO : Hid (i.chk = 0 → 1 ≤ i.op ∧ i.op ≤ 22) := Lib.hid fun h => (I8.good h).op
  rw [sntIns] at HSN
  generalize p.insT i = rt at HR3 HSN
  generalize i.chk = ci at *
  have hchk : ∃ k1 k2 k3, p.chk = (k1, k2, k3) := ⟨_, _, _, rfl⟩
  obtain ⟨k1, k2, k3, hchk⟩ := hchk
  have HVL : Hid (k1 = 0 → p.Vld) := Lib.hid fun h => p.vld (by rw [hchk]; exact h)
  rw [hchk] at HR1 HR2 HR3
  simp only at HR1 HR2 HR3
  simp only [hchk, err3] at HCK
  generalize p.opW i = ws at HOP HSN
  generalize mnOf i.op = mno at HMN HSN
  obtain ⟨op, a', b', c', obj, n, fn, ord⟩ := i
  obtain ⟨V, hVE⟩ : ∃ V, W.alloc (.cells #[.int .i64 op, .int .i64 a', .int .i64 b', .int .i64 c', .int .i64 obj, .int .i64 n, .int .i64 fn, .int .i64 ord] 41) = V := ⟨_, rfl⟩
  have hbV : Below W.heap.size W V := by rw [← hVE]; exact belowAlloc W _
  have hI : Blk V W.heap.size 41 #[.int .i64 op, .int .i64 a', .int .i64 b', .int .i64 c', .int .i64 obj, .int .i64 n, .int .i64 fn, .int .i64 ord] := by rw [← hVE]; exact Blk.new W _ _
  rw [hz] at hI
  have hbB := belowThen hbW hbV
  have HKB := Lib.hid (hB.below hbV)
  have HKI := Lib.hid hI
  have HL := Lib.hid (fun X (hX : Below V.heap.size V X) => (hL.below hbB).below hX)
  have HP := Lib.hid (fun X (hX : Below V.heap.size V X) => (hP.below hbB).below hX)
  obtain ⟨A1, n1, c1, A2, n2, c2, A3, n3, c3, A4, n4, c4, A5, n5, c5⟩ := a
  simp only [PgA.val, PgA.fs, I8.val] at *
  obtain ⟨b0, hb0⟩ : ∃ b0, w.heap.size = b0 := ⟨_, rfl⟩
  obtain ⟨b1, hb1⟩ : ∃ b1, w.heap.size + 1 = b1 := ⟨_, rfl⟩
  have HBB := Lib.hid hbB
  have HB0 := Lib.hid hb0
  have HB1 := Lib.hid hb1
  have HK : Hid (∀ X, Below V.heap.size V X → Below V.heap.size V X ∧ X.cell? ⟨b0, 0, none⟩ = some (.slice A1 n1 c1) ∧ X.cell? ⟨b0, 1, none⟩ = some (.slice A2 n2 c2) ∧ X.cell? ⟨b0, 2, none⟩ = some (.slice A3 n3 c3) ∧ X.cell? ⟨b0, 3, none⟩ = some (.slice A4 n4 c4) ∧ X.cell? ⟨b0, 4, none⟩ = some (.slice A5 n5 c5) ∧ X.cell? ⟨b1, 0, none⟩ = some (.int .i64 op) ∧ X.cell? ⟨b1, 1, none⟩ = some (.int .i64 a') ∧ X.cell? ⟨b1, 2, none⟩ = some (.int .i64 b') ∧ X.cell? ⟨b1, 3, none⟩ = some (.int .i64 c') ∧ X.cell? ⟨b1, 4, none⟩ = some (.int .i64 obj) ∧ X.cell? ⟨b1, 5, none⟩ = some (.int .i64 n) ∧ X.cell? ⟨b1, 6, none⟩ = some (.int .i64 fn) ∧ X.cell? ⟨b1, 7, none⟩ = some (.int .i64 ord)) := by
    refine Lib.hid fun X hX => ?_
    obtain ⟨g0, g1, g2, g3, g4⟩ := (HKB.out.below hX).facts
    have hJ := HKI.out.below' hX
    rw [hb1] at hJ
    rw [hb0] at g0 g1 g2 g3 g4
    exact ⟨hX, g0, g1, g2, g3, g4, hJ.cell 0, hJ.cell 1, hJ.cell 2, hJ.cell 3, hJ.cell 4, hJ.cell 5, hJ.cell 6, hJ.cell 7⟩
  have HWE := Lib.hid hWE
  have HVE := Lib.hid hVE
  clear hP hL hB hbW hbV hWE hVE hI hbB hb0 hb1 HKB HKI hi hr hchk hW
  go_enter Tryz.func24, Tryz.ntmps24
  go_wp2_with fail
  rw [HWE.out, HVE.out]
  rw [HB1.out, HB0.out]
  obtain ⟨k, k0, k1', k2', k3', k4, r0, r1, r2, r3, r4, r5, r6, r7⟩ := HK.out V (Below.refl _ _)
  clear k
  by_cases hk1 : k1 = 0
  · subst hk1
    go_wp2_with fail
    refine (HCK.out _ (HP.out _ (Below.refl _ _)) (HL.out _ (Below.refl _ _)).ins (HL.out _ (Below.refl _ _)).nm).mono ?_
    rintro e w1 ⟨rfl, b1'⟩
    clear k0 k1' k2' k3' k4 r0 r1 r2 r3 r4 r5 r6 r7
    obtain ⟨hS, k0, k1', k2', k3', k4, r0, r1, r2, r3, r4, r5, r6, r7⟩ := HK.out w1 b1'
    have HS1 := Lib.hid hS
    clear hS b1'
    by_cases hc : ci = 0
    · subst hc
      have HZ := Lib.hid (HR3.out (by first | trivial | rfl) (by first | trivial | rfl))
      go_wp2_with fail
      refine (HCI.out _ (HL.out _ HS1.out).ins (HL.out _ HS1.out).nm).mono ?_
      rintro e w2 ⟨rfl, b2⟩
      have HS2 := Lib.hid (belowThen HS1.out b2)
      clear k0 k1' k2' k3' k4 r0 r1 r2 r3 r4 r5 r6 r7 b2
      obtain ⟨hS, k0, k1', k2', k3', k4, r0, r1, r2, r3, r4, r5, r6, r7⟩ := HK.out w2 HS2.out
      have hbd : Below V.heap.size V w2.drew := hS.drew
      clear hS
      have HO2 := Lib.hid (HGO.out (by first | trivial | rfl))
      have HV2 := Lib.hid (HVL.out (by first | trivial | rfl))
      go_wp2_with fail
      go_region_held3 (fun w' => Below V.heap.size V w' ∧ w'.cell? ⟨b0, 0, none⟩ = some (.slice A1 n1 c1) ∧ w'.cell? ⟨b0, 1, none⟩ = some (.slice A2 n2 c2) ∧ w'.cell? ⟨b0, 2, none⟩ = some (.slice A3 n3 c3) ∧ w'.cell? ⟨b0, 3, none⟩ = some (.slice A4 n4 c4) ∧ w'.cell? ⟨b0, 4, none⟩ = some (.slice A5 n5 c5) ∧ w'.cell? ⟨b1, 0, none⟩ = some (.int .i64 op) ∧ w'.cell? ⟨b1, 1, none⟩ = some (.int .i64 a') ∧ w'.cell? ⟨b1, 2, none⟩ = some (.int .i64 b') ∧ w'.cell? ⟨b1, 3, none⟩ = some (.int .i64 c') ∧ w'.cell? ⟨b1, 4, none⟩ = some (.int .i64 obj) ∧ w'.cell? ⟨b1, 5, none⟩ = some (.int .i64 n) ∧ w'.cell? ⟨b1, 6, none⟩ = some (.int .i64 fn) ∧ w'.cell? ⟨b1, 7, none⟩ = some (.int .i64 ord))
        (first
          | with_reducible assumption
          | with_reducible exact HK.out _ hbd
          | exact HK.out _ (belowThen (‹Below V.heap.size V _ ∧ _›).1 bk))
        (first
          | (go_at_call 57; refine (HMN.out _ (HL.out _ (‹Below V.heap.size V _ ∧ _›).1).ins).mono ?_; rintro e wM ⟨rfl, bk⟩)
          | (go_at_call 58; refine (HOP.out HO2.out _ (HP.out _ (‹Below V.heap.size V _ ∧ _›).1) (HL.out _ (‹Below V.heap.size V _ ∧ _›).1)).mono ?_; rintro e wO ⟨⟨A9, n9, c9, rfl, h9⟩, bk⟩; have G9 := Lib.hid h9; clear h9)
          | (go_at_call 56; refine (HSN.out HV2.out A9 n9 c9 _ G9.out).mono ?_; rintro e wS ⟨he, bk⟩; have he : e = .returned (.tuple #[.string (bs rt.t), .int .i64 rt.e]) := he; subst he))
      have hfin := (‹Below V.heap.size V wS ∧ _›).1
      have HFIN := Lib.hid (belowThen HBB.out hfin)
      clear k0 k1' k2' k3' k4 r0 r1 r2 r3 r4 r5 r6 r7 hbd bk hfin
      generalize hs : bs rt.t = s at *
      have HS := Lib.hid hs
      clear hs
      go_wp2
      go_ret2
      exact ⟨by rw [← HZ.out, gvW, HS.out]; rfl, HFIN.out⟩
    · have hc' : (ci != 0) = true := by simpa using hc
      have HZ := Lib.hid (HR2.out (by first | trivial | rfl) hc)
      clear hc
      go_wp2_with fail
      refine (HCI.out _ (HL.out _ HS1.out).ins (HL.out _ HS1.out).nm).mono ?_
      rintro e w2 ⟨rfl, b2⟩
      have HS2 := Lib.hid (belowThen HS1.out b2)
      go_wp2
      go_ret2
      exact ⟨by rw [HZ.out]; rfl, belowThen HBB.out HS2.out⟩
  · have hk1' : (k1 != 0) = true := by simpa using hk1
    have HZ := Lib.hid (HR1.out hk1)
    clear hk1
    go_wp2_with fail
    refine (HCK.out _ (HP.out _ (Below.refl _ _)) (HL.out _ (Below.refl _ _)).ins (HL.out _ (Below.refl _ _)).nm).mono ?_
    rintro e w1 ⟨rfl, b1'⟩
    go_wp2
    go_ret2
    exact ⟨by rw [HZ.out]; rfl, belowThen HBB.out b1'⟩
end Go.Proofs.YtnckpjcfgeajbaaGreatDoor

namespace Go.Proofs.YtnckpjcfgeajbaaGreatDoor
open Go Go.RowKit

abbrev IsB (B b : Nat) (l : List UInt8) (w : World) : Prop := Lib.IsBuilder 105 5 B b (Lib.byteCells l) w
/-- Blocks that hold something else than bytes, other than b, are as they were. -/
def Stay (b : Nat) (w w' : World) : Prop := ∀ j cs T z, w.heap[j]? = some (.cells cs T z) → T ≠ 5 → j ≠ b → w'.heap[j]? = w.heap[j]?
theorem Stay.blk {b : Nat} {w w' : World} (h : Stay b w w') {j : Nat} {T : TypeId} {cs : Array Value} (hk : Blk w j T cs) (hT : T ≠ 5) (hj : j ≠ b) : Blk w' j T cs := (h _ _ _ _ hk hT hj).trans hk
theorem bLen (B b : Nat) (l : List UInt8) (w : World) (h : IsB B b l w) :
    Calls Tryz.prog 59 #[.pointer (some ⟨b, 0, none⟩)] w fun e w' => e = .returned (.int .i64 (l.length : Nat)) ∧ w = w' := by
  have key : ∃ p v, w.heap[b]? = some (.cells #[p, v] 105 (0, 0)) ∧ ∃ A c, v = .slice A l.length c ∧ l.length ≤ c ∧ c ≤ maxLen := by
    have aux : ∀ p, Lib.BuilderAt 105 5 B b p (Lib.byteCells l) w → ∃ p v, w.heap[b]? = some (.cells #[p, v] 105 (0, 0)) ∧ ∃ A c, v = .slice A l.length c ∧ l.length ≤ c ∧ c ≤ maxLen := by
      rintro p ⟨_, v, hv, hown, _⟩
      obtain ⟨A, c, e, _, hr, _⟩ := Rds.ofOwn hown
      rw [Lib.byteCells_length] at e
      have h1 := hr.le
      rw [Lib.byteCells_length] at h1
      exact ⟨p, v, hv, A, c, e, h1, hr.max⟩
    exact h.elim (aux _) (aux _)
  obtain ⟨p, v, hb, A, c, rfl, h1, h2⟩ := key
  have c1 : w.cell? ⟨b, 1, none⟩ = some (.slice A l.length c) := by rw [Lib.cell_of_heap hb]; rfl
  unfold maxLen at h2
  clear hb h
  generalize l.length = n at *
  go_enter Tryz.func59, Tryz.ntmps59
  go_wp2
  go_ret
  exact ⟨rfl, rfl⟩
theorem bnd2 {m n : Nat} (h1 : m ≤ 1000000) (h2 : n ≤ 1000000) : m + n ≤ 140737488355328 := by omega
/-- What a line gives: the builder holds the words, joined, and a line feed. -/
def GivesLn (B b : Nat) (l : List UInt8) (w : World) (e : Ending) (w' : World) : Prop := e = .returned (.tuple #[]) ∧ IsB B b l w' ∧ Below B w w' ∧ Stay b w w'
set_option maxHeartbeats 1000000 in
theorem dLine (B b g c : Nat) (l L : List UInt8) (xs : List ByteArray) (n : Nat) (hn : xs.length = n) (w : World) (hcells : ∀ (j : Nat) x, xs[j]? = some x → w.cell? ⟨g, 0 + j, none⟩ = some (.string x)) (hg : g < w.heap.size) (hc : n ≤ c) (h16 : n ≤ 16)
    (hL : Lib.join (xs.map (·.data.toList)) [32] ++ [10] = L) (hll : L.length ≤ 1000000) (hb : IsB B b l w) (hl : l.length ≤ 1000000) (hB : B ≤ w.heap.size) :
    Calls Tryz.prog 52 #[.slice (some ⟨g, 0, none⟩) n c, .pointer (some ⟨b, 0, none⟩)] w (GivesLn B b (l ++ L) w) := by
  subst hn
  have hjl : (Lib.join (xs.map (·.data.toList)) [32]).length ≤ 1000000 := by
    rw [← hL, List.length_append] at hll; omega
  have HJ := Lib.hid (Tryz.strings_Join g 0 c xs ⟨#[32]⟩ w hcells hg (by omega) hc (by
    show (Lib.join (xs.map (·.data.toList)) [32]).length ≤ 140737488355328
    omega))
  have HJE : Hid (∀ J, (⟨(Lib.join (xs.map (·.data.toList)) [32]).toArray⟩ : ByteArray) = J → Lib.strCells (J ++ ⟨#[10]⟩) = Lib.byteCells L ∧ (J ++ ⟨#[10]⟩).size = L.length ∧ J.size ≤ 1000000) := Lib.hid fun J hJ => by
    have e : J ++ ⟨#[10]⟩ = bs L := by
      rw [← hL, ← hJ, bsApp]; rfl
    refine ⟨strBs e.symm, by rw [e]; simp [bs, ByteArray.size], ?_⟩
    rw [← hJ]
    exact Nat.le_trans (Nat.le_of_eq (by simp [ByteArray.size])) hjl
  obtain ⟨J, hJ⟩ : ∃ J, (⟨(Lib.join (xs.map (·.data.toList)) [32]).toArray⟩ : ByteArray) = J := ⟨_, rfl⟩
  have HJJ := Lib.hid (HJE.out J hJ)
  have HJ2 : Hid (Calls Tryz.prog 54 #[.slice (some ⟨g, 0, none⟩) xs.length c, .string ⟨#[32]⟩] w fun e w' => e = .returned (.string J) ∧ Below w.heap.size w w') := Lib.hid (by rw [← hJ]; exact HJ.out)
  have HB := Lib.hid hb
  have HBL := Lib.hid hB
  have HLL := Lib.hid hl
  have hJs : J.size ≤ 1000000 := HJJ.out.2.2
  have HL2 := Lib.hid hll
  have hbd : (Lib.byteCells l).length + (J ++ ⟨#[10]⟩).size ≤ 140737488355328 := by
    rw [Lib.byteCells_length, HJJ.out.2.1]
    exact bnd2 hl hll
  have HWR := Lib.hid (fun X (hX : IsB B b l X) (hBX : B ≤ X.heap.size) => bWrite B b (Lib.byteCells l) (J ++ ⟨#[10]⟩) X hX hbd hBX)
  clear hbd
  clear hcells hL hjl HJ HJE hJ hb hB hl hll hc hg h16
  generalize xs.length = n at *
  go_enter Tryz.func52, Tryz.ntmps52
  go_wp2_with fail
  refine HJ2.out.mono ?_
  rintro e w1 ⟨rfl, b1⟩
  have B1 := Lib.hid b1
  clear b1
  go_wp2_with fail
  refine (HWR.out w1 (isBuilderBelow HB.out B1.out) (Nat.le_trans HBL.out B1.out.size)).mono ?_
  rintro e w2 ⟨⟨v, rfl⟩, h2, b2, s2⟩
  have H2 := Lib.hid h2
  have B2 := Lib.hid b2
  have S2 := Lib.hid s2
  clear h2 b2 s2
  go_wp2
  go_end0
  refine ⟨rfl, ?_, (B1.out.mono HBL.out).trans B2.out, ?_⟩
  · have := H2.out
    rw [HJJ.out.1, ← Lib.byteCells_append] at this
    exact this
  · intro j cs T z hj hT hjb
    have hlt : j < w.heap.size := (Array.getElem?_eq_some_iff.1 hj).1
    have e1 := B1.out.block j hlt
    exact (S2.out j cs T z (e1.trans hj) hT hjb).trans e1
end Go.Proofs.YtnckpjcfgeajbaaGreatDoor

namespace Go.Proofs.YtnckpjcfgeajbaaGreatDoor
open Go Go.RowKit

/-- What is written behind a variables, b mutexes, c condition variables, d functions and e threads. -/
def Prg.tA (p : Prg) (a b c d e : Nat) : List UInt8 := (p.vars.take a).flatMap lVar ++ (p.muts.take b).flatMap lMut ++ (p.conds.take c).flatMap lCon ++ (p.funcs.take d).flatMap (tFun p) ++ (p.thr.take e).flatMap (lThr p)
theorem tA0 (p : Prg) : p.tA 0 0 0 0 0 = [] := rfl
theorem fTake {α : Type} (g : α → List UInt8) {l : List α} {k : Nat} (h : k < l.length) : (l.take (k + 1)).flatMap g = (l.take k).flatMap g ++ g l[k] := by
  rw [List.take_succ_eq_append_getElem h, List.flatMap_append]; simp
theorem tAv {p : Prg} {k : Nat} (h : k < p.vars.length) : p.tA (k + 1) 0 0 0 0 = p.tA k 0 0 0 0 ++ lVar p.vars[k] := by
  unfold Prg.tA; rw [fTake lVar h]; simp
theorem tAm {p : Prg} {a k : Nat} (h : k < p.muts.length) : p.tA a (k + 1) 0 0 0 = p.tA a k 0 0 0 ++ lMut p.muts[k] := by
  unfold Prg.tA; rw [fTake lMut h]; simp
theorem tAc {p : Prg} {a b k : Nat} (h : k < p.conds.length) : p.tA a b (k + 1) 0 0 = p.tA a b k 0 0 ++ lCon p.conds[k] := by
  unfold Prg.tA; rw [fTake lCon h]; simp
theorem tAf {p : Prg} {a b c k : Nat} (h : k < p.funcs.length) : p.tA a b c (k + 1) 0 = p.tA a b c k 0 ++ tFun p p.funcs[k] := by
  unfold Prg.tA; rw [fTake (tFun p) h]; simp
theorem tAt {p : Prg} {a b c d k : Nat} (h : k < p.thr.length) : p.tA a b c d (k + 1) = p.tA a b c d k ++ lThr p p.thr[k] := by
  unfold Prg.tA; rw [fTake (lThr p) h]; simp
theorem tAll (p : Prg) : p.tA p.vars.length p.muts.length p.conds.length p.funcs.length p.thr.length = p.txt := by
  unfold Prg.tA Prg.txt
  simp only [List.take_length]
theorem fLen {α : Type} {g : α → List UInt8} {B : Nat} {l : List α} (h : ∀ x ∈ l, (g x).length ≤ B) (k : Nat) : ((l.take k).flatMap g).length ≤ l.length * B := by
  have h1 := flatLen (l := l.take k) (g := g) (B := B) fun x hx => h x (List.mem_of_mem_take hx)
  have h2 : (l.take k).length ≤ l.length := by rw [List.length_take]; omega
  exact Nat.le_trans h1 (Nat.mul_le_mul_right B h2)
theorem tALen {p : Prg} (hv : p.Vld) (hw : p.Wf) (a b c d e : Nat) : (p.tA a b c d e).length ≤ 100000 := by
  have h1 := fLen (lVarLen hv) a
  have h2 := fLen (lMutLen hv) b
  have h3 := fLen (lConLen hv) c
  have h4 := fLen (tFunLen hv hw) d
  have h5 := fLen (lThrLen hv) e
  have c1 := Nat.mul_le_mul_right 50 hv.cv
  have c2 := Nat.mul_le_mul_right 50 hv.cm
  have c3 := Nat.mul_le_mul_right 50 hv.cc
  have c4 := Nat.mul_le_mul_right 9700 hv.cf
  have c5 := Nat.mul_le_mul_right 60 hv.t8
  simp only [Prg.tA, List.length_append]; omega
/-- .. and inside function k behind j instructions. -/
def Prg.tI (p : Prg) (a b c k j : Nat) (f : ByteArray × List I8) : List UInt8 := p.tA a b c k 0 ++ lFun f.1 ++ (f.2.take j).flatMap (lIns p)
theorem tI0 (p : Prg) (a b c k : Nat) (f : ByteArray × List I8) : p.tI a b c k 0 f = p.tA a b c k 0 ++ lFun f.1 := by simp [Prg.tI]
theorem tIn {p : Prg} {a b c k j : Nat} {f : ByteArray × List I8} (h : j < f.2.length) : p.tI a b c k (j + 1) f = p.tI a b c k j f ++ lIns p f.2[j] := by
  unfold Prg.tI; rw [fTake (lIns p) h]; simp
theorem tIe {p : Prg} {a b c k : Nat} (h : k < p.funcs.length) : p.tI a b c k p.funcs[k].2.length p.funcs[k] ++ lEnd = p.tA a b c (k + 1) 0 := by
  rw [tAf h]
  unfold Prg.tI tFun
  rw [List.take_length]
  simp
theorem tILen {p : Prg} (hv : p.Vld) (hw : p.Wf) (a b c k j : Nat) {f : ByteArray × List I8} (hf : f ∈ p.funcs) : (p.tI a b c k j f).length ≤ 200000 := by
  have h1 := tALen hv hw a b c k 0
  have h2 := nameLen16 (hv.nf f hf)
  have h3 := fLen (lInsLen hv hw hf) j
  have h4 := Nat.mul_le_mul_right 150 (hv.cl f hf)
  simp only [Prg.tI, lFun, List.length_append, List.length_cons, List.length_nil]; omega

/-- A line whose words are written out. -/
theorem dLit (B b : Nat) (l L : List UInt8) (xs : List ByteArray) (X : World) (h16 : xs.length ≤ 16) (hL : Lib.join (xs.map (·.data.toList)) [32] ++ [10] = L) (hll : L.length ≤ 1000000) (hb : IsB B b l X) (hl : l.length ≤ 1000000) (hB : B ≤ X.heap.size) :
    Calls Tryz.prog 52 #[.slice (some ⟨X.heap.size, 0, none⟩) xs.length xs.length, .pointer (some ⟨b, 0, none⟩)] (X.alloc (.cells (xs.map Value.string).toArray 9)) fun e w' => e = .returned (.tuple #[]) ∧ IsB B b (l ++ L) w' ∧ Below B X w' ∧ Stay b X w' := by
  have hk := Blk.new X 9 (xs.map Value.string).toArray
  have ha := belowAlloc X (.cells (xs.map Value.string).toArray 9)
  refine (dLine B b X.heap.size xs.length l L xs xs.length rfl _ (fun j x hj => ?_) hk.lt (Nat.le_refl _) h16 hL hll (isBuilderBelow hb ha) hl (Nat.le_trans hB ha.size)).mono ?_
  · have hj2 : j < xs.length := (List.getElem?_eq_some_iff.1 hj).1
    rw [Nat.zero_add]
    rw [Lib.cell_of_heap hk]
    simp [hj]
  · rintro e w' ⟨h1, h2, h3, h4⟩
    refine ⟨h1, h2, (ha.mono hB).trans h3, fun j cs T z hj hT hjb => ?_⟩
    have hlt : j < X.heap.size := (Array.getElem?_eq_some_iff.1 hj).1
    have e1 := ha.block j hlt
    exact (h4 j cs T z (e1.trans hj) hT hjb).trans e1
theorem dLit1 (B b : Nat) (l L : List UInt8) (x : ByteArray) (X : World) (hL : x.data.toList ++ [10] = L) (hll : L.length ≤ 1000000) (hb : IsB B b l X) (hl : l.length ≤ 1000000) (hB : B ≤ X.heap.size) :
    Calls Tryz.prog 52 #[.slice (some ⟨X.heap.size, 0, none⟩) 1 1, .pointer (some ⟨b, 0, none⟩)] (X.alloc (.cells #[.string x] 9)) fun e w' => e = .returned (.tuple #[]) ∧ IsB B b (l ++ L) w' ∧ Below B X w' ∧ Stay b X w' :=
  dLit B b l L [x] X (by simp) (by rw [← hL]; simp [Lib.join_one]) hll hb hl hB
theorem dLit2 (B b : Nat) (l L : List UInt8) (x y : ByteArray) (X : World) (hL : x.data.toList ++ 32 :: (y.data.toList ++ [10]) = L) (hll : L.length ≤ 1000000) (hb : IsB B b l X) (hl : l.length ≤ 1000000) (hB : B ≤ X.heap.size) :
    Calls Tryz.prog 52 #[.slice (some ⟨X.heap.size, 0, none⟩) 2 2, .pointer (some ⟨b, 0, none⟩)] (X.alloc (.cells #[.string x, .string y] 9)) fun e w' => e = .returned (.tuple #[]) ∧ IsB B b (l ++ L) w' ∧ Below B X w' ∧ Stay b X w' :=
  dLit B b l L [x, y] X (by simp) (by rw [← hL]; simp [Lib.join_cons, Lib.joinTail]) hll hb hl hB
theorem dLit3 (B b : Nat) (l L : List UInt8) (x y z : ByteArray) (X : World) (hL : x.data.toList ++ 32 :: (y.data.toList ++ 32 :: (z.data.toList ++ [10])) = L) (hll : L.length ≤ 1000000) (hb : IsB B b l X) (hl : l.length ≤ 1000000) (hB : B ≤ X.heap.size) :
    Calls Tryz.prog 52 #[.slice (some ⟨X.heap.size, 0, none⟩) 3 3, .pointer (some ⟨b, 0, none⟩)] (X.alloc (.cells #[.string x, .string y, .string z] 9)) fun e w' => e = .returned (.tuple #[]) ∧ IsB B b (l ++ L) w' ∧ Below B X w' ∧ Stay b X w' :=
  dLit B b l L [x, y, z] X (by simp) (by rw [← hL]; simp [Lib.join_cons, Lib.joinTail]) hll hb hl hB
/-- What a line gives, as the text that is then written. -/
def GivesX (B b : Nat) (l : List UInt8) (X : World) (e : Ending) (w' : World) : Prop := e = .returned (.tuple #[]) ∧ IsB B b l w' ∧ Below B X w' ∧ Stay b X w'
theorem GivesX.of {B b : Nat} {l m : List UInt8} (h : m = l) (X : World) (e : Ending) (w' : World) (g : e = .returned (.tuple #[]) ∧ IsB B b l w' ∧ Below B X w' ∧ Stay b X w') : GivesX B b m X e w' := by
  subst h; exact g
theorem lVarIs (v : ByteArray × Int) : (⟨#[118, 97, 114]⟩ : ByteArray).data.toList ++ 32 :: (v.1.data.toList ++ 32 :: ((⟨(Lib.itoa v.2).toArray⟩ : ByteArray).data.toList ++ [10])) = lVar v := by simp [lVar]
theorem lMutIs (s : ByteArray) : (⟨#[109, 117, 116, 101, 120]⟩ : ByteArray).data.toList ++ 32 :: (s.data.toList ++ [10]) = lMut s := by simp [lMut]
theorem lConIs (s : ByteArray) : (⟨#[99, 111, 110, 100]⟩ : ByteArray).data.toList ++ 32 :: (s.data.toList ++ [10]) = lCon s := by simp [lCon]
theorem lFunIs (s : ByteArray) : (⟨#[102, 117, 110, 99]⟩ : ByteArray).data.toList ++ 32 :: (s.data.toList ++ [10]) = lFun s := by simp [lFun]
theorem lEndIs : (⟨#[101, 110, 100]⟩ : ByteArray).data.toList ++ [10] = lEnd := rfl
theorem lInsIs (p : Prg) (i : I8) : (⟨#[32, 32]⟩ ++ bs (p.insT i).t : ByteArray).data.toList ++ [10] = lIns p i := by rw [dataApp, bsTo]; simp [lIns]
theorem lThrIs (p : Prg) (t : Int × Int) : (⟨#[116, 104, 114, 101, 97, 100]⟩ : ByteArray).data.toList ++ 32 :: ((p.fN.getD t.1.toNat ⟨#[]⟩).data.toList ++ 32 :: ((⟨(Lib.itoa t.2).toArray⟩ : ByteArray).data.toList ++ [10])) = lThr p t := by simp [lThr]
end Go.Proofs.YtnckpjcfgeajbaaGreatDoor
