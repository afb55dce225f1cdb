/-
  The chapter's example holds: the check that every law makes.
-/
import Derived.Test.YtncpnkincdjgfaaDoorPgE
import Derived.Test.YtncpnkincdjgfaaDoorInsE
import Derived.Test.YtncpnkincdjgfaaDoorInsR
namespace Go.Proofs.YtncpnkincdjgfaaDoor
open Go Go.RowKit

def Prg.szK (p : Prg) (k : Nat) : Nat := ((p.funcs.take k).map fun f => f.2.length).sum
theorem szSucc {p : Prg} {k : Nat} (hk : k < p.funcs.length) : p.szK (k + 1) = p.szK k + (p.funcs[k]).2.length := by
  unfold Prg.szK
  rw [List.take_succ_eq_append_getElem hk, List.map_append, List.sum_append]
  simp
theorem szAll {p : Prg} {k : Nat} (hk : p.funcs.length ≤ k) : p.szK k = p.size := by unfold Prg.szK Prg.size; rw [List.take_of_length_le hk]
theorem sumTake (l : List Nat) (k : Nat) : (l.take k).sum ≤ l.sum := by
  have h : (l.take k ++ l.drop k).sum = l.sum := by rw [List.take_append_drop]
  rw [List.sum_append] at h
  omega
theorem szLe (p : Prg) (k : Nat) : p.szK k ≤ p.size := by
  unfold Prg.szK Prg.size
  rw [List.map_take]
  exact sumTake _ _
set_option maxHeartbeats 1000000 in
theorem iSize {a : PgA} {p : Prg} (w : World) (hP : PgW w a p) (hs : p.size ≤ 1000000) : Calls Tryd.prog 11 #[a.val] w fun e w' => e = .returned (.int .i64 (p.size : Int)) ∧ Below w.heap.size w w' := by
  have HF := Lib.hid (fun X (hX : Below w.heap.size w X) k (hk : k < p.funcs.length) => (hP.below hX).funcs.one hk)
  have HL := Lib.hid hP.l4
  have hle := hP.funcs.le
  have hm := hP.funcs.max
  rw [hP.l4] at hle
  unfold maxLen at hm
  have HSZ := Lib.hid (fun k => szLe p k)
  have HSU := Lib.hid (fun k (hk : k < p.funcs.length) => szSucc hk)
  have HSA := Lib.hid (fun k (hk : p.funcs.length ≤ k) => szAll (p := p) hk)
  obtain ⟨A1, n1, c1, A2, n2, c2, A3, n3, c3, A4, n4, c4, A5, n5, c5⟩ := a
  simp only [PgA.val, PgA.fs] at *
  have hb0 := belowAlloc w (.cells #[.slice A1 n1 c1, .slice A2 n2 c2, .slice A3 n3 c3, .slice A4 n4 c4, .slice A5 n5 c5] 27)
  have hz0 : p.szK 0 = 0 := rfl
  have HZ0 := Lib.hid hz0
  clear hP hz0
  go_enter Tryd.func11, Tryd.ntmps11
  go_wp2
  go_loopw [3, 9] (fun s i wr => ∃ k : Nat, k ≤ n4 ∧ i = .int .i64 k ∧ s = .int .i64 (p.szK k : Int) ∧ Below w.heap.size w wr) (fun _ i _ => n4 - (intOf i).toNat)
  case atStart => exact ⟨0, Nat.zero_le _, rfl, by rw [HZ0.out]; rfl, hb0⟩
  case round =>
    obtain ⟨k, hk, rfl, rfl, hb⟩ := hrel
    by_cases hlt : k < n4
    · have hkl : k < p.funcs.length := by rw [HL.out]; exact hlt
      obtain ⟨q, off, hA, _, h1, v, h2, Ac, nc, cc, rfl, hnc, _⟩ := HF.out wr hb k hkl
      have hA : A4 = _ := hA
      subst hA
      have hs1 := HSZ.out k
      have hs2 := HSZ.out (k + 1)
      have hs3 := HSU.out k hkl
      rw [hnc] at hs3
      obtain ⟨m, hmk⟩ : ∃ m, p.szK k = m := ⟨_, rfl⟩
      obtain ⟨m', hmk'⟩ : ∃ m, p.szK (k + 1) = m := ⟨_, rfl⟩
      rw [hmk] at hs1 hs3 ⊢
      rw [hmk'] at hs2 hs3
      obtain ⟨s1, hs9⟩ : ∃ c, (p.funcs[k]).1 = c := ⟨_, rfl⟩
      rw [hs9] at h1
      have HM := Lib.hid (And.intro hmk' hs3)
      have hle2 : m + nc ≤ 1000000 := by omega
      have hk0 : (0 : Int) ≤ k := by omega
      have hk1 : (k : Int) < n4 := by omega
      have hb2 := fun o => belowThen hb (belowAlloc wr o)
      clear hmk hmk' hs1 hs2 hs3 hs9 hnc
      go_wp2
      go_roundw
      case rel => exact ⟨k + 1, by omega, by go_num, by rw [HM.out.1, HM.out.2]; go_num, hb2 _⟩
      case measure => simp [intOf]; omega
    · have HX := Lib.hid (HSA.out k (by rw [HL.out]; show n4 ≤ k; omega))
      go_wp2
      go_ret
      exact ⟨retIO (by rw [HX.out]), hb⟩

/-! The example. -/
theorem sm64 (n : Int) (h1 : -1000 ≤ n) (h2 : n ≤ 1000) : In64 n := by unfold In64; omega
theorem exWf (t : Int) (ht : In64 t) : (exP t).Wf := by
  refine ⟨fun f hf i hi => ?_, fun v hv => ?_, fun v hv => ?_, fun v hv => ?_, fun f hf => ?_⟩
  · simp only [exP, List.mem_cons, List.not_mem_nil, or_false] at hf
    rcases hf with rfl | rfl
    · simp only [exF, List.mem_cons, List.not_mem_nil, or_false] at hi
      subst hi
      exact ⟨sm64 21 (by decide) (by decide), sm64 1 (by decide) (by decide), sm64 0 (by decide) (by decide), sm64 0 (by decide) (by decide), sm64 1 (by decide) (by decide), sm64 0 (by decide) (by decide), sm64 0 (by decide) (by decide), sm64 0 (by decide) (by decide)⟩
    · simp only [exG, List.mem_cons, List.not_mem_nil, or_false] at hi
      rcases hi with rfl | rfl
      · exact ⟨sm64 7 (by decide) (by decide), sm64 0 (by decide) (by decide), sm64 0 (by decide) (by decide), sm64 0 (by decide) (by decide), sm64 0 (by decide) (by decide), sm64 0 (by decide) (by decide), sm64 0 (by decide) (by decide), sm64 0 (by decide) (by decide)⟩
      · exact ⟨sm64 4 (by decide) (by decide), sm64 0 (by decide) (by decide), sm64 0 (by decide) (by decide), sm64 0 (by decide) (by decide), sm64 0 (by decide) (by decide), ht, sm64 0 (by decide) (by decide), sm64 0 (by decide) (by decide)⟩
  · cases hv
  · cases hv
  · cases hv
  · simp only [exP, List.mem_cons, List.not_mem_nil, or_false] at hf
    rcases hf with rfl | rfl <;> (show 1 ≤ maxLen; decide)
theorem exChk2 : (exP 2).chk.1 = 0 := by decide +kernel
theorem exChk3 : (exP 3).chk = (12, 1, 1) := by decide +kernel
theorem exOk0 : (exP 0).okB = true := by decide +kernel
theorem exName : nameB ⟨#[97, 95, 49]⟩ = true := by decide +kernel
theorem exSize : (exP 0).size = 3 := rfl
theorem exRch {l : List Int} (h : RchL (exP 2) l) : l = [0, 1] := by
  refine h.uniq ⟨by decide, fun y => ⟨fun hy => ?_, fun hy => ?_⟩⟩
  · simp only [List.mem_cons, List.not_mem_nil, or_false] at hy
    have h0 : (exP 2).rch 0 := Prg.rchStart (s := (0, 0)) (by simp [exP]) rfl
    rcases hy with rfl | rfl
    · exact ⟨0, rfl, h0⟩
    · exact ⟨1, rfl, Prg.rchStep h0 (by decide) (by decide +kernel)⟩
  · obtain ⟨f, rfl, hf⟩ := hy
    have hb : f < 2 := rchBound exChk2 hf
    have hc : f = 0 ∨ f = 1 := by omega
    rcases hc with rfl | rfl <;> simp
end Go.Proofs.YtncpnkincdjgfaaDoor

namespace Go.Proofs.YtncpnkincdjgfaaDoor
open Go Go.RowKit

theorem in64n (n : Int) (h1 : -1000 ≤ n) (h2 : n ≤ 1000) : In64 n := sm64 n h1 h2
set_option maxRecDepth 100000 in
set_option maxHeartbeats 4000000 in
theorem livesP (w : World) (hL : Laid7 w) : Calls Tryd.prog 7 #[] w fun e w' => e = .returned (.bool true) ∧ Below w.heap.size w w' := by
  have HL := Lib.hid hL
  clear hL
  go_enter Tryd.func7, Tryd.ntmps7
  go_wp2_with fail
  refine (iExample 2 _).mono ?_
  rintro e w1 ⟨a1, rfl, hp1, b1⟩
  have B1 := b1
  have HL := Lib.hid (HL.out.below b1)
  have HP1 := Lib.hid hp1
  clear hp1
  go_wp2_with fail
  refine (iReach w1 HP1.out (exWf 2 (in64n 2 (by decide) (by decide))) HL.out.ins HL.out.nm exChk2).mono ?_
  rintro e w2 ⟨A, n, c, l, rfl, hr, hn, hl, b2⟩
  have he := exRch hl
  rw [he] at hr hn
  have hn : 2 = n := hn
  subst hn
  have B2 := belowThen B1 b2
  have HL := Lib.hid (HL.out.below b2)
  have HR := Lib.hid hr
  clear hr hl he
  go_wp2_with fail
  refine (iExample 3 _).mono ?_
  rintro e w3 ⟨a3, rfl, hp3, b3⟩
  have B3 := belowThen B2 b3
  have HL := Lib.hid (HL.out.below b3)
  have HR := Lib.hid (HR.out.below b3)
  have HP3 := Lib.hid hp3
  clear hp3
  go_wp2_with fail
  refine (iCheckP w3 HP3.out (exWf 3 (in64n 3 (by decide) (by decide))) HL.out.ins HL.out.nm).mono ?_
  rintro e w4 ⟨he, b4⟩
  rw [exChk3] at he
  have he : e = .returned (.tuple #[.int .i64 12, .int .i64 1, .int .i64 1]) := he
  subst he
  have B4 := belowThen B3 b4
  have HL := Lib.hid (HL.out.below b4)
  have HR := Lib.hid (HR.out.below b4)
  obtain ⟨fb, fo, rfl, _, hcs⟩ := rdFlat HR.out (by decide)
  have hcc := HR.out.le
  have hcm := HR.out.max
  have hc2 : 2 ≤ c := hcc
  unfold maxLen at hcm
  have hc0 : w4.cell? ⟨fb, fo, none⟩ = some (.int .i64 0) := hcs 0 (by decide)
  have hc1 : w4.cell? ⟨fb, fo + 1, none⟩ = some (.int .i64 1) := hcs 1 (by decide)
  clear hcc hcs
  go_wp2_with fail
  refine (iExample 0 _).mono ?_
  rintro e w5 ⟨a5, rfl, hp5, b5⟩
  have B5 := belowThen B4 b5
  have HL := Lib.hid (HL.out.below b5)
  have HP5 := Lib.hid hp5
  clear hp5
  go_wp2_with fail
  refine (iValidP w5 HP5.out (exWf 0 (in64n 0 (by decide) (by decide))) HL.out.ins HL.out.nm).mono ?_
  rintro e w6 ⟨he, b6⟩
  rw [exOk0] at he
  subst he
  have B6 := belowThen B5 b6
  go_wp2_with fail
  refine (iValidName ⟨#[97, 95, 49]⟩ (by decide) _).mono ?_
  rintro e w' ⟨he, rfl⟩
  rw [exName] at he
  subst he
  go_wp2_with fail
  refine (iExample 0 _).mono ?_
  rintro e w7 ⟨a7, rfl, hp7, b7⟩
  have B7 := belowThen B6 b7
  have HP7 := Lib.hid hp7
  clear hp7
  go_wp2_with fail
  refine (iSize w7 HP7.out (by rw [exSize]; decide)).mono ?_
  rintro e w8 ⟨he, b8⟩
  rw [exSize] at he
  have he : e = .returned (.int .i64 3) := he
  subst he
  have B8 := belowThen B7 b8
  go_wp2_with fail
  refine (iConfig 2 1 _).mono ?_
  rintro e w9 ⟨he, b9⟩
  have he : e = .returned (.int .i64 0) := he
  subst he
  have B9 := belowThen B8 b9
  go_wp2
  go_ret
  exact ⟨rfl, B9⟩
end Go.Proofs.YtncpnkincdjgfaaDoor
