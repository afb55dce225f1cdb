/-
  The chapter's example: the contract of the function that makes it.
-/
import Derived.Test.YtdmajlgdjhmpdaaDoorCPgS
import Derived.Test.YtdmajlgdjhmpdaaDoorCPgZ
import Derived.Test.YtdmajlgdjhmpdaaDoorCInsE
import Derived.Test.YtdmajlgdjhmpdaaDoorCInsR
namespace Go.Proofs.YtdmajlgdjhmpdaaDoor
open Go Go.RowKit

def exF : List I8 := [⟨21, 1, 0, 0, 1, 0, 0, 0⟩]
def exG (t : Int) : List I8 := [⟨7, 0, 0, 0, 0, 0, 0, 0⟩, ⟨4, 0, 0, 0, 0, t, 0, 0⟩]
def exP (t : Int) : Prg := { vars := [], muts := [], conds := [], funcs := [(⟨#[102]⟩, exF), (⟨#[103]⟩, exG t)], thr := [(0, 0)] }
theorem seven (W : World) (o1 o2 o3 o4 o5 o6 o7 : Obj) {Z : World} (hZ : ((((((W.alloc o1).alloc o2).alloc o3).alloc o4).alloc o5).alloc o6).alloc o7 = Z) :
    (Z.heap[W.heap.size]? = some o1 ∧ Z.heap[W.heap.size + 1]? = some o2 ∧ Z.heap[W.heap.size + 1 + 1]? = some o3 ∧ Z.heap[W.heap.size + 1 + 1 + 1]? = some o4 ∧ Z.heap[W.heap.size + 1 + 1 + 1 + 1]? = some o5 ∧ Z.heap[W.heap.size + 1 + 1 + 1 + 1 + 1]? = some o6 ∧ Z.heap[W.heap.size + 1 + 1 + 1 + 1 + 1 + 1]? = some o7) ∧ Below W.heap.size W Z := by
  subst hZ
  have new : ∀ (X : World) (o : Obj) (k : Nat), X.heap.size = k → (X.alloc o).heap[k]? = some o := fun X o k h => h ▸ World.alloc_heap_new X o
  have old : ∀ (X : World) (o o' : Obj) (k : Nat), X.heap[k]? = some o' → (X.alloc o).heap[k]? = some o' := fun X o o' k h => ((belowAlloc X o).block k (Array.getElem?_eq_some_iff.1 h).1).trans h
  refine ⟨⟨old _ _ _ _ (old _ _ _ _ (old _ _ _ _ (old _ _ _ _ (old _ _ _ _ (old _ _ _ _ (new _ _ _ rfl)))))), old _ _ _ _ (old _ _ _ _ (old _ _ _ _ (old _ _ _ _ (old _ _ _ _ (new _ _ _ (by simp)))))), old _ _ _ _ (old _ _ _ _ (old _ _ _ _ (old _ _ _ _ (new _ _ _ (by simp))))), old _ _ _ _ (old _ _ _ _ (old _ _ _ _ (new _ _ _ (by simp)))), old _ _ _ _ (old _ _ _ _ (new _ _ _ (by simp))), old _ _ _ _ (new _ _ _ (by simp)), new _ _ _ (by simp)⟩, ?_⟩
  exact belowAl (belowAl (belowAl (belowAl (belowAl (belowAl (belowAl (Below.refl _ W) _) _) _) _) _) _) _
set_option maxRecDepth 100000 in
set_option maxHeartbeats 1000000 in
theorem iExample (t : Int) (w : World) : Calls Tryd.prog 13 #[.int .i64 t] w fun e w' => ∃ a : PgA, e = .returned a.val ∧ PgW w' a (exP t) ∧ Below w.heap.size w w' := by
  obtain ⟨Z, hZ⟩ : ∃ Z, (((((((w.alloc (.cells #[.slice none 0 0, .slice none 0 0, .slice none 0 0, .slice (some ⟨w.heap.size + 1 + 1 + 1 + 1 + 1, 0, none⟩) 2 2, .slice (some ⟨w.heap.size + 1 + 1 + 1 + 1 + 1 + 1, 0, none⟩) 1 1] 27)).alloc (.cells #[.int .i64 21, .int .i64 1, .int .i64 0, .int .i64 0, .int .i64 1, .int .i64 0, .int .i64 0, .int .i64 0] 40)).alloc (.cells #[.string ⟨#[102]⟩, .slice (some ⟨w.heap.size + 1, 0, none⟩) 1 1] 35)).alloc (.cells #[.int .i64 7, .int .i64 0, .int .i64 0, .int .i64 0, .int .i64 0, .int .i64 0, .int .i64 0, .int .i64 0, .int .i64 4, .int .i64 0, .int .i64 0, .int .i64 0, .int .i64 0, .int .i64 t, .int .i64 0, .int .i64 0] 40)).alloc (.cells #[.string ⟨#[103]⟩, .slice (some ⟨w.heap.size + 1 + 1 + 1, 0, none⟩) 2 2] 35)).alloc (.cells #[.string ⟨#[102]⟩, .slice (some ⟨w.heap.size + 1, 0, none⟩) 1 1, .string ⟨#[103]⟩, .slice (some ⟨w.heap.size + 1 + 1 + 1, 0, none⟩) 2 2] 35)).alloc (.cells #[.int .i64 0, .int .i64 0] 44)) = Z := ⟨_, rfl⟩
  obtain ⟨⟨h0, h1, _, h3, _, h5, h6⟩, hb⟩ := seven w _ _ _ _ _ _ _ hZ
  have b0 : Blk Z w.heap.size 27 _ := h0
  have b1 : Blk Z (w.heap.size + 1) 40 _ := h1
  have b3 : Blk Z (w.heap.size + 1 + 1 + 1) 40 _ := h3
  have b5 : Blk Z (w.heap.size + 1 + 1 + 1 + 1 + 1) 35 _ := h5
  have b6 : Blk Z (w.heap.size + 1 + 1 + 1 + 1 + 1 + 1) 44 _ := h6
  have HZ := Lib.hid hZ
  have H0 := Lib.hid b0
  have hc1 : RdE 8 EI Z (some ⟨w.heap.size + 1, 0, none⟩) 1 exF := ⟨Nat.le_refl _, by decide, fun _ => ⟨_, 0, rfl, b1.lt, fun j hj => by
    have hj' : j < 1 := hj
    obtain rfl : j = 0 := by omega
    exact ⟨b1.cell 0, b1.cell 1, b1.cell 2, b1.cell 3, b1.cell 4, b1.cell 5, b1.cell 6, b1.cell 7⟩⟩⟩
  have hc3 : RdE 8 EI Z (some ⟨w.heap.size + 1 + 1 + 1, 0, none⟩) 2 (exG t) := ⟨Nat.le_refl _, by decide, fun _ => ⟨_, 0, rfl, b3.lt, fun j hj => by
    have hj' : j < 2 := hj
    have hc : j = 0 ∨ j = 1 := by omega
    rcases hc with rfl | rfl
    · exact ⟨b3.cell 0, b3.cell 1, b3.cell 2, b3.cell 3, b3.cell 4, b3.cell 5, b3.cell 6, b3.cell 7⟩
    · exact ⟨b3.cell 8, b3.cell 9, b3.cell 10, b3.cell 11, b3.cell 12, b3.cell 13, b3.cell 14, b3.cell 15⟩⟩⟩
  have HP := Lib.hid (show PgW Z ⟨none, 0, 0, none, 0, 0, none, 0, 0, some ⟨w.heap.size + 1 + 1 + 1 + 1 + 1, 0, none⟩, 2, 2, some ⟨w.heap.size + 1 + 1 + 1 + 1 + 1 + 1, 0, none⟩, 1, 1⟩ (exP t) from
    ⟨rfl, rfl, rfl, rfl, rfl, RdE.nil, RdE.nil, RdE.nil, ⟨Nat.le_refl _, by show 2 ≤ maxLen; decide, fun _ => ⟨_, 0, rfl, b5.lt, fun j hj => by
        have hj' : j < 2 := hj
        have hc : j = 0 ∨ j = 1 := by omega
        rcases hc with rfl | rfl
        · exact ⟨b5.cell 0, _, b5.cell 1, _, _, _, rfl, rfl, hc1⟩
        · exact ⟨b5.cell 2, _, b5.cell 3, _, _, _, rfl, rfl, hc3⟩⟩⟩,
      ⟨Nat.le_refl _, by show 1 ≤ maxLen; decide, fun _ => ⟨_, 0, rfl, b6.lt, fun j hj => by
        have hj' : j < 1 := hj
        obtain rfl : j = 0 := by omega
        exact ⟨b6.cell 0, b6.cell 1⟩⟩⟩⟩)
  have HB := Lib.hid hb
  clear h0 h1 h3 h5 h6 b0 b1 b3 b5 b6 hc1 hc3 hb hZ
  go_enter Tryd.func13, Tryd.ntmps13
  go_wp2
  rw [HZ.out]
  exact bodyPost_ret (H0.out.res rfl _ rfl Tryd.underlying27 rfl (by kernel_rfl)) rfl ⟨_, rfl, HP.out, HB.out⟩
end Go.Proofs.YtdmajlgdjhmpdaaDoor

namespace Go.Proofs.YtdmajlgdjhmpdaaDoor
open Go Go.RowKit

def Prg.szK (p : Prg) (k : Nat) : Nat := ((p.funcs.take k).map fun f => f.2.length).sum
theorem szSucc {p : Prg} {k : Nat} (hk : k < p.funcs.length) : p.szK (k + 1) = p.szK k + (p.funcs[k]).2.length := by
  unfold Prg.szK
  rw [List.take_succ_eq_append_getElem hk, List.map_append, List.sum_append]
  simp
theorem szAll {p : Prg} {k : Nat} (hk : p.funcs.length ≤ k) : p.szK k = p.size := by unfold Prg.szK Prg.size; rw [List.take_of_length_le hk]
theorem sumTake (l : List Nat) (k : Nat) : (l.take k).sum ≤ l.sum := by
  have h : (l.take k ++ l.drop k).sum = l.sum := by rw [List.take_append_drop]
  rw [List.sum_append] at h
  omega
theorem szLe (p : Prg) (k : Nat) : p.szK k ≤ p.size := by
  unfold Prg.szK Prg.size
  rw [List.map_take]
  exact sumTake _ _
set_option maxHeartbeats 1000000 in
theorem iSize {a : PgA} {p : Prg} (w : World) (hP : PgW w a p) (hs : p.size ≤ 1000000) : Calls Tryd.prog 9 #[a.val] w fun e w' => e = .returned (.int .i64 (p.size : Int)) ∧ Below w.heap.size w w' := by
  have HF := Lib.hid (fun X (hX : Below w.heap.size w X) k (hk : k < p.funcs.length) => (hP.below hX).funcs.one hk)
  have HL := Lib.hid hP.l4
  have hle := hP.funcs.le
  have hm := hP.funcs.max
  rw [hP.l4] at hle
  unfold maxLen at hm
  have HSZ := Lib.hid (fun k => szLe p k)
  have HSU := Lib.hid (fun k (hk : k < p.funcs.length) => szSucc hk)
  have HSA := Lib.hid (fun k (hk : p.funcs.length ≤ k) => szAll (p := p) hk)
  obtain ⟨A1, n1, c1, A2, n2, c2, A3, n3, c3, A4, n4, c4, A5, n5, c5⟩ := a
  simp only [PgA.val, PgA.fs] at *
  have hb0 := belowAlloc w (.cells #[.slice A1 n1 c1, .slice A2 n2 c2, .slice A3 n3 c3, .slice A4 n4 c4, .slice A5 n5 c5] 27)
  have hz0 : p.szK 0 = 0 := rfl
  have HZ0 := Lib.hid hz0
  clear hP hz0
  go_enter Tryd.func9, Tryd.ntmps9
  go_wp2
  go_loopw [3, 9] (fun s i wr => ∃ k : Nat, k ≤ n4 ∧ i = .int .i64 k ∧ s = .int .i64 (p.szK k : Int) ∧ Below w.heap.size w wr) (fun _ i _ => n4 - (intOf i).toNat)
  case atStart => exact ⟨0, Nat.zero_le _, rfl, by rw [HZ0.out]; rfl, hb0⟩
  case round =>
    obtain ⟨k, hk, rfl, rfl, hb⟩ := hrel
    by_cases hlt : k < n4
    · have hkl : k < p.funcs.length := by rw [HL.out]; exact hlt
      obtain ⟨q, off, hA, _, h1, v, h2, Ac, nc, cc, rfl, hnc, _⟩ := HF.out wr hb k hkl
      have hA : A4 = _ := hA
      subst hA
      have hs1 := HSZ.out k
      have hs2 := HSZ.out (k + 1)
      have hs3 := HSU.out k hkl
      rw [hnc] at hs3
      obtain ⟨m, hmk⟩ : ∃ m, p.szK k = m := ⟨_, rfl⟩
      obtain ⟨m', hmk'⟩ : ∃ m, p.szK (k + 1) = m := ⟨_, rfl⟩
      rw [hmk] at hs1 hs3 ⊢
      rw [hmk'] at hs2 hs3
      obtain ⟨s1, hs9⟩ : ∃ c, (p.funcs[k]).1 = c := ⟨_, rfl⟩
      rw [hs9] at h1
      have HM := Lib.hid (And.intro hmk' hs3)
      have hle2 : m + nc ≤ 1000000 := by omega
      have hk0 : (0 : Int) ≤ k := by omega
      have hk1 : (k : Int) < n4 := by omega
      have hb2 := fun o => belowThen hb (belowAlloc wr o)
      clear hmk hmk' hs1 hs2 hs3 hs9 hnc
      go_wp2
      go_roundw
      case rel => exact ⟨k + 1, by omega, by go_num, by rw [HM.out.1, HM.out.2]; go_num, hb2 _⟩
      case measure => simp [intOf]; omega
    · have HX := Lib.hid (HSA.out k (by rw [HL.out]; show n4 ≤ k; omega))
      go_wp2
      go_ret
      exact ⟨retIO (by rw [HX.out]), hb⟩

/-! The example. -/
theorem sm64 (n : Int) (h1 : -1000 ≤ n) (h2 : n ≤ 1000) : In64 n := by unfold In64; omega
theorem exWf (t : Int) (ht : In64 t) : (exP t).Wf := by
  refine ⟨fun f hf i hi => ?_, fun v hv => ?_, fun v hv => ?_, fun v hv => ?_, fun f hf => ?_⟩
  · simp only [exP, List.mem_cons, List.not_mem_nil, or_false] at hf
    rcases hf with rfl | rfl
    · simp only [exF, List.mem_cons, List.not_mem_nil, or_false] at hi
      subst hi
      exact ⟨sm64 21 (by decide) (by decide), sm64 1 (by decide) (by decide), sm64 0 (by decide) (by decide), sm64 0 (by decide) (by decide), sm64 1 (by decide) (by decide), sm64 0 (by decide) (by decide), sm64 0 (by decide) (by decide), sm64 0 (by decide) (by decide)⟩
    · simp only [exG, List.mem_cons, List.not_mem_nil, or_false] at hi
      rcases hi with rfl | rfl
      · exact ⟨sm64 7 (by decide) (by decide), sm64 0 (by decide) (by decide), sm64 0 (by decide) (by decide), sm64 0 (by decide) (by decide), sm64 0 (by decide) (by decide), sm64 0 (by decide) (by decide), sm64 0 (by decide) (by decide), sm64 0 (by decide) (by decide)⟩
      · exact ⟨sm64 4 (by decide) (by decide), sm64 0 (by decide) (by decide), sm64 0 (by decide) (by decide), sm64 0 (by decide) (by decide), sm64 0 (by decide) (by decide), ht, sm64 0 (by decide) (by decide), sm64 0 (by decide) (by decide)⟩
  · cases hv
  · cases hv
  · cases hv
  · simp only [exP, List.mem_cons, List.not_mem_nil, or_false] at hf
    rcases hf with rfl | rfl <;> (show 1 ≤ maxLen; decide)
theorem exChk2 : (exP 2).chk.1 = 0 := by decide +kernel
theorem exChk3 : (exP 3).chk = (12, 1, 1) := by decide +kernel
theorem exOk0 : (exP 0).okB = true := by decide +kernel
theorem exName : nameB ⟨#[97, 95, 49]⟩ = true := by decide +kernel
theorem exSize : (exP 0).size = 3 := rfl
theorem exRch {l : List Int} (h : RchL (exP 2) l) : l = [0, 1] := by
  refine h.uniq ⟨by decide, fun y => ⟨fun hy => ?_, fun hy => ?_⟩⟩
  · simp only [List.mem_cons, List.not_mem_nil, or_false] at hy
    have h0 : (exP 2).rch 0 := Prg.rchStart (s := (0, 0)) (by simp [exP]) rfl
    rcases hy with rfl | rfl
    · exact ⟨0, rfl, h0⟩
    · exact ⟨1, rfl, Prg.rchStep h0 (by decide) (by decide +kernel)⟩
  · obtain ⟨f, rfl, hf⟩ := hy
    have hb : f < 2 := rchBound exChk2 hf
    have hc : f = 0 ∨ f = 1 := by omega
    rcases hc with rfl | rfl <;> simp
end Go.Proofs.YtdmajlgdjhmpdaaDoor

namespace Go.Proofs.YtdmajlgdjhmpdaaDoor
open Go Go.RowKit

theorem in64n (n : Int) (h1 : -1000 ≤ n) (h2 : n ≤ 1000) : In64 n := sm64 n h1 h2
set_option maxRecDepth 100000 in
set_option maxHeartbeats 4000000 in
theorem livesP (w : World) (hL : Laid7 w) : Calls Tryd.prog 5 #[] w fun e w' => e = .returned (.bool true) ∧ Below w.heap.size w w' := by
  have HL := Lib.hid hL
  clear hL
  go_enter Tryd.func5, Tryd.ntmps5
  go_wp2_with fail
  refine (iExample 2 _).mono ?_
  rintro e w1 ⟨a1, rfl, hp1, b1⟩
  have B1 := b1
  have HL := Lib.hid (HL.out.below b1)
  have HP1 := Lib.hid hp1
  clear hp1
  go_wp2_with fail
  refine (iReach w1 HP1.out (exWf 2 (in64n 2 (by decide) (by decide))) HL.out.ins HL.out.nm exChk2).mono ?_
  rintro e w2 ⟨A, n, c, l, rfl, hr, hn, hl, b2⟩
  have he := exRch hl
  rw [he] at hr hn
  have hn : 2 = n := hn
  subst hn
  have B2 := belowThen B1 b2
  have HL := Lib.hid (HL.out.below b2)
  have HR := Lib.hid hr
  clear hr hl he
  go_wp2_with fail
  refine (iExample 3 _).mono ?_
  rintro e w3 ⟨a3, rfl, hp3, b3⟩
  have B3 := belowThen B2 b3
  have HL := Lib.hid (HL.out.below b3)
  have HR := Lib.hid (HR.out.below b3)
  have HP3 := Lib.hid hp3
  clear hp3
  go_wp2_with fail
  refine (iCheckP w3 HP3.out (exWf 3 (in64n 3 (by decide) (by decide))) HL.out.ins HL.out.nm).mono ?_
  rintro e w4 ⟨he, b4⟩
  rw [exChk3] at he
  have he : e = .returned (.tuple #[.int .i64 12, .int .i64 1, .int .i64 1]) := he
  subst he
  have B4 := belowThen B3 b4
  have HL := Lib.hid (HL.out.below b4)
  have HR := Lib.hid (HR.out.below b4)
  obtain ⟨fb, fo, rfl, _, hcs⟩ := rdFlat HR.out (by decide)
  have hcc := HR.out.le
  have hcm := HR.out.max
  have hc2 : 2 ≤ c := hcc
  unfold maxLen at hcm
  have hc0 : w4.cell? ⟨fb, fo, none⟩ = some (.int .i64 0) := hcs 0 (by decide)
  have hc1 : w4.cell? ⟨fb, fo + 1, none⟩ = some (.int .i64 1) := hcs 1 (by decide)
  clear hcc hcs
  go_wp2_with fail
  refine (iExample 0 _).mono ?_
  rintro e w5 ⟨a5, rfl, hp5, b5⟩
  have B5 := belowThen B4 b5
  have HL := Lib.hid (HL.out.below b5)
  have HP5 := Lib.hid hp5
  clear hp5
  go_wp2_with fail
  refine (iValidP w5 HP5.out (exWf 0 (in64n 0 (by decide) (by decide))) HL.out.ins HL.out.nm).mono ?_
  rintro e w6 ⟨he, b6⟩
  rw [exOk0] at he
  subst he
  have B6 := belowThen B5 b6
  go_wp2_with fail
  refine (iValidName ⟨#[97, 95, 49]⟩ (by decide) _).mono ?_
  rintro e w' ⟨he, rfl⟩
  rw [exName] at he
  subst he
  go_wp2_with fail
  refine (iExample 0 _).mono ?_
  rintro e w7 ⟨a7, rfl, hp7, b7⟩
  have B7 := belowThen B6 b7
  have HP7 := Lib.hid hp7
  clear hp7
  go_wp2_with fail
  refine (iSize w7 HP7.out (by rw [exSize]; decide)).mono ?_
  rintro e w8 ⟨he, b8⟩
  rw [exSize] at he
  have he : e = .returned (.int .i64 3) := he
  subst he
  have B8 := belowThen B7 b8
  go_wp2_with fail
  refine (iConfig 2 1 _).mono ?_
  rintro e w9 ⟨he, b9⟩
  have he : e = .returned (.int .i64 0) := he
  subst he
  have B9 := belowThen B8 b9
  go_wp2
  go_ret
  exact ⟨rfl, B9⟩
end Go.Proofs.YtdmajlgdjhmpdaaDoor
