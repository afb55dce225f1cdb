/-
  The law DisasmLayout holds: for every program it returns true and leaves its argument as it was, where the listed variables are laid as the program's text lays them.
-/
import Derived.Test.YtnckpjcfgeajbaaDoorDmG
import Derived.Test.YtnckpjcfgeajbaaDoorDmA
import Derived.Test.YtnckpjcfgeajbaaDoorCards
import Derived.SevenTiedAt
import Derived.ShutString
import Derived.ChangeMaps5
import Derived.Carry
namespace Go.Proofs.YtnckpjcfgeajbaaDoor
open Go Go.RowKit

/-- How many line feeds stand before byte j. -/
def cntJ (t : List UInt8) (j : Nat) : Nat := (t.take j).count 10
theorem cntNext {t : List UInt8} {j : Nat} (h : j < t.length) : cntJ t (j + 1) = cntJ t j + if t[j] = 10 then 1 else 0 := by
  unfold cntJ
  rw [List.take_succ_eq_append_getElem h, List.count_append, List.count_singleton]
  simp only [beq_iff_eq]
theorem cntLe (t : List UInt8) (j : Nat) : cntJ t j ≤ t.count 10 := List.Sublist.count_le 10 (List.take_sublist j t)
theorem cntEnd {t : List UInt8} {j : Nat} (h : t.length ≤ j) : cntJ t j = t.count 10 := by unfold cntJ; rw [List.take_of_length_le h]
/-- How many instructions stand before function k. -/
def insJ (p : Prg) (k : Nat) : Nat := ((p.funcs.take k).map fun f => f.2.length).sum
theorem insNext {p : Prg} {k : Nat} (h : k < p.funcs.length) : insJ p (k + 1) = insJ p k + p.funcs[k].2.length := by
  unfold insJ
  rw [List.take_succ_eq_append_getElem h, List.map_append, List.sum_append]; simp
theorem insLe {p : Prg} (h : ∀ f ∈ p.funcs, f.2.length ≤ 64) (k : Nat) : insJ p k ≤ p.funcs.length * 64 := by
  unfold insJ
  have : ∀ l : List (ByteArray × List I8), (∀ f ∈ l, f.2.length ≤ 64) → (l.map fun f => f.2.length).sum ≤ l.length * 64 := by
    intro l
    induction l with
    | nil => intro _; simp
    | cons f r ih =>
      intro hl
      have h1 := hl f (by simp)
      have h2 := ih fun g hg => hl g (by simp [hg])
      rw [List.map_cons, List.sum_cons, List.length_cons, Nat.succ_mul]; omega
  have h1 := this (p.funcs.take k) fun f hf => h f (List.mem_of_mem_take hf)
  have h2 : (p.funcs.take k).length ≤ p.funcs.length := by rw [List.length_take]; omega
  exact Nat.le_trans h1 (Nat.mul_le_mul_right 64 h2)
theorem insEnd (p : Prg) : p.vars.length + p.muts.length + p.conds.length + 2 * p.funcs.length + p.thr.length + insJ p p.funcs.length = p.lines := by
  unfold Prg.lines insJ
  rw [List.take_length]
  have : ∀ l : List (ByteArray × List I8), (l.map fun f => f.2.length + 2).sum = (l.map fun f => f.2.length).sum + 2 * l.length := by
    intro l
    induction l with
    | nil => rfl
    | cons f r ih => rw [List.map_cons, List.sum_cons, List.map_cons, List.sum_cons, ih, List.length_cons]; omega
  rw [this]; omega
/-- What the law asks of the bytes of a text, in the form in which memory holds it. -/
theorem bytesAt {p : Prg} {n : Nat} (h : Lns p.txt n) {s : ByteArray} (hs : s = bs p.txt) : ∀ j (hj : j < s.size), s[j].toNat = 10 → ∃ (i : Nat) (hi : i < s.size), j = i + 1 ∧ s[i].toNat ≠ 10 ∧ s[i].toNat ≠ 32 := by
  intro j hj h10
  have hd : s.data.toList = p.txt := by rw [hs, bsTo]
  have e : p.txt[j]? = some 10 := by
    rw [← hd]
    have : s.data.toList[j]? = some s[j] := List.getElem?_eq_getElem (l := s.data.toList) hj
    rw [this]
    congr 1
    exact UInt8.toNat_inj.mp h10
  obtain ⟨i, c, rfl, hi, hc1, hc2⟩ := h.ahead j e
  have hil : i < s.size := by omega
  refine ⟨i, hil, rfl, ?_, ?_⟩
  · rw [← hd] at hi
    have : s.data.toList[i]? = some s[i] := List.getElem?_eq_getElem (l := s.data.toList) hil
    rw [this] at hi
    injection hi with hi
    rw [hi]
    exact fun e => hc1 (UInt8.toNat_inj.mp e)
  · rw [← hd] at hi
    have : s.data.toList[i]? = some s[i] := List.getElem?_eq_getElem (l := s.data.toList) hil
    rw [this] at hi
    injection hi with hi
    rw [hi]
    exact fun e => hc2 (UInt8.toNat_inj.mp e)
theorem cntAt {t : List UInt8} {s : ByteArray} (hd : s.data.toList = t) {j : Nat} (hj : j < s.size) : cntJ t (j + 1) = cntJ t j + if s[j].toNat = 10 then 1 else 0 := by
  subst hd
  rw [cntNext (t := s.data.toList) hj]
  have e : (s.data.toList)[j]'hj = s[j] := rfl
  rw [e]
  congr 1
  have : (s[j] = 10) ↔ (s[j].toNat = 10) := ⟨fun h => by rw [h]; rfl, fun h => UInt8.toNat_inj.mp h⟩
  simp only [this]
theorem lastAt {p : Prg} {n : Nat} (h : Lns p.txt n) (hn : 0 < n) {s : ByteArray} (hs : s = bs p.txt) : ∃ (l : Nat) (hl : l < s.size), s.size = l + 1 ∧ s[l].toNat = 10 := by
  obtain ⟨y, hy⟩ := h.last hn
  have hd : s.data.toList = p.txt := by rw [hs, bsTo]
  have hz : s.size = y.length + 1 := by
    have : s.data.toList.length = s.size := rfl
    rw [hd, hy] at this
    simp at this
    omega
  refine ⟨y.length, by omega, hz, ?_⟩
  have h1 : s.data.toList[y.length]? = some (s[y.length]'(by omega)) := List.getElem?_eq_getElem (l := s.data.toList) (by show y.length < s.size; omega)
  rw [hd, hy] at h1
  simp at h1
  rw [← h1]; rfl
theorem linesPos {p : Prg} (hv : p.Vld) : 0 < p.lines := by
  have := hv.t1
  unfold Prg.lines
  omega
theorem disNo {p : Prg} (h : p.disR.e ≠ 0) : gvW p.disR = .returned (.tuple #[.string ⟨#[]⟩, .int .i64 p.disR.e]) := by
  unfold Prg.disR at h ⊢
  split
  · rfl
  · split
    · rfl
    · rename_i h1 h2
      rw [if_neg h1, if_neg h2] at h
      exact absurd rfl h
theorem disYes {p : Prg} (h : p.disR.e = 0) : gvW p.disR = .returned (.tuple #[.string (bs p.txt), .int .i64 0]) ∧ p.chk.1 = 0 := by
  unfold Prg.disR at h ⊢
  split
  · rename_i h1
    rw [if_pos h1] at h
    exact absurd h h1
  · rename_i h1
    have h0 : p.chk.1 = 0 := by simpa using h1
    split
    · rename_i h2
      rw [if_neg h1, if_pos h2] at h
      exact absurd h (by decide)
    · exact ⟨rfl, h0⟩
set_option maxRecDepth 100000 in
set_option maxHeartbeats 8000000 in
theorem lawLayout {a : PgA} {p : Prg} (w : World) (hP : PgW w a p) (hW : p.Wf) (hL : LaidE w) : Calls Tryd.prog 3 #[a.val] w (LawOkD w) := by
  obtain ⟨W, hWE⟩ : ∃ W, w.alloc (.cells a.fs 27) = W := ⟨_, rfl⟩
  have hbW : Below w.heap.size w W := by rw [← hWE]; exact belowAlloc w _
  have hB : PBox W w.heap.size a := by rw [← hWE]; exact Blk.new w _ _
  have HK := Lib.hid (fun Y (hY : Below W.heap.size W Y) => (hB.below hY).facts)
  have HP := Lib.hid (fun Y (hY : Below W.heap.size W Y) => (hP.below hbW).below hY)
  have HF := Lib.hid (fun Y (hY : Below W.heap.size W Y) k (hk : k < p.funcs.length) => (HP.out Y hY).funcs.one hk)
  have H1 := Lib.hid (fun X (hX : Below W.heap.size W X) => rSmall X (HP.out X hX))
  have HLV := Lib.hid (fun X (hX : Below W.heap.size W X) => dLives X ((hL.below hbW).below hX))
  have HDP := Lib.hid (fun X (hX : Below W.heap.size W X) => dProg X (HP.out X hX) hW ((hL.below hbW).below hX).d)
  have HN1 := Lib.hid hP.l1
  have HN2 := Lib.hid hP.l2
  have HN3 := Lib.hid hP.l3
  have HN4 := Lib.hid hP.l4
  have HN5 := Lib.hid hP.l5
  have e1 := hP.vars.le
  have e2 := hP.muts.le
  have e3 := hP.conds.le
  have e4 := hP.funcs.le
  have e5 := hP.thr.le
  rw [hP.l1] at e1
  rw [hP.l2] at e2
  rw [hP.l3] at e3
  rw [hP.l4] at e4
  rw [hP.l5] at e5
  have m4 := hP.funcs.max
  unfold maxLen at m4
  have HPF := Lib.hid hW
  have HW := Lib.hid hWE
  have HBW := Lib.hid hbW
  obtain ⟨A1, n1, c1, A2, n2, c2, A3, n3, c3, A4, n4, c4, A5, n5, c5⟩ := a
  simp only [PgA.val, PgA.fs] at *
  clear hP hL hB hbW hWE hW
  cases hsm : p.small
  · rw [hsm] at H1
    clear hsm
    go_enter Tryd.func3, Tryd.ntmps3
    go_wp2_with fail
    rw [HW.out]
    refine (H1.out _ (Below.refl _ _)).mono ?_
    rintro e w1 ⟨rfl, b1⟩
    go_wp2_with fail
    refine (HLV.out _ b1).mono ?_
    rintro e w2 ⟨rfl, b2⟩
    go_wp2
    go_ret
    exact ⟨rfl, belowThen HBW.out (belowThen b1 b2)⟩
  rw [hsm] at H1
  clear hsm
  by_cases he : p.disR.e = 0
  · obtain ⟨hg, hc⟩ := disYes he
    have HG := Lib.hid hg
    have hv := p.vld hc
    have HV := Lib.hid hv
    have HLN := Lib.hid (txtLns hv)
    have HLE := Lib.hid (txtLen hv HPF.out)
    have HEND := Lib.hid (insEnd p)
    rw [HN1.out, HN2.out, HN3.out, HN4.out, HN5.out] at HEND
    have HIL := Lib.hid (fun k => insLe (p := p) hv.cl k)
    rw [HN4.out] at HIL
    have HPOS := Lib.hid (linesPos hv)
    have v1 := hv.cv
    have v2 := hv.cm
    have v3 := hv.cc
    have v4 := hv.cf
    have v5 := hv.t8
    rw [HN1.out] at v1
    rw [HN2.out] at v2
    rw [HN3.out] at v3
    rw [HN4.out] at v4
    rw [HN5.out] at v5
    obtain ⟨s, hs⟩ : ∃ s, bs p.txt = s := ⟨_, rfl⟩
    rw [hs] at HG
    have HS := Lib.hid hs.symm
    have hsz : s.size ≤ 100000 := by rw [← hs]; exact Nat.le_trans (Nat.le_of_eq (by simp [bs, ByteArray.size])) HLE.out
    clear he hg hc hv hs
    go_enter Tryd.func3, Tryd.ntmps3
    go_wp2_with fail
    rw [HW.out]
    refine (H1.out _ (Below.refl _ _)).mono ?_
    rintro e w1 ⟨rfl, b1⟩
    obtain ⟨g0, g1, g2, g3, g4⟩ := HK.out w1 b1
    go_wp2_with fail
    refine (HDP.out _ b1).mono ?_
    rintro e w2 ⟨he, b2⟩
    rw [HG.out] at he
    subst he
    have B2 := Lib.hid (belowThen b1 b2)
    clear b1 b2 g0 g1 g2 g3 g4
    obtain ⟨g0, g1, g2, g3, g4⟩ := HK.out w2 B2.out
    go_wp2
    go_loopw [5, 6] (fun vn vi wr => ∃ k m : Nat, k ≤ n4 ∧ vi = .int .i64 k ∧ vn = .int .i64 m ∧ m ≤ 5000 ∧ Hid (m = n1 + n2 + n3 + 2 * n4 + n5 + insJ p k) ∧ wr = w2) (fun _ i _ => n4 - (intOf i).toNat)
    case atStart => exact ⟨0, n1 + n2 + n3 + 2 * n4 + n5, Nat.zero_le _, rfl, by go_num, by omega, Lib.hid (by simp [insJ]), rfl⟩
    case round =>
      obtain ⟨k, m, hk, rfl, rfl, hm, HM, rfl⟩ := hrel
      by_cases hlt : k < n4
      · have hkl : k < p.funcs.length := by rw [HN4.out]; exact hlt
        obtain ⟨q, off, hA, -, -, v, h2, Ac, nc, cc, rfl, hnc, hrd⟩ := HF.out wr B2.out k hkl
        have hA : A4 = _ := hA
        subst hA
        have hcl := HV.out.cl _ (List.getElem_mem hkl)
        have HNX := Lib.hid (insNext hkl)
        rw [hnc] at HNX hcl
        have hle := hrd.le
        have hmx := hrd.max
        rw [hnc] at hle
        unfold maxLen at hmx
        have hil := HIL.out k
        have hmm : m + nc ≤ 5000 := by have := HM.out; omega
        have hk0 : (0 : Int) ≤ k := by omega
        have hk1 : (k : Int) < n4 := by omega
        clear hrd hnc hkl
        go_wp2
        go_roundw
        case rel => exact ⟨k + 1, m + nc, by omega, by go_num, by go_num, hmm, Lib.hid (by rw [HNX.out, HM.out]; omega), by first | rfl | trivial⟩
        case measure => simp [intOf]; omega
      · obtain rfl : n4 = k := by omega
        have hmN : m = p.lines := by rw [HM.out, ← HEND.out]; try omega
        have HMN := Lib.hid hmN
        have hd : s.data.toList = p.txt := by rw [HS.out, bsTo]
        have HD := Lib.hid hd
        have HCNT := Lib.hid HLN.out.count
        have HBY := Lib.hid (bytesAt HLN.out HS.out)
        have HLA := Lib.hid (lastAt HLN.out HPOS.out HS.out)
        have HCL := Lib.hid (fun j => cntLe p.txt j)
        clear hmN hd
        go_wp2
        go_loopw [5, 7] (fun vn vi wx => ∃ (j : Nat) (z : Int), j ≤ s.size ∧ vi = .int .i64 j ∧ vn = .int .i64 z ∧ 0 ≤ z ∧ z ≤ 5000 ∧ Hid (z + (cntJ p.txt j : Nat) = m) ∧ wx = wr) (fun _ i _ => s.size - (intOf i).toNat)
        case atStart => exact ⟨0, m, Nat.zero_le _, rfl, rfl, by omega, by omega, Lib.hid (by simp [cntJ]), rfl⟩
        case round =>
          obtain ⟨j, z, hj, rfl, rfl, hz0, hz5, HZ, rfl⟩ := hrel
          by_cases hjs : j < s.size
          · have HCA := Lib.hid (cntAt HD.out hjs)
            have hj0 : (0 : Int) ≤ j := by omega
            by_cases h10 : s[j].toNat = 10
            · obtain ⟨i, hi, rfl, h9, h32⟩ := HBY.out j hjs h10
              have hcl := HCL.out (i + 1 + 1)
              rw [HCNT.out, ← HMN.out, HCA.out, if_pos h10] at hcl
              have hz1 : 1 ≤ z := by have := HZ.out; omega
              have HZN : Hid (z - 1 + (cntJ p.txt (i + 1 + 1) : Nat) = m) := Lib.hid (by rw [HCA.out, if_pos h10]; have := HZ.out; omega)
              have i0 : (0 : Int) ≤ (i : Int) := by omega
              have i2 : (0 : Int) ≤ (i : Int) + 1 := by omega
              have i3 : (i : Int) + 1 < s.size := by omega
              have i4 : (0 : Int) < (i : Int) + 1 := by omega
              clear hcl
              go_wp2
              exact ⟨⟨i + 1 + 1, z - 1, by omega, by go_num, rfl, by omega, by omega, HZN, by first | rfl | trivial⟩, by simp [intOf]; omega⟩
            · have HZN : Hid (z + (cntJ p.txt (j + 1) : Nat) = m) := Lib.hid (by rw [HCA.out, if_neg h10]; have := HZ.out; omega)
              have h11 : ((s[j].toNat : Int) == 10) = false := by simp; omega
              go_wp2
              exact ⟨⟨j + 1, z, by omega, by go_num, rfl, by omega, by omega, HZN, by first | rfl | trivial⟩, by simp [intOf]; omega⟩
          · have hz : z = 0 := by
              have h1 := HZ.out
              have h2 : p.txt.length ≤ j := by
                have : s.data.toList.length = s.size := rfl
                rw [HD.out] at this
                omega
              rw [cntEnd h2, HCNT.out, ← HMN.out] at h1
              omega
            subst hz
            obtain ⟨l, hl, hsl, hl10⟩ := HLA.out
            have hne : ¬ s.toList = [] := by
              intro e
              have h1 : s.toList.length = s.size := by rw [Lib.toList_data]; rfl
              rw [e] at h1
              simp at h1
              omega
            have hne2 : s.toList.isEmpty = false := by rw [← Bool.not_eq_true, List.isEmpty_iff]; exact hne
            have hl11 : ((s[l].toNat : Int) == 10) = true := by simp; omega
            have HSL := Lib.hid hsl
            have l0 : (0 : Int) ≤ (l : Int) := by omega
            have l1 : (s.size : Int) - 1 = (l : Int) := by omega
            have l2 : (l : Int) < s.size := by omega
            clear hsl
            go_wp2_with fail
            refine (HLV.out _ B2.out).mono ?_
            rintro e w3 ⟨rfl, b3⟩
            go_wp2
            go_ret
            exact ⟨rfl, belowThen HBW.out (belowThen B2.out b3)⟩
  · have HG := Lib.hid (disNo he)
    have he' : (p.disR.e != 0) = true := by simpa using he
    clear he
    generalize p.disR.e = ex at he' HG
    go_enter Tryd.func3, Tryd.ntmps3
    go_wp2_with fail
    rw [HW.out]
    refine (H1.out _ (Below.refl _ _)).mono ?_
    rintro e w1 ⟨rfl, b1⟩
    obtain ⟨g0, g1, g2, g3, g4⟩ := HK.out w1 b1
    go_wp2_with fail
    refine (HDP.out _ b1).mono ?_
    rintro e w2 ⟨he, b2⟩
    rw [HG.out] at he
    subst he
    have B2 := belowThen b1 b2
    go_wp2_with fail
    refine (HLV.out _ B2).mono ?_
    rintro e w3 ⟨rfl, b3⟩
    go_wp2
    go_ret
    exact ⟨rfl, belowThen HBW.out (belowThen B2 b3)⟩
end Go.Proofs.YtnckpjcfgeajbaaDoor

namespace Go.Proofs.YtnckpjcfgeajbaaDoor.disasmLayout
open Go Go.ChangeShapes Go.WideShapes Go.ChangeAt Go.WideMaps Go.WideElems Go.RowKit Go.ChangeMaps

set_option maxRecDepth 100000 in
theorem lifted (os : Os) (started : os.Started) (H : Type) (enc : TypeId × Value → H) :
    ReturnsInHanded {} Tryd.checked os 3 .any (fun w args => (Rows.disasmLayoutSpec.pre enc Tryd.prog Tryd.f3 [] false w args ∧ laidMetH Tryd.prog laidE w) ∧ sizedMet enc Tryd.prog Tryd.f3 (OpenSpec.ofChange Rows.disasmLayoutSpec) false w args)
      (Rows.disasmLayoutSpec.post enc Tryd.prog Tryd.f3 false true false false) := by
  refine returnsInHanded_of_change_and (C := Tryd.checked) (X := fun w _ => laidMetH Tryd.prog laidE w) (fun _ _ _ hh h => h.of_heap hh) ownKnob0 started (by kernel_rfl) Tryd.func3
    (ChangeSpec.witness_shaped (enc := enc) (C := Tryd.checked) (os := os) (X := fun w _ => laidMetH Tryd.prog laidE w) false (World.doorLaid Tryd.prog 400 os) #[.agg #[.slice none 0 0, .slice none 0 0, .slice none 0 0, .slice none 0 0, .slice none 0 0]] 8 rfl (World.shaped_of_RefB (by kernel_rfl) (by kernel_rfl)) (by kernel_rfl) (by kernel_rfl) (by kernel_rfl) (doorE os _)) ?_
  intro W base args ds gs before hval0 hW _ _ hL _
  have hval : ∀ (j : Nat) t v, Tryd.f3.params[j]? = some t → args[j]? = some v → Value.okWide Tryd.prog W .any base t v := hval0
  have hW' := hW
  obtain ⟨p, q, hA0, hV, rfl, hfz, hnd⟩ := hW
  have hA : DataW.TrodAll enc Tryd.prog W 0 (fun _ => true) true Tryd.f3.params.toList args.toList ds p := hA0
  rw [Tryd.params3] at hA hval
  obtain ⟨v0, vs0, d0, ds0, p0, q0, hargs, rfl, rfl, h0, r0⟩ := trodAll_cons hA
  obtain ⟨rfl, rfl, rfl⟩ := trodAll_nil r0
  obtain rfl : args = #[v0] := by cases args; simp_all
  obtain ⟨rfl, rfl⟩ := trodVars_none hV
  have g0 := h0
  obtain ⟨a0, pg0, rfl, pw0, gw0⟩ := openPg (hval 0 27 v0 rfl rfl) h0
  clear hA0 hval0
  simp only [List.append_nil] at hW'
  refine (lawLayout W pw0 gw0 (metE hL)).mono fun e W' ⟨he, hb⟩ => ?_
  subst he
  exact ⟨_, rfl, _, _, _, [], _, [], hW', trodAll_cons_mk (shut_bool Tryd.underlying4 _) trodAll_mk0, trodAll_cons_mk (Below.trod laidOut0 (by kernel_rfl) (of_decide_eq_true (by kernel_rfl)) g0 hb (fun y hy => by simpa using hW'.lt y (by simp [hy]))) (trodAll_mk0), rfl, hb.frame _, fun h => by cases h⟩

theorem over : Rows.disasmLayoutRow.holds Tryd.pinned (OpenSpec.ofChange Rows.disasmLayoutSpec) :=
  OpenClaim.holds_of_wide 3 Tryd.f3 rfl rfl rfl rfl rfl rfl rfl ⟨rfl, rfl, rfl, rfl, rfl⟩ rfl rfl rfl rfl rfl (by kernel_rfl) Tryd.func3 (by kernel_rfl)
    (of_decide_eq_true (by kernel_rfl)) (by unfold Func.isWrapper; first | (rw [if_pos (by decide +kernel)]; kernel_rfl) | (rw [if_neg (by decide +kernel)]; exact ⟨rfl, rfl⟩))
    (fun os started H enc _ => lifted os started H enc)

theorem proved : Rows.DisasmLayoutCardSaid :=
  Claim7.holds_tied_plain_at .later [] [.data, .data, .data, .data, .data, .data, .data] true Rows.disasmLayoutCard.stood.harness false
    over (fun _ h => by cases h) (by kernel_rfl) (fun _ h => by cases h) disasmLayout_row_tie rfl ⟨rfl, rfl⟩ (by kernel_rfl) rfl
    (fun f fn hf hfn => by
      obtain rfl : f = 3 := Option.some.inj ((show Tryd.prog.funcNamed Rows.disasmLayoutRow.func = some 3 by kernel_rfl).symm.trans hf) |>.symm
      obtain rfl : fn = Tryd.f3 := (Option.some.inj (Tryd.func3.symm.trans hfn)).symm
      exact ⟨by kernel_rfl, fun j t ht => by
        rw [Tryd.params3] at ht
        have hm : t ∈ [27] := by simpa using Array.mem_of_getElem? ht
        have hall : ([27].all fun u => !Tryd.prog.wantsStandIn u) = true := by kernel_rfl
        exact (show Tryd.prog.wantsStandIn t = false by simpa using List.all_eq_true.1 hall t hm)⟩)
    (by kernel_rfl)
#print axioms proved
end Go.Proofs.YtnckpjcfgeajbaaDoor.disasmLayout
