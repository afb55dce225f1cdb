/-
  The contract of successors: for each number the set of those that follow it.
-/
import Derived.Test.YtjioiaeiggjneaaDoorKRSucM
import Derived.Deep.RegionLaw
namespace Go.Proofs.YtjioiaeiggjneaaDoor
open Go.RowKit Go.Maps

/-- A slice of integers does not lie in the row of slices. -/
theorem rdNotRow {w : World} {A : Option Addr} {c : Nat} {l : List Int} (h : Rd w A c l) {bg g n : Nat} {vs : List Value} (ho : OwnL w bg (.slice (some ⟨g, 0, none⟩) n n) vs) (hv : ∀ (i : Nat) (u : Value), vs[i]? = some u → ∃ A n c, u = .slice A n c) : ∀ ad, A = some ad → 0 < l.length → ad.block ≠ g := by
  intro ad e hl hb
  obtain ⟨b, off, e', _, hc⟩ := Rd.flat h hl
  rw [e] at e'
  injection e' with e'
  subst e'
  have hb : b = g := hb
  subst hb
  have h0 := hc 0 hl
  rcases ho.2 with ⟨h1, _⟩ | ⟨k, cap, cur, h1, _, hk, _, _, hs, ht⟩
  · cases h1
  · injection h1 with h1 _ h3
    injection h1 with h1
    injection h1 with h1
    subst h1; subst h3
    have hlen : vs.length = n := by
      have := ho.1
      rcases ho.2 with ⟨h1, _⟩ | ⟨_, _, _, h1, _⟩
      · cases h1
      · injection h1 with _ h2; exact h2.symm
    have hcur : cur.toList = vs := by
      have e : cur.toList.length = vs.length * 1 := by rw [Array.length_toList, hs, hlen]
      rw [List.take_of_length_le (by omega)] at ht
      exact ht
    simp only [World.cell?, hk] at h0
    have h0 : cur[off]? = some (.int .i64 l[0]) := by simpa using h0
    rw [← Array.getElem?_toList, hcur] at h0
    obtain ⟨_, _, _, e⟩ := hv _ _ h0
    cases e

/-- Behind j rounds of the second loop: the sets of the first j numbers, the lists of the rest. -/
def sucTo (N : Nat) (l : Prs) (j i : Nat) : List Int := if i < j then sucI N (hasP l) i else sl l i
theorem sucToLen (N : Nat) (l : Prs) (j : Nat) : (sucTo N l j j).length ≤ l.length := by unfold sucTo; rw [if_neg (by omega)]; exact slLen l j
theorem sucToMk {N : Nat} {l : Prs} (h : okR N l = true) {j : Nat} (hj : j < N) : mk (sucTo N l j j) = sucI N (hasP l) j := by unfold sucTo; rw [if_neg (by omega)]; exact sucMk h hj
theorem sucNext {w2 : World} {N j g B : Nat} {l : Prs} {us : List Value} {A2 : Option Addr} {c2 : Nat} (h2 : Rd w2 A2 c2 (sucI N (hasP l) j)) (ho : OwnL w2 B (.slice (some ⟨g, 0, none⟩) N N) us) (hl : us.length = N) (hj : j < N)
    (hr : ∀ i, i < N → ∃ A' c', us[i]? = some (.slice A' (sucTo N l j i).length c') ∧ Rd w2 A' c' (sucTo N l j i)) :
    OwnL (w2.setCell ⟨g, j, none⟩ (.slice A2 (sucI N (hasP l) j).length c2)) B (.slice (some ⟨g, 0, none⟩) N N) (us.set j (.slice A2 (sucI N (hasP l) j).length c2)) ∧
      ∀ i, i < N → ∃ A' c', (us.set j (.slice A2 (sucI N (hasP l) j).length c2))[i]? = some (.slice A' (sucTo N l (j + 1) i).length c') ∧ Rd (w2.setCell ⟨g, j, none⟩ (.slice A2 (sucI N (hasP l) j).length c2)) A' c' (sucTo N l (j + 1) i) := by
  have hv : ∀ (i : Nat) (u : Value), us[i]? = some u → ∃ A n c, u = .slice A n c := fun i u hu => by
    have hi : i < N := by rw [← hl]; exact (List.getElem?_eq_some_iff.1 hu).1
    obtain ⟨A', c', h1, _⟩ := hr i hi
    rw [hu] at h1
    injection h1 with h1
    exact ⟨_, _, _, h1⟩
  have hc := Chg.setCell w2 ⟨g, j, none⟩ (.slice A2 (sucI N (hasP l) j).length c2)
  refine ⟨?_, fun i hi => ?_⟩
  · subst hl
    have := (World.ownsRow.stored ho j (.slice A2 (sucI us.length (hasP l) j).length c2)).1
    unfold OwnL
    rw [List.length_set]
    exact this
  · by_cases e : i = j
    · subst e
      have e2 : sucTo N l (i + 1) i = sucI N (hasP l) i := by unfold sucTo; rw [if_pos (by omega)]
      rw [e2]
      exact ⟨A2, c2, by rw [List.getElem?_set_self (by omega)], h2.chg hc (rdNotRow h2 ho hv)⟩
    · obtain ⟨A', c', h3, h4⟩ := hr i hi
      have e2 : sucTo N l (j + 1) i = sucTo N l j i := by
        unfold sucTo
        by_cases h : i < j
        · rw [if_pos h, if_pos (by omega)]
        · rw [if_neg h, if_neg (by omega)]
      rw [e2]
      exact ⟨A', c', by rw [List.getElem?_set_ne (Ne.symm e)]; exact h3, h4.chg hc (rdNotRow h4 ho hv)⟩
theorem boxKept {w w1 : World} {N : Int} {v : Value} (h : (w.alloc (.cells #[.int .i64 N, v] 24)).grownBy w1 none) : BoxR w1 w.heap.size N v :=
  (h.block _ (BoxR.new w N v).lt (by simp)).trans (BoxR.new w N v)
theorem sucFacts {X w2 : World} {v u : Value} {p g i : Nat} {x y : Int} (hg : X.grownBy w2 v.ownBlock) (hn : ∀ k, v.ownBlock = some k → k ≠ g ∧ k < p) (h : X.cell? ⟨p, 0, none⟩ = some (.int .i64 x) ∧ X.cell? ⟨p, 1, none⟩ = some (.int .i64 y)) (hc : X.cell? ⟨g, i, none⟩ = some u) (hf : X.frozen? ⟨g, i, none⟩ = false)
    (hp : p < X.heap.size) (hgl : g < X.heap.size) (hgp : g < p) :
    (w2.cell? ⟨p, 0, none⟩ = some (.int .i64 x) ∧ w2.cell? ⟨p, 1, none⟩ = some (.int .i64 y)) ∧ w2.cell? ⟨g, i, none⟩ = some u ∧ w2.frozen? ⟨g, i, none⟩ = false ∧
      ∀ z, (w2.setCell ⟨g, i, none⟩ z).cell? ⟨p, 0, none⟩ = some (.int .i64 x) ∧ (w2.setCell ⟨g, i, none⟩ z).cell? ⟨p, 1, none⟩ = some (.int .i64 y) := by
  have e1 : v.ownBlock ≠ some p := fun e => by have := (hn _ e).2; omega
  have e2 : v.ownBlock ≠ some g := fun e => (hn _ e).1 rfl
  have h0 := (grownCell hg (a := ⟨p, 0, none⟩) hp e1).1.trans h.1
  have h1 := (grownCell hg (a := ⟨p, 1, none⟩) hp e1).1.trans h.2
  obtain ⟨h2, h3⟩ := grownCell hg (a := ⟨g, i, none⟩) hgl e2
  have hne : p ≠ g := by omega
  exact ⟨⟨h0, h1⟩, h2.trans hc, h3.trans hf, fun z => ⟨(World.cell?_of_block (heap_setCell_other w2 ⟨g, i, none⟩ p z hne)).trans h0, (World.cell?_of_block (heap_setCell_other w2 ⟨g, i, none⟩ p z hne)).trans h1⟩⟩
set_option maxRecDepth 100000 in
set_option maxHeartbeats 4000000 in
theorem iSucc (N : Nat) (hN : N ≤ 64) (l : Prs) (n : Nat) (hn : l.length = n) (hok : okR N l = true) (hs : n ≤ 65536) (A : Option Addr) (c : Nat) (w : World) (ha : Rp w A c l) :
    Calls Tryd.prog 44 #[relV N A n c] w (GivesF (sucI N (hasP l)) N w) := by
  have hla := ha.le
  have hca := ha.max
  unfold maxLen at hca
  have HA := Lib.hid ha; clear ha
  have HN := Lib.hid hn; clear hn
  have HOK := Lib.hid hok; clear hok
  obtain ⟨i0, hi, hz0, hz1, hz2⟩ := info_parts infoSl
  have HBY := Lib.hid (show i0.bytes * N ≤ 281474976710656 by rw [hz2]; omega)
  have HNM := Lib.hid (show N ≤ maxLen by unfold maxLen; omega)
  go_enter Tryd.func44, Tryd.ntmps44
  go_wp2_with (first
    | (at_make; refine wpList_make_full _ rfl (.tmp 9) (.tmp 9) 37 rfl w.heap.size 25 i0 _ 1 Tryd.underlying37 hi hz0 hz1 .i64 .i64 _ _ N rfl rfl rfl rfl HBY.out HNM.out (by simp) ?_; intro w1 o1 g1; have O1 := Lib.hid o1; have G1 := Lib.hid g1; have HB1 := Lib.hid (boxKept g1); obtain ⟨c0, c1, _, _⟩ := HB1.out.facts; clear o1 g1)
    | fail)
  have hb1 : Below w.heap.size w w1 := (belowAlloc w _).trans ((Below.refl _ (w.alloc (.cells #[.int .i64 N, .slice A n c] 24))).grown G1.out (by simp) (fun k hk => by cases hk))
  have hg1 : w1.heap.size > w.heap.size + 1 := by have h := (World.ownsRow.lt O1.out _ rfl).2; simpa using h
  have HO1 : Hid (OwnL w1 w.heap.size (.slice (some ⟨w.heap.size + 1, 0, none⟩) N N) (List.replicate N (.slice none 0 0))) := by
    have h := O1.out
    rw [World.size_alloc] at h
    have e : (madeCells (Value.slice none 0 0).cells (N * 1)).toList = List.replicate N (.slice none 0 0) := by rw [Nat.mul_one]; exact toList_madeCells_one _ _
    rw [e] at h
    unfold OwnL
    rw [List.length_replicate]
    exact Lib.hid h
  have HA1 := Lib.hid (HA.out.below hb1)
  have HR1 := Lib.hid (RowsI.start w1 w.heap.size N l)
  clear hi hz0 hz1 hz2
  go_loopw [14] (fun i wr => ∃ (k : Nat) (vs : List Value), k ≤ n ∧ i = .int .i64 k ∧ Hid (vs.length = N) ∧ Hid (OwnL wr w.heap.size (.slice (some ⟨w.heap.size + 1, 0, none⟩) N N) vs) ∧ Hid (RowsI wr w.heap.size vs (sl (l.take k)) N) ∧ Below w.heap.size w wr ∧ w.heap.size + 1 < wr.heap.size) (fun i _ => n - (intOf i).toNat)
  case atStart => exact ⟨0, _, Nat.zero_le _, rfl, Lib.hid (by simp), HO1, HR1, hb1, hg1⟩
  case round =>
    clear HO1 HR1 HB1 hb1 hg1 c0 c1 HA1
    obtain ⟨k, vs, hk, rfl, HLEN, HO, HR, hb, hsz⟩ := hrel
    by_cases hlt : k < n
    · have hkl : k < l.length := by have := HN.out; omega
      obtain ⟨b, off, rfl, had, hc1, hc2⟩ := (HA.out.below hb).one hkl
      obtain ⟨i, hi, hx⟩ : ∃ i : Nat, i < N ∧ l[k].1 = (i : Int) := by
        have := (okIff.1 HOK.out).2.2 _ (List.getElem_mem hkl)
        unfold inR at this
        exact ⟨l[k].1.toNat, by omega, by omega⟩
      have HS := Lib.hid (slSucc hkl)
      rw [hx] at hc1 HS
      clear hx
      generalize l[k].2 = y at *
      obtain ⟨v, hv, hown⟩ := HR.out.1 i hi
      have hml := slLen (l.take k) i
      rw [List.length_take] at hml
      obtain ⟨A', c', rfl, hrd, _⟩ := hown.rd
      have HV := Lib.hid hv; clear hv
      have HOW := Lib.hid hown; clear hown hrd
      have hcn : wr.cell? ⟨w.heap.size + 1, i, none⟩ = some (.slice A' (sl (l.take k) i).length c') := by
        have h := HO.out
        unfold OwnL at h
        rw [HLEN.out] at h
        rw [World.ownsRow.cellAt h i (by omega)]
        exact HV.out
      have hfn : wr.frozen? ⟨w.heap.size + 1, i, none⟩ = false := by
        have h := HO.out
        unfold OwnL at h
        rw [HLEN.out] at h
        exact World.ownsRow.frozenAt h i
      generalize hm : (sl (l.take k) i).length = m at *
      obtain ⟨W, hW⟩ : ∃ W, wr.alloc (.cells #[.int .i64 i, .int .i64 y] 35) = W := ⟨_, rfl⟩
      have hp0 : W.cell? ⟨wr.heap.size, 0, none⟩ = some (.int .i64 i) := by rw [← hW]; simp
      have hp1 : W.cell? ⟨wr.heap.size, 1, none⟩ = some (.int .i64 y) := by rw [← hW]; simp
      have hcW : W.cell? ⟨w.heap.size + 1, i, none⟩ = some (.slice A' m c') := by rw [← hW, World.cell?_alloc_past _ _ _ hsz]; exact hcn
      have hfW : W.frozen? ⟨w.heap.size + 1, i, none⟩ = false := by rw [← hW, frozenBlock ((belowAlloc wr _).block (w.heap.size + 1) hsz)]; exact hfn
      have hzW : W.heap.size = wr.heap.size + 1 := by rw [← hW]; simp
      clear hcn hfn
      obtain ⟨X, hX⟩ : ∃ X, (W.alloc (.cells #[.int .i64 y] 3)).drew = X := ⟨_, rfl⟩
      have hzX : X.heap.size = wr.heap.size + 2 := by rw [← hX]; show (W.alloc _).heap.size = _; rw [World.size_alloc, hzW]
      have bX : Below wr.heap.size wr X := by rw [← hX, ← hW]; exact belowDrewN ((belowAlloc wr _).alloc (by simp) _) 1
      have HXO := Lib.hid (HOW.out.chg (Chg.ofBelow bX fun _ => True) fun _ _ => trivial)
      have HBX := Lib.hid bX; clear bX
      have qs : X.cell? ⟨wr.heap.size, 0, none⟩ = some (.int .i64 i) ∧ X.cell? ⟨wr.heap.size, 1, none⟩ = some (.int .i64 y) := by
        rw [← hX]
        exact ⟨(World.cell?_alloc_past _ _ _ (by omega)).trans hp0, (World.cell?_alloc_past _ _ _ (by omega)).trans hp1⟩
      have qn : X.cell? ⟨w.heap.size + 1, i, none⟩ = some (.slice A' m c') := by rw [← hX]; exact (World.cell?_alloc_past _ _ _ (by omega)).trans hcW
      have qf : X.frozen? ⟨w.heap.size + 1, i, none⟩ = false := by rw [← hX]; exact (frozenBlock ((belowAlloc W _).block (w.heap.size + 1) (by omega))).trans hfW
      have HRX : Hid (Rd X (some ⟨wr.heap.size + 1, 0, none⟩) 1 [y]) := by rw [← hX, ← hzW]; exact Lib.hid ((Rd.lit W [y] 3 (by simp)).drewN 1)
      have HNB : Hid (∀ g, (Value.slice A' m c').ownBlock = some g → g ≠ w.heap.size + 1 ∧ g < wr.heap.size) := Lib.hid fun g hg => ⟨fun e => ownApart HOW.out HO.out (by decide) hg (by rw [e]; rfl), (HOW.out.lt hg).2⟩
      have HM := Lib.hid hm; clear hm
      go_wp2
      go_region_law
        (first
          | (refine stepInt _ (by rfl) (.tmp 25) (.tmp 28) (by rfl) w.heap.size _ _ (by rfl) HXO.out (wr.heap.size + 1) y (by rfl) HRX.out (by have := HM.out; omega) (by have := hb.size; omega) ?_; intro v2 w2 o2 g2 m2; obtain ⟨A2, c2, hv2, _, _⟩ := o2.rd; rw [List.length_append, show [y].length = 1 from rfl] at hv2; subst hv2; have HO2 := Lib.hid o2; have HG2 := Lib.hid g2; have HM2 := Lib.hid m2; clear o2 g2 m2; obtain ⟨K2, kn, kf, K4⟩ := sucFacts HG2.out HNB.out qs qn qf (by omega) (by omega) hsz))
      all_goals (
        have hvz := rowsPut HR.out HO.out HLEN.out hi HV.out HBX.out HG2.out HM2.out HO2.out (sl (l.take (k + 1))) (fun j => by rw [HS.out j]; by_cases e : j = i <;> simp [e]; omega)
        have HR4 := Lib.hid hvz.1
        have HO4 := Lib.hid hvz.2
        clear hvz
        have hb4 : Below w.heap.size w w2 := (hb.trans (HBX.out.mono hb.size)).grown HG2.out (by have := hb.size; omega) (fun g hg => (HOW.out.lt hg).1)
        have hz4 : w.heap.size + 1 < w2.heap.size := by have := HG2.out.size; omega
        go_wp2
        go_roundw
        (case rel => exact ⟨k + 1, _, by omega, by go_num, Lib.hid (by rw [List.length_set]; exact HLEN.out), HO4, HR4, hb4.setCell (show w.heap.size ≤ w.heap.size + 1 by omega) _, by simp; omega⟩)
        (case measure => simp [intOf]; omega))
    · obtain rfl : k = n := by omega
      have HR2 : Hid (∀ i, i < N → ∃ A' c', vs[i]? = some (.slice A' (sucTo N l 0 i).length c') ∧ Rd wr A' c' (sucTo N l 0 i)) := Lib.hid fun i hi => by
        obtain ⟨v, h1, h2⟩ := HR.out.1 i hi
        rw [List.take_of_length_le (by have := HN.out; omega)] at h2
        obtain ⟨A', c', rfl, hr, _⟩ := h2.rd
        exact ⟨A', c', h1, hr⟩
      clear HR
      go_wp2
      go_loopw [34] (fun i wq => ∃ (j : Nat) (us : List Value), j ≤ N ∧ i = .int .i64 j ∧ Hid (us.length = N) ∧ Hid (OwnL wq w.heap.size (.slice (some ⟨w.heap.size + 1, 0, none⟩) N N) us) ∧ Hid (∀ i, i < N → ∃ A' c', us[i]? = some (.slice A' (sucTo N l j i).length c') ∧ Rd wq A' c' (sucTo N l j i)) ∧ Below w.heap.size w wq) (fun i _ => N - (intOf i).toNat)
      case atStart => exact ⟨0, vs, Nat.zero_le _, rfl, HLEN, HO, HR2, hb⟩
      case round =>
        clear HLEN HO HR2 hb hsz
        obtain ⟨j, us, hj, rfl, HLEN, HO, HR, hb⟩ := hrel
        by_cases hlt : j < N
        · obtain ⟨A1, c1, hu, hr⟩ := HR.out j hlt
          have HU := Lib.hid hu; clear hu
          have HR1 := Lib.hid hr; clear hr
          have hcn : wr.cell? ⟨w.heap.size + 1, j, none⟩ = some (.slice A1 (sucTo N l j j).length c1) := by
            have h := HO.out
            unfold OwnL at h
            rw [HLEN.out] at h
            rw [World.ownsRow.cellAt h j (by omega)]
            exact HU.out
          have hsl := sucToLen N l j
          have hmk := sucToMk HOK.out hlt
          obtain ⟨M, hM⟩ : ∃ M, sucI N (hasP l) j = M := ⟨_, rfl⟩
          rw [hM] at hmk
          have HMK := Lib.hid hmk; clear hmk
          have HMM := Lib.hid hM; clear hM
          obtain ⟨T, hT⟩ : ∃ T, sucTo N l j j = T := ⟨_, rfl⟩
          rw [hT] at hcn hsl HMK HR1
          clear hT HU
          go_wp2_with fail
          refine (iMake T M HMK.out (by have := HN.out; omega) A1 c1 _ HR1.out).mono ?_
          rintro e w2 ⟨A2, c2, rfl, r2, b2⟩
          have HR2 := Lib.hid r2; clear r2
          have HO2 : Hid (OwnL w2 w.heap.size (.slice (some ⟨w.heap.size + 1, 0, none⟩) N N) us) := Lib.hid (HO.out.chg (Chg.ofBelow b2 fun _ => True) fun _ _ => trivial)
          have hcn2 : ∃ u, w2.cell? ⟨w.heap.size + 1, j, none⟩ = some u := by
            have h := HO2.out
            unfold OwnL at h
            rw [HLEN.out] at h
            exact ⟨us[j]'(by have := HLEN.out; omega), by rw [World.ownsRow.cellAt h j (by omega), List.getElem?_eq_getElem (by have := HLEN.out; omega)]⟩
          obtain ⟨u, hcn2⟩ := hcn2
          have hfn2 : w2.frozen? ⟨w.heap.size + 1, j, none⟩ = false := by
            have h := HO2.out
            unfold OwnL at h
            rw [HLEN.out] at h
            exact World.ownsRow.frozenAt h j
          have HN2 := Lib.hid (sucNext (HMM.out ▸ HR2.out) HO2.out HLEN.out hlt (fun i hi => by obtain ⟨A', c', h1, h2⟩ := HR.out i hi; exact ⟨A', c', h1, h2.below b2⟩))
          rw [HMM.out] at HN2
          have HB2 := Lib.hid b2; clear b2
          go_wp2
          go_roundw
          case rel => exact ⟨j + 1, _, by omega, by go_num, Lib.hid (by rw [List.length_set]; exact HLEN.out), Lib.hid HN2.out.1, Lib.hid HN2.out.2, (hb.trans (HB2.out.mono hb.size)).setCell (show w.heap.size ≤ w.heap.size + 1 by omega) _⟩
          case measure => simp [intOf]; omega
        · obtain rfl : j = N := by omega
          have hfin : RdF wr (some ⟨w.heap.size + 1, 0, none⟩) j (sucI j (hasP l)) j := by
            obtain ⟨A', c', hv, hr, _⟩ := HO.out.rds
            injection hv with e1 _ e3
            subst e1; subst e3
            refine ⟨us, hr, HLEN.out, fun i hi => ?_⟩
            have := HR.out i hi
            unfold sucTo at this
            rwa [if_pos hi] at this
          have HF := Lib.hid hfin; clear hfin
          go_wp2
          go_ret
          exact ⟨_, _, rfl, HF.out, hb⟩
end Go.Proofs.YtjioiaeiggjneaaDoor
