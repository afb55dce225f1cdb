/-
  The contract of the statements' own function reaches: it tells which events can be reached.
-/
import Derived.Test.YtdppccipajfamaaRStamps
namespace Go.Proofs.Ytdppccipajfamaa
open Go.RowKit

theorem infoBool : (Try.prog.info? 4).map (fun i => (i.zero, i.size, i.bytes)) = some (some (.bool false), 1, 1) := by kernel_rfl
section
open Classical
/-- Can event j be reached from event i? -/
noncomputable def rchB (ag fr : List Int) (i j : Nat) : Bool := decide (Rch ag fr i j)
theorem rchYes {ag fr : List Int} {i j : Nat} (h : Rch ag fr i j) : rchB ag fr i j = true := by unfold rchB; exact decide_eq_true h
theorem rchIff {ag fr : List Int} {i j : Nat} : rchB ag fr i j = true ↔ Rch ag fr i j := by unfold rchB; exact decide_eq_true_iff
theorem rchNo {ag fr : List Int} {i j : Nat} (h : ¬ Rch ag fr i j) : rchB ag fr i j = false := by unfold rchB; exact decide_eq_false h
/-- .. by a last step from an event below k? -/
noncomputable def viaB (ag fr : List Int) (i j k : Nat) : Bool := decide (j = i ∨ ∃ m, m < k ∧ m < j ∧ Rch ag fr i m ∧ (ag.getD m 0 = ag.getD j 0 ∨ fr.getD j 0 = (m : Int)))
theorem viaStart (ag fr : List Int) (i j : Nat) : viaB ag fr i j i = decide (j = i) := by
  unfold viaB
  by_cases h : j = i
  · rw [decide_eq_true (Or.inl h), decide_eq_true h]
  · rw [decide_eq_false h]
    refine decide_eq_false ?_
    rintro (h' | ⟨m, h1, _, h2, _⟩)
    · exact h h'
    · have := rchLe h2; omega
theorem viaYes {ag fr : List Int} {i j k : Nat} (hk : k < j) (h : rchB ag fr i k = true) (e : ag.getD k 0 = ag.getD j 0 ∨ fr.getD j 0 = (k : Int)) : viaB ag fr i j (k + 1) = true := by
  unfold viaB
  exact decide_eq_true (Or.inr ⟨k, by omega, hk, rchIff.1 h, e⟩)
theorem viaNo {ag fr : List Int} {i j k : Nat} (h : ¬ (rchB ag fr i k = true ∧ (ag.getD k 0 = ag.getD j 0 ∨ fr.getD j 0 = (k : Int)))) : viaB ag fr i j (k + 1) = viaB ag fr i j k := by
  unfold viaB
  congr 1
  refine propext ⟨?_, ?_⟩
  · rintro (h1 | ⟨m, g1, g2, g3, g4⟩)
    · exact Or.inl h1
    · by_cases e : m = k
      · subst e; exact absurd ⟨rchYes g3, g4⟩ h
      · exact Or.inr ⟨m, by omega, g2, g3, g4⟩
  · rintro (h1 | ⟨m, g1, g⟩)
    · exact Or.inl h1
    · exact Or.inr ⟨m, by omega, g⟩
theorem viaEnd (ag fr : List Int) (i j k : Nat) (hk : j ≤ k) : viaB ag fr i j k = rchB ag fr i j := by
  unfold viaB rchB
  congr 1
  refine propext ⟨?_, fun h => ?_⟩
  · rintro (h1 | ⟨m, _, g2, g3, g4⟩)
    · subst h1; exact .here
    · exact .step g3 g2 g4
  · rcases h.last with h1 | ⟨m, h1, h2, h3⟩
    · exact Or.inl h1
    · exact Or.inr ⟨m, by omega, h2, h1, h3⟩
end
/-- v is a row of Booleans of the call's own. -/
def OwnB (w : World) (base : Nat) (v : Value) (bs : List Bool) : Prop := w.ownsRow base 4 1 v bs.length (bs.map Value.bool)
/-- What the first j entries are: those from i on tell what can be reached. -/
def RchRow (ag fr : List Int) (i : Nat) (bs : List Bool) (j : Nat) : Prop := ∀ m, m < j → bs[m]? = some (rchB ag fr i m)
theorem rchBelow {ag fr : List Int} {i m : Nat} (h : m < i) : rchB ag fr i m = false := rchNo fun hr => by have := rchLe hr; omega
theorem OwnB.alloc {w : World} {base : Nat} {v : Value} {bs : List Bool} (h : OwnB w base v bs) (o : Obj) : OwnB (w.alloc o) base v bs := World.ownsRow.alloc h o
theorem OwnB.cell {w : World} {base g n : Nat} {bs : List Bool} (h : OwnB w base (.slice (some ⟨g, 0, none⟩) n n) bs) (hn : bs.length = n) {m : Nat} {b : Bool} (hb : bs[m]? = some b) : w.cell? ⟨g, m, none⟩ = some (.bool b) := by
  have hm := (List.getElem?_eq_some_iff.1 hb).1
  subst hn
  unfold OwnB at h
  rw [World.ownsRow.cellAt h m (by omega), List.getElem?_map, hb]; rfl
theorem OwnB.frozen {w : World} {base g n : Nat} {bs : List Bool} (h : OwnB w base (.slice (some ⟨g, 0, none⟩) n n) bs) (hn : bs.length = n) (m : Nat) : w.frozen? ⟨g, m, none⟩ = false := by
  subst hn
  exact World.ownsRow.frozenAt h m
theorem OwnB.set {w : World} {base g n : Nat} {bs : List Bool} (h : OwnB w base (.slice (some ⟨g, 0, none⟩) n n) bs) (hn : bs.length = n) (m : Nat) (b : Bool) : OwnB (w.setCell ⟨g, m, none⟩ (.bool b)) base (.slice (some ⟨g, 0, none⟩) n n) (bs.set m b) := by
  subst hn
  have := (World.ownsRow.stored h m (.bool b)).1
  unfold OwnB
  rw [List.length_set, List.map_set]
  exact this
theorem OwnB.drewN {w : World} {base : Nat} {v : Value} {bs : List Bool} (h : OwnB w base v bs) (q : Nat) : OwnB (w.drewN q) base v bs := h

/-- What reaches returns: a row of the call's own. -/
def GivesB (ag fr : List Int) (i n : Nat) (w : World) (e : Ending) (w' : World) : Prop := ∃ g, e = .returned (.slice (some ⟨g, 0, none⟩) n n) ∧ g < w'.heap.size ∧ (∀ m, m < n → w'.cell? ⟨g, m, none⟩ = some (.bool (rchB ag fr i m))) ∧ Below w.heap.size w w'
set_option maxHeartbeats 1000000 in
theorem rReaches (ag fr : List Int) (n i : Nat) (hn : ag.length = n) (hm : fr.length = n) (hin : i < n) (A B : Option Addr) (c d : Nat) (w : World) (ha : Rd w A c ag) (hb : Rd w B d fr) (hs : n ≤ 1000) :
    Calls Try.prog 27 #[.slice A n c, .slice B n d, .int .i64 i] w (GivesB ag fr i n w) := by
  have hla := ha.le
  have hlb := hb.le
  rw [hn] at hla
  rw [hm] at hlb
  have hca := ha.max
  have hcb := hb.max
  unfold maxLen at hca hcb
  have HA := Lib.hid ha; clear ha
  have HB := Lib.hid hb; clear hb
  have HN := Lib.hid hn; clear hn
  have HM := Lib.hid hm; clear hm
  obtain ⟨i0, hi, hz0, hz1, hz2⟩ := info_parts infoBool
  have HBY := Lib.hid (show i0.bytes * n ≤ 281474976710656 by rw [hz2]; omega)
  have HNM := Lib.hid (show n ≤ maxLen by unfold maxLen; omega)
  go_enter Try.func27, Try.ntmps27
  go_wp2_with (first
    | (at_make; refine wpList_make_full w rfl (.tmp 11) (.tmp 11) 40 rfl w.heap.size 4 i0 _ 1 Try.underlying40 hi hz0 hz1 .i64 .i64 _ _ n rfl rfl rfl rfl HBY.out HNM.out (Nat.le_refl _) ?_; intro w1 o1 g1; have O1 := Lib.hid o1; have G1 := Lib.hid g1; clear o1 g1)
    | fail)
  have b1 : Below w.heap.size w w1 := (Below.refl _ w).grown G1.out (Nat.le_refl _) (fun k hk => by cases hk)
  have HO1 : Hid (OwnB w1 w.heap.size (.slice (some ⟨w.heap.size, 0, none⟩) n n) (List.replicate n false)) := by
    have h := O1.out
    have e : (madeCells (Value.bool false).cells (n * 1)).toList = (List.replicate n false).map Value.bool := by
      rw [Nat.mul_one, List.map_replicate]; exact toList_madeCells_one _ _
    rw [e] at h
    show OwnB w1 w.heap.size (.slice (some ⟨w.heap.size, 0, none⟩) n n) (List.replicate n false)
    unfold OwnB
    rw [List.length_replicate]
    exact h
  have HR1 := Lib.hid (show RchRow ag fr i (List.replicate n false) i from fun m hm => by rw [rchBelow hm, List.getElem?_replicate, if_pos (by omega)])
  have HL1 := Lib.hid (show (List.replicate n false).length = n by simp)
  clear hi hz0 hz1 hz2
  go_loopw [8] (fun vj wr => ∃ (j : Nat) (bs : List Bool), i ≤ j ∧ j ≤ n ∧ vj = .int .i64 j ∧ Hid (bs.length = n) ∧ Hid (OwnB wr w.heap.size (.slice (some ⟨w.heap.size, 0, none⟩) n n) bs) ∧ Hid (RchRow ag fr i bs j) ∧ Below w.heap.size w wr ∧ w.heap.size < wr.heap.size) (fun vj _ => n - (intOf vj).toNat)
  case atStart => exact ⟨i, _, Nat.le_refl _, Nat.le_of_lt hin, rfl, HL1, HO1, HR1, b1, (World.ownsRow.lt O1.out w.heap.size rfl).2⟩
  case round =>
    clear HR1 HO1 HL1 b1
    obtain ⟨j, bs, hij, hj, rfl, HL, HO, HR, hb, hsz⟩ := hrel
    by_cases hlt : j < n
    · have hja : j < ag.length := by have := HN.out; omega
      have hjf : j < fr.length := by have := HM.out; omega
      have hjb : j < bs.length := by have := HL.out; omega
      have hfz := HO.out.frozen HL.out j
      have hcj := HO.out.cell HL.out (List.getElem?_eq_getElem hjb)
      have hvs := viaStart ag fr i j
      have hji : ((j : Int) == (i : Int)) = decide (j = i) := by
        by_cases e : j = i
        · subst e; simp
        · rw [decide_eq_false e]; simp; omega
      rw [← hvs] at hji
      obtain ⟨V0, hV0⟩ : ∃ b, viaB ag fr i j i = b := ⟨_, rfl⟩
      rw [hV0] at hji
      have HV0 := Lib.hid hV0; clear hV0 hvs
      have HO0 := Lib.hid (HO.out.set HL.out j V0)
      have HL0 := Lib.hid (show (bs.set j V0).length = n by rw [List.length_set]; exact HL.out)
      have HR0 := Lib.hid (show RchRow ag fr i (bs.set j V0) j from fun m hm => by rw [List.getElem?_set_ne (by omega)]; exact HR.out m hm)
      have HE0 := Lib.hid (show (bs.set j V0)[j]? = some (viaB ag fr i j i) by rw [List.getElem?_set_self hjb, HV0.out])
      go_wp2
      clear hfz hcj hji hja hjf hjb
      go_loopw [9] (fun vk wq => ∃ (k : Nat) (bs2 : List Bool), k ≤ j ∧ vk = .int .i64 k ∧ Hid (bs2.length = n) ∧ Hid (OwnB wq w.heap.size (.slice (some ⟨w.heap.size, 0, none⟩) n n) bs2) ∧ Hid (RchRow ag fr i bs2 j) ∧ Hid (bs2[j]? = some (viaB ag fr i j k)) ∧ Below w.heap.size w wq ∧ w.heap.size < wq.heap.size) (fun vk _ => j - (intOf vk).toNat)
      case atStart => exact ⟨i, _, hij, rfl, HL0, HO0, HR0, HE0, hb.setCell (Nat.le_refl _) _, by simp; omega⟩
      case round =>
        clear HL0 HO0 HR0 HE0 HL HO HR hb hsz
        obtain ⟨k, bs2, hk, rfl, HL2, HO2, HR2, HE2, hb2, hsz2⟩ := hrel
        by_cases hkj : k < j
        · have hja : j < ag.length := by have := HN.out; omega
          have hka : k < ag.length := by have := HN.out; omega
          have hjf : j < fr.length := by have := HM.out; omega
          obtain ⟨ad, rfl, _, hcJ⟩ := (HA.out.below hb2).one hja
          obtain ⟨ad', e, _, hcK⟩ := (HA.out.below hb2).one hka
          injection e with e
          subst e
          obtain ⟨bd, rfl, _, hcF⟩ := (HB.out.below hb2).one hjf
          have hcR := HO2.out.cell HL2.out (HR2.out k hkj)
          have hfz := HO2.out.frozen HL2.out j
          have hcj := HO2.out.cell HL2.out HE2.out
          have hg1 : ag.getD j 0 = ag[j] := by rw [List.getD_eq_getElem?_getD, List.getElem?_eq_getElem hja]; rfl
          have hg2 : ag.getD k 0 = ag[k] := by rw [List.getD_eq_getElem?_getD, List.getElem?_eq_getElem hka]; rfl
          have hg3 : fr.getD j 0 = fr[j] := by rw [List.getD_eq_getElem?_getD, List.getElem?_eq_getElem hjf]; rfl
          obtain ⟨V2, hV2⟩ : ∃ b, viaB ag fr i j k = b := ⟨_, rfl⟩
          rw [hV2] at hcj
          clear hV2
          rcases hP : rchB ag fr i k with _ | _
          · have HX := Lib.hid (viaNo (ag := ag) (fr := fr) (i := i) (j := j) (k := k) (fun h => by rw [hP] at h; exact absurd h.1 (by simp)))
            rw [hP] at hcR
            clear hP hg1 hg2 hg3
            generalize ag[j] = x at *
            generalize ag[k] = y at *
            generalize fr[j] = z at *
            go_wp2
            go_quiet (fail)
            go_wp2
            go_roundw
            case rel => exact ⟨k + 1, bs2, by omega, by go_num, HL2, Lib.hid (OwnB.drewN HO2.out _), HR2, Lib.hid (by rw [HX.out]; exact HE2.out), belowDrewN hb2 _, by simp; omega⟩
            case measure => simp [intOf]; omega
          · by_cases e1 : ag[k] = ag[j]
            · have HX := Lib.hid (viaYes (ag := ag) (fr := fr) hkj hP (Or.inl (by rw [hg1, hg2, e1])))
              have he : (ag[k] == ag[j]) = true := by simpa using e1
              rw [hP] at hcR
              clear hP hg1 hg2 hg3 e1
              generalize ag[j] = x at *
              generalize ag[k] = y at *
              generalize fr[j] = z at *
              go_wp2
              go_quiet (fail)
              go_wp2
              go_roundw
              case rel => exact ⟨k + 1, bs2.set j true, by omega, by go_num, Lib.hid (by rw [List.length_set]; exact HL2.out), Lib.hid ((OwnB.drewN HO2.out _).set HL2.out j true), Lib.hid (fun m hm => by rw [List.getElem?_set_ne (by omega)]; exact HR2.out m hm), Lib.hid (by rw [List.getElem?_set_self (by have := HL2.out; omega), HX.out]), (belowDrewN hb2 _).setCell (Nat.le_refl _) _, by simp; omega⟩
              case measure => simp [intOf]; omega
            · have he : (ag[k] == ag[j]) = false := by simpa using e1
              by_cases e2 : fr[j] = (k : Int)
              · have HX := Lib.hid (viaYes (ag := ag) (fr := fr) hkj hP (Or.inr (by rw [hg3, e2])))
                have he2 : (fr[j] == (k : Int)) = true := by simpa using e2
                rw [hP] at hcR
                clear hP hg1 hg2 hg3 e1 e2
                generalize ag[j] = x at *
                generalize ag[k] = y at *
                generalize fr[j] = z at *
                go_wp2
                go_quiet (fail)
                go_wp2
                go_roundw
                case rel => exact ⟨k + 1, bs2.set j true, by omega, by go_num, Lib.hid (by rw [List.length_set]; exact HL2.out), Lib.hid ((OwnB.drewN HO2.out _).set HL2.out j true), Lib.hid (fun m hm => by rw [List.getElem?_set_ne (by omega)]; exact HR2.out m hm), Lib.hid (by rw [List.getElem?_set_self (by have := HL2.out; omega), HX.out]), (belowDrewN hb2 _).setCell (Nat.le_refl _) _, by simp; omega⟩
                case measure => simp [intOf]; omega
              · have HX := Lib.hid (viaNo (ag := ag) (fr := fr) (i := i) (j := j) (k := k) (fun h => by rcases h.2 with h | h; exact e1 (by rw [← hg1, ← hg2, h]); exact e2 (by rw [← hg3, h])))
                have he2 : (fr[j] == (k : Int)) = false := by simpa using e2
                rw [hP] at hcR
                clear hP hg1 hg2 hg3 e1 e2
                generalize ag[j] = x at *
                generalize ag[k] = y at *
                generalize fr[j] = z at *
                go_wp2
                go_quiet (fail)
                go_wp2
                go_roundw
                case rel => exact ⟨k + 1, bs2, by omega, by go_num, HL2, Lib.hid (OwnB.drewN HO2.out _), HR2, Lib.hid (by rw [HX.out]; exact HE2.out), belowDrewN hb2 _, by simp; omega⟩
                case measure => simp [intOf]; omega
        · obtain rfl : k = j := by omega
          have HR3 := Lib.hid (show RchRow ag fr i bs2 (k + 1) from fun m hm => by
            by_cases e : m = k
            · subst e; rw [HE2.out, viaEnd _ _ _ _ _ (Nat.le_refl _)]
            · exact HR2.out m (by omega))
          go_wp2
          go_roundw
          case rel => exact ⟨k + 1, bs2, by omega, by omega, by go_num, HL2, HO2, HR3, hb2, hsz2⟩
          case measure => simp [intOf]; omega
    · obtain rfl : j = n := by omega
      have HC := Lib.hid (show ∀ m, m < j → wr.cell? ⟨w.heap.size, m, none⟩ = some (.bool (rchB ag fr i m)) from fun m hm => HO.out.cell HL.out (HR.out m hm))
      go_wp2
      go_ret
      exact ⟨_, rfl, hsz, HC.out, hb⟩
end Go.Proofs.Ytdppccipajfamaa
