/-
  dominators: the rows of those that dominate each instruction.
-/
import Derived.Test.YtpkagpobobmnfaaGreatDoorCCc
import Derived.Lib.AppendZeros
namespace Go.Proofs.YtpkagpobobmnfaaGreatDoor
open Go Go.RowKit Go.Shelf Go.Maps

/-- Those below k that dominate i, in order. -/
noncomputable def dmK (n : Nat) (g : Nat → List Nat) (k i : Nat) : List Int := ((List.range k).filter fun d => dmB n g d i).map Int.ofNat
theorem dmKS {n : Nat} {g : Nat → List Nat} {k i : Nat} : dmK n g (k + 1) i = dmK n g k i ++ if dmB n g k i then [(k : Int)] else [] := by
  unfold dmK
  rw [List.range_succ, List.filter_append, List.map_append, List.filter_cons, List.filter_nil]
  cases dmB n g k i <;> rfl
theorem dmKLen {n : Nat} {g : Nat → List Nat} {k i : Nat} : (dmK n g k i).length ≤ k := by
  unfold dmK
  rw [List.length_map]
  exact Nat.le_trans (List.length_filter_le _ _) (by simp)
theorem dmKAll {n : Nat} {g : Nat → List Nat} {i : Nat} : dmK n g n i = (dmL n g i).map Int.ofNat := rfl
def kp9 (b : Bool) (d : Int) : List Int := match b with
  | true => [d]
  | false => []
/-- The rows while d is looked at; those of L are still to come. -/
noncomputable def dmM (n : Nat) (g : Nat → List Nat) (d : Nat) (L : Nat → Bool) (i : Nat) : List Int := dmK n g d i ++ kp9 (dmB n g d i && !L i) d
theorem dmM0 {n : Nat} {g : Nat → List Nat} {d : Nat} {D : List Nat} (hD : ∀ x, x ∈ D ↔ rcB n g (-1) x = true) : dmM n g d (fun x => decide (x ∈ D)) = dmK n g d := by
  funext i
  unfold dmM
  cases e : dmB n g d i
  · exact List.append_nil _
  · have h : i ∈ D := (hD i).2 (rcIff.2 (dmIff.1 e).1)
    dsimp only
    rw [decide_eq_true h]
    exact List.append_nil _
theorem dmMend {n : Nat} {g : Nat → List Nat} {d : Nat} {L : Nat → Bool} (hL : ∀ x, L x = false) : dmM n g d L = dmK n g (d + 1) := by
  funext i
  rw [dmKS]
  unfold dmM
  rw [hL i]
  cases dmB n g d i <;> rfl
theorem dmMno {n : Nat} {g : Nat → List Nat} {d x : Nat} {L : Nat → Bool} (h : dmB n g d x = false) : dmM n g d (fun u => L u && !decide (u = x)) = dmM n g d L := by
  funext i
  unfold dmM
  dsimp only
  by_cases e : i = x
  · subst e; rw [h]; rfl
  · rw [decide_eq_false e, Bool.not_false, Bool.and_true]
theorem dmMyes {n : Nat} {g : Nat → List Nat} {d x : Nat} {L : Nat → Bool} (h : dmB n g d x = true) (hL : L x = true) (i : Nat) : dmM n g d (fun u => L u && !decide (u = x)) i = if i = x then dmM n g d L x ++ [(d : Int)] else dmM n g d L i := by
  unfold dmM
  dsimp only
  by_cases e : i = x
  · subst e
    rw [if_pos rfl, h, hL, decide_eq_true rfl]
    show _ ++ [_] = (_ ++ []) ++ [_]
    rw [List.append_nil]
  · rw [if_neg e, decide_eq_false e, Bool.not_false, Bool.and_true]
theorem dmMlen {n : Nat} {g : Nat → List Nat} {d : Nat} {L : Nat → Bool} {i : Nat} : (dmM n g d L i).length ≤ d + 1 := by
  unfold dmM
  have := dmKLen (n := n) (g := g) (k := d) (i := i)
  rw [List.length_append]
  cases (dmB n g d i && !L i) <;> simp [kp9] <;> omega
/-- The call returns a slice that reads as the slices C 0, .., C (n - 1); nothing that was in memory has changed. -/
def GivesF9 (C : Nat → List Int) (n : Nat) (w : World) (e : Ending) (w' : World) : Prop := ∃ A c, e = .returned (.slice A n c) ∧ RdF w' A c C n ∧ Below w.heap.size w w'
theorem MapSc.others {X Y : World} {b : Nat} {D : List Nat} (h : MapSc X b D) (hk : KeepsOthers X Y) : MapSc Y b D := by
  obtain ⟨T, ⟨es, clock, hb, r⟩, hat⟩ := h
  exact ⟨T, ⟨es, clock, hk.same b _ hb rfl, r⟩, hat⟩
theorem RngS.others {X Y : World} {b r n cnt : Nat} {S L : Nat → Bool} (h : RngS X b r n S L cnt) (hk : KeepsOthers X Y) : RngS Y b r n S L cnt := by
  obtain ⟨D, left, h, h1, h2⟩ := h
  obtain ⟨es, clock, since, seen, c0, e1, F1, hs, hD, e2, rest⟩ := h
  exact ⟨D, left, ⟨es, clock, since, seen, c0, hk.same b _ e1 rfl, F1, hs, hD, hk.same r _ e2 rfl, rest⟩, h1, h2⟩
theorem keepsBelow9 {X Y : World} (h : Below X.heap.size X Y) : KeepsOthers X Y := ⟨h.size, fun q _ ho _ => (h.block q (Array.getElem?_eq_some_iff.1 ho).1).trans ho⟩
/-- n rows of the call's own, in a row of slices that lies in block g. -/
structure RwSt (w : World) (n : Nat) (C : Nat → List Int) (X : World) : Prop where
  ex : ∃ vs, vs.length = n ∧ OwnL X w.heap.size (.slice (some ⟨w.heap.size, 0, none⟩) n n) vs ∧ RowsI X w.heap.size vs C n
  bel : Below w.heap.size w X
  gl : w.heap.size < X.heap.size
theorem RwSt.to {w X : World} {n : Nat} {C C' : Nat → List Int} (h : RwSt w n C X) (e : C = C') : RwSt w n C' X := e ▸ h
theorem RwSt.keep {w X Y : World} {n : Nat} {C : Nat → List Int} (h : RwSt w n C X) {F : Nat → Prop} (hc : Chg X Y F) (hF : ∀ q o, X.heap[q]? = some o → o.isCells = true → F q) (hlo : ∀ q, q < w.heap.size → F q) : RwSt w n C Y := by
  obtain ⟨⟨vs, h1, h2, h3⟩, hb, hg⟩ := h
  refine ⟨⟨vs, h1, ownChg h2 hc fun q hq => ?_, h3.chg hc fun i v q hi hv hq => ?_⟩, ⟨hc.os.trans hb.os, hc.tape.trans hb.tape, hc.output.trans hb.output, Nat.le_trans hb.size hc.size, fun q hq => (hc.block q (Nat.lt_of_lt_of_le hq hb.size) (hlo q hq)).trans (hb.block q hq)⟩, Nat.lt_of_lt_of_le hg hc.size⟩
  · obtain ⟨o, ho, hoc⟩ := ownCells9 h2 hq
    exact hF q o ho hoc
  · obtain ⟨u, hu, ho⟩ := h3.1 i hi
    rw [hv] at hu
    injection hu with hu
    subst hu
    obtain ⟨o, ho, hoc⟩ := ownCells9 ho hq
    exact hF q o ho hoc
theorem RwSt.below {w X Y : World} {n : Nat} {C : Nat → List Int} (h : RwSt w n C X) (hb : Below X.heap.size X Y) : RwSt w n C Y := h.keep (Chg.ofBelow hb fun _ => True) (fun _ _ _ _ => trivial) fun _ _ => trivial
/-- A walk's step: what turns is no cells. -/
theorem RwSt.step {w X Y : World} {n r : Nat} {C : Nat → List Int} (h : RwSt w n C X) (hg : X.grownBy Y (some r)) (hr : ∀ o, X.heap[r]? = some o → o.isCells = false) (hrl : w.heap.size ≤ r) : RwSt w n C Y :=
  h.keep (Chg.ofGrown (F := fun q => q ≠ r) hg fun q hq e => hq (Option.some.inj e).symm) (fun q o ho hoc e => by subst e; rw [hr o ho] at hoc; cases hoc) fun q hq => by show q ≠ r; omega
/-- append of one number onto row i, and the store of the longer row. -/
theorem RwSt.push {w X : World} {n : Nat} {C : Nat → List Int} (h : RwSt w n C X) {i : Nat} (hi : i < n) (hl : (C i).length ≤ 1000) (y : Int) (ty : TypeId) {C' : Nat → List Int} (hC : ∀ j, C' j = if j = i then C i ++ [y] else C j) :
    ∃ A0 c0 A c w2, X.cell? ⟨w.heap.size, i, none⟩ = some (.slice A0 (C i).length c0) ∧ (C i).length ≤ c0 ∧ (Builtin.append_ #[33, 33] ty #[.slice A0 (C i).length c0, .slice (some ⟨X.heap.size, 0, none⟩) 1 1]).run Tryz.prog (X.alloc (.cells #[.int .i64 y] 3)) = .ok (.slice A ((C i).length + 1) c) w2 ∧
      w2.cell? ⟨w.heap.size, i, none⟩ = some (.slice A0 (C i).length c0) ∧ w2.frozen? ⟨w.heap.size, i, none⟩ = false ∧ RwSt w n C' (w2.setCell ⟨w.heap.size, i, none⟩ (.slice A ((C i).length + 1) c)) ∧ KeepsOthers X (w2.setCell ⟨w.heap.size, i, none⟩ (.slice A ((C i).length + 1) c)) ∧
      (∀ q o, q < X.heap.size → w.heap.size ≠ q → (∀ A' c' m, (Value.slice A' m c') = .slice A0 (C i).length c0 → (Value.slice A' m c').ownBlock ≠ some q) → X.heap[q]? = some o → (w2.setCell ⟨w.heap.size, i, none⟩ (.slice A ((C i).length + 1) c)).heap[q]? = some o) := by
  obtain ⟨⟨vs, h1, h2, h3⟩, hb, hg⟩ := h
  obtain ⟨v, hv, ho⟩ := h3.1 i hi
  obtain ⟨A0, c0, rfl, hr0, _⟩ := ho.rd
  have bX := belowAlloc X (.cells #[.int .i64 y] 3)
  have hoA := ho.alloc (.cells #[.int .i64 y] 3)
  obtain ⟨i0, hi0, hz0, hz1, hz2⟩ := info_parts infoInt
  obtain ⟨v', w2, hrun, k1, _, hgr, hmv⟩ := runApp (P := Tryz.prog) (w := X.alloc (.cells #[.int .i64 y] 3)) w.heap.size 33 ty 3 i0 _ 8 Tryz.underlying33 hi0 hz0 hz1 hz2 rfl _ (C i).length (iv (C i)) hoA (some ⟨X.heap.size, 0, none⟩) 1 1 (iv [y]) rfl (litI9 X y 3) (ivOne _) (by omega) (by unfold maxLen; omega) (by have := bX.size; omega)
  have ho' : OwnI w2 w.heap.size v' (C i ++ [y]) := by
    unfold OwnI iv
    rw [List.length_append, List.map_append]
    exact k1
  obtain ⟨A, c, e, _, _⟩ := ho'.rd
  rw [List.length_append] at e
  have e : v' = .slice A ((C i).length + 1) c := e
  subst e
  obtain ⟨hR, hO⟩ := rowsPut h3 h2 h1 hi hv bX hgr hmv ho' C' hC
  have hc1 : Chg (X.alloc (.cells #[.int .i64 y] 3)) w2 (fun q => (Value.slice A0 (C i).length c0).ownBlock ≠ some q) := Chg.ofGrown hgr fun _ h => h
  have hvg : (Value.slice A0 (C i).length c0).ownBlock ≠ some w.heap.size := fun e => ownApart ho h2 (by decide) e rfl
  have hO2 : OwnL w2 w.heap.size (.slice (some ⟨w.heap.size, 0, none⟩) n n) vs := ownChg (h2.alloc _) hc1 fun q hq e => by
    have : w.heap.size = q := by simpa [Value.ownBlock] using hq
    subst this
    exact hvg e
  have hc2 : Chg w2 (w2.setCell ⟨w.heap.size, i, none⟩ (.slice A ((C i).length + 1) c)) (fun q => q ≠ w.heap.size) := Chg.setCell w2 ⟨w.heap.size, i, none⟩ _
  have hsz : X.heap.size + 1 ≤ w2.heap.size := by have := hc1.size; simpa using this
  have hown : ∀ q, (Value.slice A0 (C i).length c0).ownBlock = some q → w.heap.size ≤ q := fun q hq => (World.ownsRow.lt ho q hq).1
  refine ⟨A0, c0, A, c, w2, ?_, hr0.le, hrun, ?_, ?_, ⟨⟨vs.set i _, by rw [List.length_set, h1], hO, hR⟩, ?_, ?_⟩, ?_, ?_⟩
  · have h := h2
    unfold OwnL at h
    rw [h1] at h
    rw [World.ownsRow.cellAt h i (by omega)]
    exact hv
  · have h := hO2
    unfold OwnL at h
    rw [h1] at h
    rw [World.ownsRow.cellAt h i (by omega)]
    exact hv
  · have h := hO2
    unfold OwnL at h
    rw [h1] at h
    exact World.ownsRow.frozenAt h i
  · refine ⟨hc2.os.trans (hc1.os.trans (bX.os.trans hb.os)), hc2.tape.trans (hc1.tape.trans (bX.tape.trans hb.tape)), hc2.output.trans (hc1.output.trans (bX.output.trans hb.output)), by have := hc2.size; have := hb.size; omega, fun q hq => ?_⟩
    exact (hc2.block q (by omega) (by omega)).trans ((hc1.block q (by have := bX.size; omega) fun e => by have := hown q e; omega).trans ((bX.block q (by omega)).trans (hb.block q hq)))
  · have := hc2.size; omega
  · refine ⟨by have := hc2.size; omega, fun q o ho2 hoc => ?_⟩
    have hql := (Array.getElem?_eq_some_iff.1 ho2).1
    have hq1 : (Value.slice A0 (C i).length c0).ownBlock ≠ some q := fun e => by
      obtain ⟨o2, e2, hc⟩ := ownCells9 ho e
      rw [ho2] at e2
      injection e2 with e2
      subst e2
      rw [hoc] at hc; cases hc
    have hq2 : q ≠ w.heap.size := fun e => by
      obtain ⟨o2, e2, hc⟩ := ownCells9 h2 (g := w.heap.size) rfl
      subst e
      rw [ho2] at e2
      injection e2 with e2
      subst e2
      rw [hoc] at hc; cases hc
    exact (hc2.block q (by omega) hq2).trans ((hc1.block q (by have := bX.size; omega) hq1).trans ((bX.block q hql).trans ho2))
  · intro q o hql hne hnv ho2
    exact (hc2.block q (by omega) (Ne.symm hne)).trans ((hc1.block q (by have := bX.size; omega) (hnv _ _ _ rfl)).trans ((bX.block q hql).trans ho2))
theorem RwSt.rdF {w X : World} {n : Nat} {C : Nat → List Int} (h : RwSt w n C X) : RdF X (some ⟨w.heap.size, 0, none⟩) n C n := by
  obtain ⟨⟨vs, h1, h2, h3⟩, _, _⟩ := h
  obtain ⟨A, c, e, hr, _⟩ := OwnL.rds h2
  rw [h1] at e
  injection e with e1 _ e2
  subst e1; subst e2
  refine ⟨vs, hr, h1, fun i hi => ?_⟩
  obtain ⟨v, hv, ho⟩ := h3.1 i hi
  obtain ⟨A', c', rfl, hr', _⟩ := ho.rd
  exact ⟨A', c', hv, hr'⟩
end Go.Proofs.YtpkagpobobmnfaaGreatDoor

namespace Go.Proofs.YtpkagpobobmnfaaGreatDoor
open Go Go.RowKit Go.Shelf Go.Maps

set_option maxRecDepth 100000 in
set_option maxHeartbeats 1000000 in
theorem iDoms (C : List I8) (hok : CfOk C) (n : Nat) (hn : C.length = n) (A : Option Addr) (c : Nat) (w : World) (hr : RdE 8 EI w A c C) :
    Calls Tryz.prog 53 #[.slice A n c] w (GivesF9 (dmK n (sc C) n) n w) := by
  have h64 := hok.len
  have hle := hr.le
  have hmx := hr.max
  rw [hn] at hle h64
  unfold maxLen at hmx
  have HRW := Lib.hid (fun (d : Int) X (hX : Below w.heap.size w X) => iReachW C hok n hn A c d X (hr.below stabI hX))
  obtain ⟨g, hg⟩ : ∃ g, sc C = g := ⟨_, rfl⟩
  rw [hg] at HRW ⊢
  obtain ⟨i0, hi, hz0, hz1, hz2⟩ := info_parts infoSl
  have HBY := Lib.hid (show i0.bytes * n ≤ 281474976710656 by rw [hz2]; omega)
  have HNM := Lib.hid (show n ≤ maxLen by unfold maxLen; omega)
  clear hr hok hn hg
  go_enter Tryz.func53, Tryz.ntmps53
  go_wp2_with (first
    | (at_make; refine wpList_make_full _ rfl (.tmp 9) (.tmp 9) 57 rfl w.heap.size 33 i0 _ 1 Tryz.underlying57 hi hz0 hz1 .i64 .i64 _ _ n rfl rfl rfl rfl HBY.out HNM.out (by simp) ?_; intro w1 o1 g1; have O1 := Lib.hid o1; have G1 := Lib.hid g1; clear o1 g1)
    | fail)
  have hb1 : Below w.heap.size w w1 := (Below.refl _ w).grown G1.out (Nat.le_refl _) (fun k hk => by cases hk)
  have HS1 : Hid (RwSt w n (dmK n g 0) w1) := by
    have h := O1.out
    have e : (madeCells (Value.slice none 0 0).cells (n * 1)).toList = List.replicate n (.slice none 0 0) := by rw [Nat.mul_one]; exact toList_madeCells_one _ _
    rw [e] at h
    refine Lib.hid ⟨⟨List.replicate n (.slice none 0 0), by simp, by unfold OwnL; rw [List.length_replicate]; exact h, ⟨fun i hi => ⟨.slice none 0 0, by rw [List.getElem?_replicate, if_pos hi], OwnI.nil _ _⟩, fun i j u v q hi _ _ hu _ hq => ?_⟩⟩, hb1, (World.ownsRow.lt O1.out _ rfl).2⟩
    rw [List.getElem?_replicate, if_pos hi] at hu
    injection hu with hu
    subst hu
    simp [Value.ownBlock] at hq
  clear hi hz0 hz1 hz2 O1 G1
  refine (HRW.out (-1) w1 hb1).mono ?_
  rintro e w2 ⟨gR, D, rfl, hM, hnd, hD, hgR, b2⟩
  have HS2 := Lib.hid (HS1.out.below b2)
  have HM2 := Lib.hid hM
  have HD := Lib.hid hD
  have hzR : w.heap.size < gR := by have := HS1.out.gl; omega
  clear HS1 hM hnd hD hgR b2 hb1
  go_wp2_with fail
  go_loopw [15] (fun v X => ∃ d : Nat, d ≤ n ∧ v = .int .i64 d ∧ Hid (RwSt w n (dmK n g d) X) ∧ Hid (MapSc X gR D)) (fun v _ => n - (intOf v).toNat)
  case atStart => exact ⟨0, Nat.zero_le _, rfl, HS2, HM2⟩
  case round =>
    obtain ⟨d, hd, rfl, HS, HM⟩ := hrel
    by_cases hlt : d < n
    · have HC := Lib.hid (HRW.out (d : Int) wr HS.out.bel)
      go_wp2_with fail
      refine HC.out.mono ?_
      rintro e w3 ⟨gO, E, rfl, hMO, _, hE, hgO, b3⟩
      have HS3 := Lib.hid (HS.out.below b3)
      have HM3 := Lib.hid (HM.out.others (keepsBelow9 b3))
      have HMO := Lib.hid hMO
      have hlR := HM3.out.lt
      have hlO := hMO.lt
      have HE := Lib.hid hE
      clear hMO hE b3
      go_wp2_with (at_range; refine wpList_rangeS w3 rfl (.tmp 21) rfl gR D rfl HM3.out ?_; intro w4 cnt0 hr4 hb4 hz4; have HR4 := Lib.hid hr4; have HB4 := Lib.hid hb4; clear hr4 hb4)
      go_frame
      have hz3 := HS3.out.gl
      have HS4 := Lib.hid ((HS3.out.below HB4.out).to (dmM0 HD.out).symm)
      have HM4 := Lib.hid (HM3.out.others (keepsBelow9 HB4.out))
      have HMO4 := Lib.hid (HMO.out.others (keepsBelow9 HB4.out))
      clear HS3 HM3 HMO HS HM HC
      go_loopw [7] (fun _ X => ∃ (L : Nat → Bool) (cnt : Nat), Hid (RngS X gR w3.heap.size D.length (fun x => decide (x ∈ D)) L cnt) ∧ Hid (∀ x, L x = true → x ∈ D) ∧ Hid (RwSt w n (dmM n g d L) X) ∧ Hid (MapSc X gR D) ∧ Hid (MapSc X gO E)) (fun _ X => X.rangeLeft gR w3.heap.size)
      case atStart => exact ⟨_, cnt0, HR4, Lib.hid (fun x h => of_decide_eq_true h), HS4, HM4, HMO4⟩
      case round =>
        clear HR4 HS4 HM4 HMO4
        obtain ⟨L, cnt, HRG, HL, HSr, HMr, HOr⟩ := hrel
        go_wp2_with (at_next; refine wpList_nextS _ rfl _ rfl gR w3.heap.size D.length _ L cnt rfl HRG.out ?_ ?_)
        · intro hdone
          have HF := Lib.hid (HSr.out.to (dmMend hdone))
          clear hdone
          go_wp2
          go_roundw
          case rel => exact ⟨d + 1, by omega, by go_num, HF, HMr⟩
          case measure => simp [intOf]; omega
        · intro x c9 w5 cnt5 hx hr5 hlt5 hg5 hz5 hen
          have hxD := HL.out x hx
          have hxr := (HD.out x).1 hxD
          have hxn : x < n := (avdIff.1 (rcIff.1 hxr).right).1
          have HR5 := Lib.hid hr5
          have hnr := HRG.out.notCells
          have HS5 := Lib.hid (HSr.out.step hg5 hnr (by omega))
          have hk5 : Chg wr w5 (fun q => q ≠ w3.heap.size) := Chg.ofGrown (F := fun q => q ≠ w3.heap.size) hg5 fun q hq e => hq (Option.some.inj e).symm
          have HM5 := Lib.hid (HMr.out.chg hk5 (by omega))
          have HO5 := Lib.hid (HOr.out.chg hk5 (by omega))
          have hrun := HO5.out.look (x := x) (by omega)
          have HL5 := Lib.hid (fun u (h : (L u && !decide (u = x)) = true) => HL.out u (by rw [Bool.and_eq_true] at h; exact h.1))
          have hll := HRG.out.left_eq
          have hx0 : (0 : Int) ≤ x := by omega
          have hx1 : (x : Int) < n := by omega
          clear hnr hk5 hr5 hg5 hz5
          by_cases hxE : x ∈ E
          · have hdm : dmB n g d x = false := by unfold dmB; rw [(HE.out x).1 hxE]; simp
            have HF := Lib.hid (HS5.out.to (dmMno hdm).symm)
            simp only [hxE, decide_true] at hrun
            go_wp2
            go_roundw
            case rel => exact ⟨_, cnt5, HR5, HL5, HF, HM5, HO5⟩
            case measure => rw [HR5.out.left_eq, hll]; exact hlt5
          · have hdm : dmB n g d x = true := by
              unfold dmB
              have : rcB n g d x = false := by
                cases e : rcB n g d x
                · rfl
                · exact absurd ((HE.out x).2 e) hxE
              rw [hxr, this]; rfl
            simp only [hxE, decide_false] at hrun
            obtain ⟨A0, c0, A2, c2, w6, hc5, hc0, hap, hc6, hf6, hs6, hk6, _⟩ := HS5.out.push hxn (by have := dmMlen (n := n) (g := g) (d := d) (L := L) (i := x); omega) (d : Int) 33 (dmMyes hdm hx)
            have hlen := dmMlen (n := n) (g := g) (d := d) (L := L) (i := x)
            obtain ⟨m, hm⟩ : ∃ m, (dmM n g d L x).length = m := ⟨_, rfl⟩
            rw [hm] at hc5 hc0 hap hc6 hs6 hk6 hlen
            have HS6 := Lib.hid hs6
            have HK6 := Lib.hid hk6
            clear hs6 hk6 hm
            go_wp2_with (at_builtin; refine Lib.wpList_append_run _ rfl (.tmp 36) (.tmp 38) 33 33 rfl _ _ rfl rfl _ _ hap ?_)
            all_goals go_roundw
            case rel => exact ⟨_, cnt5, Lib.hid (HR5.out.others HK6.out), HL5, HS6, Lib.hid (HM5.out.others HK6.out), Lib.hid (HO5.out.others HK6.out)⟩
            case measure => rw [(HR5.out.others HK6.out).left_eq, hll]; exact hlt5
    · obtain rfl : d = n := by omega
      have HF := Lib.hid HS.out.rdF
      have HB := Lib.hid HS.out.bel
      go_wp2
      go_ret
      exact ⟨_, _, rfl, HF.out, HB.out⟩
end Go.Proofs.YtpkagpobobmnfaaGreatDoor
