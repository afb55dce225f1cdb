/-
  slices.Values over a row, and the two function values of Loops: the predecessors' iterator, what the search may enter.
-/
import Derived.Test.YtpkagpobobmnfaaGreatDoorCCfI
import Derived.Test.YtpkagpobobmnfaaGreatDoorCLm
namespace Go.Proofs.YtpkagpobobmnfaaGreatDoor
open Go Go.RowKit Go.Shelf
attribute [local go_sem] Oper.semAt_some

theorem entVal1 : ∀ args w, (callFunc 100 args).run Tryz.prog w = .ok (.enter 100 args) w := enters_of Tryz.func100 (by kernel_rfl) rfl
set_option maxRecDepth 100000 in
set_option maxHeartbeats 4000000 in
theorem valSeq (L : List Nat) (n : Nat) (hn : L.length = n) (A : Option Addr) (c b : Nat) (w : World) (hr : Rd w A c (L.map Int.ofNat)) (hb : w.cell? ⟨b, 0, none⟩ = some (.slice A n c)) :
    ItOk 100 #[.pointer (some ⟨b, 0, none⟩)] L w := ⟨entVal1, fun mm hmm l J Jx W hW hJ hJx hY h0 => by
  have hbl : b < w.heap.size := World.block_lt_of_cell? w _ hb
  have hbW := (hW.cell (p := ⟨b, 0, none⟩) hbl).trans hb
  have hle := Rd.le hr
  have hmx := Rd.max hr
  rw [List.length_map, hn] at hle
  unfold maxLen at hmx
  have HRD := Lib.hid (fun X (hX : KeepC w.heap.size w X) => KeepC.rdI hX (Nat.le_refl _) hr)
  have HKW := Lib.hid (KeepC.below hW : KeepC w.heap.size w W)
  have HN := Lib.hid hn
  have HY := Lib.hid hY
  clear hr hn hY
  refine callsIn_of_wp Tryz.func100 rfl trivial ?_ rfl
  simp only [Tryz.ntmps100, List.size_toArray, List.length_cons, List.length_nil, Nat.reduceAdd, Nat.reduceSub, Array.replicate_succ, Array.replicate_zero, List.push_toArray, List.append_toArray, List.nil_append, List.cons_append]
  gi_wp2_with fail
  gi_loopw [7] (fun v wr => ∃ i : Nat, i ≤ n ∧ v = .int .i64 i ∧ J (L.take i) wr ∧ Hid (KeepC w.heap.size w wr)) (fun v _ => n - (intOf v).toNat)
  case atStart => exact ⟨0, Nat.zero_le _, rfl, h0, HKW⟩
  case round =>
    obtain ⟨i, hi, rfl, hJs, HK⟩ := hrel
    by_cases hlt : i < n
    · have hil : i < L.length := by rw [HN.out]; exact hlt
      have hil2 : i < (L.map Int.ofNat).length := by rw [List.length_map]; exact hil
      obtain ⟨ad, hA, _, hc⟩ := (HRD.out wr HK.out).one hil2
      rw [List.getElem_map] at hc
      subst hA
      obtain ⟨x, hx⟩ : ∃ x, L[i] = x := ⟨_, rfl⟩
      rw [hx] at hc
      have hc : wr.cell? (ad.add i) = some (.int .i64 (x : Int)) := hc
      have hsp : L = L.take i ++ x :: L.drop (i + 1) := by rw [← hx, ← List.drop_eq_getElem_cons hil, List.take_append_drop]
      have HTK := Lib.hid (show L.take (i + 1) = L.take i ++ [x] by rw [List.take_succ_eq_append_getElem hil, hx])
      obtain ⟨fn, tmps, assign, body, hy, hR⟩ := HY.out (L.take i) x (L.drop (i + 1)) wr hsp hJs
      simp only [encN] at hy
      have hi0 : (0 : Int) ≤ i := by omega
      have hi1 : (i : Int) < n := by omega
      clear hx hsp
      gi_wp2_with fail
      refine ⟨fun _ => by omega, hR.mono ?_⟩
      rintro e W3 (⟨rfl, hJ3, hk3⟩ | ⟨rfl, hJx3⟩)
      · have HK3 := Lib.hid (HK.out.trans hk3)
        rw [← HTK.out] at hJ3
        gi_wp2_with fail
        go_roundw
        case rel => exact ⟨i + 1, hlt, by go_num, hJ3, HK3⟩
        case measure => simp [intOf]; omega
      · gi_wp2_with fail
        refine bodyPost_ret (results_none rfl _ _ _) rfl ?_
        exact ⟨⟨_, rfl⟩, .inr ⟨_, hJx3⟩⟩
    · have hin : n = i := by omega
      subst hin
      have ht : L.take n = L := List.take_of_length_le (by rw [HN.out]; exact Nat.le_refl _)
      rw [ht] at hJs
      gi_wp2
      go_end0
      exact ⟨⟨_, rfl⟩, .inl hJs⟩⟩
theorem iValues (L : List Nat) (n : Nat) (hn : L.length = n) (A : Option Addr) (c : Nat) (w : World) (hr : Rd w A c (L.map Int.ofNat)) :
    Calls Tryz.prog 56 #[.slice A n c] w fun e Y => (∃ lb, e = .returned (.func (.func 100) #[] lb) ∧ ItOk 100 lb L Y) ∧ Below w.heap.size w Y := by
  have HIT := Lib.hid (valSeq L n hn A c w.heap.size (w.alloc (.cells #[.slice A n c] 33)) (Rd.below hr (belowAlloc w _)) ((Blk.new w _ _).cell 0))
  clear hr
  go_enter Tryz.func56, Tryz.ntmps56
  go_wp2
  go_ret
  exact ⟨⟨_, rfl, HIT.out⟩, belowAlloc w _⟩
theorem rdFLat {w X : World} (hX : Lat w X) {A : Option Addr} {c n : Nat} {C : Nat → List Int} (h : RdF w A c C n) : RdF X A c C n := by
  obtain ⟨vs, h1, h2, h3⟩ := h
  refine ⟨vs, ⟨Rds.le h1, Rds.max h1, fun hn => ?_⟩, h2, fun i hi => ?_⟩
  · obtain ⟨ad, e, hl, hc⟩ := Rds.at_ h1 hn
    exact ⟨ad, e, Nat.lt_of_lt_of_le hl hX.sz, fun j v hj => hX.cell (by rw [addBlock]; exact hl) (hc j v hj)⟩
  · obtain ⟨A', c', e, hr⟩ := h3 i hi
    exact ⟨A', c', e, KeepC.rdI hX (Nat.le_refl _) hr⟩
theorem entL1 : ∀ args w, (callFunc 55 args).run Tryz.prog w = .ok (.enter 55 args) w := enters_of Tryz.func55 (by kernel_rfl) rfl
theorem entL2 : ∀ args w, (callFunc 58 args).run Tryz.prog w = .ok (.enter 58 args) w := enters_of Tryz.func58 (by kernel_rfl) rfl
set_option maxRecDepth 100000 in
set_option maxHeartbeats 2000000 in
/-- Loops' back: iterators over the rows of predecessors. -/
theorem backSt (P : Nat → List Nat) (n1 n : Nat) (hle : n ≤ n1) (A : Option Addr) (c b : Nat) (w : World) (hr : RdF w A c (fun x => (P x).map Int.ofNat) n1) (hb : w.cell? ⟨b, 0, none⟩ = some (.slice A n1 c)) :
    StOk 55 #[] #[.pointer (some ⟨b, 0, none⟩)] n P w := ⟨entL1, fun X k hX hk => by
  have hbX := hX.cell (a := ⟨b, 0, none⟩) (World.block_lt_of_cell? w _ hb) hb
  have hrX := rdFLat hX hr
  have hcl := hrX.le
  have hcm := hrX.max
  unfold maxLen at hcm
  obtain ⟨ad, A', c', hA, _, hcc, hrr⟩ := hrX.one (k := k) (by omega)
  subst hA
  obtain ⟨m, hm⟩ : ∃ m, ((P k).map Int.ofNat).length = m := ⟨_, rfl⟩
  rw [hm] at hcc
  have HV := Lib.hid (iValues (P k) m (by rw [← hm, List.length_map]) A' c' X hrr)
  have hk0 : (0 : Int) ≤ k := by omega
  have hk1 : (k : Int) < n1 := by omega
  have e : (#[] : Array Value).push (.int .i64 (k : Int)) ++ #[.pointer (some ⟨b, 0, none⟩)] = #[.int .i64 (k : Int), .pointer (some ⟨b, 0, none⟩)] := rfl
  rw [e]
  clear hr hb hrX hrr hm e hX
  go_enter Tryz.func55, Tryz.ntmps55
  go_wp2_with fail
  refine HV.out.mono ?_
  rintro e Y ⟨⟨lb, rfl, hit⟩, hbY⟩
  have HIT := Lib.hid hit
  clear hit
  go_wp2
  go_ret
  exact ⟨⟨_, _, rfl, HIT.out⟩, hbY⟩⟩
set_option maxRecDepth 100000 in
set_option maxHeartbeats 2000000 in
/-- What the search for a loop's body may enter: all that is reachable, but the header. -/
theorem alhAl (g : Nat → List Nat) (n h : Nat) (A : Option Addr) (c b1 b2 : Nat) (w : World) (hr : RdF w A c (dmK n g n) n) (hb1 : w.cell? ⟨b1, 0, none⟩ = some (.int .i64 (h : Int))) (hb2 : w.cell? ⟨b2, 0, none⟩ = some (.slice A n c)) :
    ∀ X k, Lat w X → k < n → Calls Tryz.prog 58 #[.int .i64 (k : Int), .pointer (some ⟨b1, 0, none⟩), .pointer (some ⟨b2, 0, none⟩)] X fun e Y => e = .returned (.bool (alh n g h k)) ∧ Below X.heap.size X Y := fun X k hX hk => by
  have c1 := hX.cell (a := ⟨b1, 0, none⟩) (World.block_lt_of_cell? w _ hb1) hb1
  have c2 := hX.cell (a := ⟨b2, 0, none⟩) (World.block_lt_of_cell? w _ hb2) hb2
  have hrX := rdFLat hX hr
  have hcl := hrX.le
  have hcm := hrX.max
  unfold maxLen at hcm
  obtain ⟨ad, A', c', hA, _, hcc, hrr⟩ := hrX.one (k := k) hk
  subst hA
  have hle2 := Rd.le hrr
  have hmx2 := Rd.max hrr
  unfold maxLen at hmx2
  have hpos : (0 < (dmK n g n k).length) ↔ rcB n g (-1) k = true := by
    rw [dmKAll, List.length_map]
    constructor
    · intro hl
      obtain ⟨d, hd⟩ := List.exists_mem_of_length_pos hl
      exact rcIff.2 (dmIff.1 (dmLMem.1 hd)).1
    · intro hrc
      exact List.length_pos_of_mem (dmLMem.2 (dmRefl hrc))
  obtain ⟨m, hm⟩ : ∃ m, (dmK n g n k).length = m := ⟨_, rfl⟩
  rw [hm] at hcc hpos hle2
  have hk0 : (0 : Int) ≤ k := by omega
  have hk1 : (k : Int) < n := by omega
  clear hr hb1 hb2 hrX hrr hm hX
  by_cases hkh : k = h
  · have hb9 : ((k : Int) != (h : Int)) = false := by simp; omega
    have hv : alh n g h k = false := by unfold alh; rw [decide_eq_false (fun e => e hkh), Bool.and_false]
    rw [hv]
    clear hkh hv hpos
    go_enter Tryz.func58, Tryz.ntmps58
    go_wp2
    go_ret
    exact ⟨rfl, Below.refl _ _⟩
  · have hb9 : ((k : Int) != (h : Int)) = true := by simp; omega
    by_cases hm0 : 0 < m
    · have hv : alh n g h k = true := by unfold alh; rw [hpos.1 hm0, decide_eq_true hkh]; rfl
      have d1 : decide ((0 : Int) < (m : Int)) = true := decide_eq_true (by omega)
      rw [hv]
      clear hkh hv hpos
      go_enter Tryz.func58, Tryz.ntmps58
      go_wp2
      all_goals first
        | (exfalso; omega)
        | (go_ret; exact ⟨rfl, Below.refl _ _⟩)
    · have hv : alh n g h k = false := by
        unfold alh
        cases e : rcB n g (-1) k
        · rfl
        · exact absurd (hpos.2 e) hm0
      have d1 : decide ((0 : Int) < (m : Int)) = false := decide_eq_false (by omega)
      rw [hv]
      clear hkh hv hpos
      go_enter Tryz.func58, Tryz.ntmps58
      go_wp2
      all_goals first
        | (exfalso; omega)
        | (go_ret; exact ⟨rfl, Below.refl _ _⟩)
end Go.Proofs.YtpkagpobobmnfaaGreatDoor

namespace Go.Proofs.YtpkagpobobmnfaaGreatDoor
open Go Go.RowKit Go.Shelf
attribute [local go_sem] Oper.semAt_some

set_option maxRecDepth 100000 in
set_option maxHeartbeats 4000000 in
theorem valSeqK (L : List Nat) (n : Nat) (hn : L.length = n) (A : Option Addr) (c b : Nat) (w : World) (hr : Rd w A c (L.map Int.ofNat)) (hb : w.cell? ⟨b, 0, none⟩ = some (.slice A n c))
    (Kp : World → World → Prop) (hKp : ∀ X Y, Kp X Y → Rd X A c (L.map Int.ofNat) → Rd Y A c (L.map Int.ofNat)) :
    ∀ m, 3 ≤ m → SeqC Fence.wide m Tryz.prog 100 #[.pointer (some ⟨b, 0, none⟩)] encN Kp L w := fun mm hmm l J Jx W hW hJ hJx hY h0 => by
  have hbl : b < w.heap.size := World.block_lt_of_cell? w _ hb
  have hbW := (hW.cell (p := ⟨b, 0, none⟩) hbl).trans hb
  have hle := Rd.le hr
  have hmx := Rd.max hr
  rw [List.length_map, hn] at hle
  unfold maxLen at hmx
  have HKW := Lib.hid (Rd.below hr hW)
  have HN := Lib.hid hn
  have HY := Lib.hid hY
  clear hr hn hY
  refine callsIn_of_wp Tryz.func100 rfl trivial ?_ rfl
  simp only [Tryz.ntmps100, List.size_toArray, List.length_cons, List.length_nil, Nat.reduceAdd, Nat.reduceSub, Array.replicate_succ, Array.replicate_zero, List.push_toArray, List.append_toArray, List.nil_append, List.cons_append]
  gi_wp2_with fail
  gi_loopw [7] (fun v wr => ∃ i : Nat, i ≤ n ∧ v = .int .i64 i ∧ J (L.take i) wr ∧ Hid (Rd wr A c (L.map Int.ofNat))) (fun v _ => n - (intOf v).toNat)
  case atStart => exact ⟨0, Nat.zero_le _, rfl, h0, HKW⟩
  case round =>
    obtain ⟨i, hi, rfl, hJs, HK⟩ := hrel
    by_cases hlt : i < n
    · have hil : i < L.length := by rw [HN.out]; exact hlt
      have hil2 : i < (L.map Int.ofNat).length := by rw [List.length_map]; exact hil
      obtain ⟨ad, hA, _, hc⟩ := HK.out.one hil2
      rw [List.getElem_map] at hc
      subst hA
      obtain ⟨x, hx⟩ : ∃ x, L[i] = x := ⟨_, rfl⟩
      rw [hx] at hc
      have hc : wr.cell? (ad.add i) = some (.int .i64 (x : Int)) := hc
      have hsp : L = L.take i ++ x :: L.drop (i + 1) := by rw [← hx, ← List.drop_eq_getElem_cons hil, List.take_append_drop]
      have HTK := Lib.hid (show L.take (i + 1) = L.take i ++ [x] by rw [List.take_succ_eq_append_getElem hil, hx])
      obtain ⟨fn, tmps, assign, body, hy, hR⟩ := HY.out (L.take i) x (L.drop (i + 1)) wr hsp hJs
      simp only [encN] at hy
      have hi0 : (0 : Int) ≤ i := by omega
      have hi1 : (i : Int) < n := by omega
      clear hx hsp
      gi_wp2_with fail
      refine ⟨fun _ => by omega, hR.mono ?_⟩
      rintro e W3 (⟨rfl, hJ3, hk3⟩ | ⟨rfl, hJx3⟩)
      · have HK3 := Lib.hid (hKp _ _ hk3 HK.out)
        rw [← HTK.out] at hJ3
        gi_wp2_with fail
        go_roundw
        case rel => exact ⟨i + 1, hlt, by go_num, hJ3, HK3⟩
        case measure => simp [intOf]; omega
      · gi_wp2_with fail
        refine bodyPost_ret (results_none rfl _ _ _) rfl ?_
        exact ⟨⟨_, rfl⟩, .inr ⟨_, hJx3⟩⟩
    · have hin : n = i := by omega
      subst hin
      have ht : L.take n = L := List.take_of_length_le (by rw [HN.out]; exact Nat.le_refl _)
      rw [ht] at hJs
      gi_wp2
      go_end0
      exact ⟨⟨_, rfl⟩, .inl hJs⟩
end Go.Proofs.YtpkagpobobmnfaaGreatDoor

namespace Go.Proofs.YtpkagpobobmnfaaGreatDoor
open Go Go.RowKit Go.Shelf

theorem rcGraph {g g' : Nat → List Nat} {al : Nat → Bool} {s x : Nat} (hg : ∀ u v, v ∈ g u → v ∈ g' u) (h : Rc g al s x) : Rc g' al s x :=
  Rc.ind (P := fun s => Rc g' al s x) (fun h => Rc.refl h) (fun _ _ ha hy _ h => Rc.step ha (hg _ _ hy) h) h
/-- Where the back edges of h begin, as the program collects them. -/
noncomputable def bgL (C : List I8) (h : Nat) : List Nat := (pv C h).filter fun s => dmB C.length (sc C) h s
theorem bgLMem {C : List I8} {h s : Nat} : s ∈ bgL C h ↔ bgB C.length (sc C) h s = true := by
  unfold bgL bgB
  rw [List.mem_filter, pvMem, Bool.and_eq_true, decide_eq_true_iff]
  exact ⟨fun hh => ⟨hh.1.2, hh.2⟩, fun hh => ⟨⟨(dmLt hh.2).2, hh.1⟩, hh.2⟩⟩
theorem bdPv {C : List I8} {h x : Nat} : (∃ s, s ∈ bgL C h ∧ Rc (pv C) (alh C.length (sc C) h) s x) ↔ bdB C.length (sc C) h x = true := by
  rw [bdIff]
  constructor
  · rintro ⟨s, hs, hr⟩
    exact ⟨s, bgLMem.1 hs, rcGraph (fun u v hv => pvrMem.2 (pvMem.1 hv)) hr⟩
  · rintro ⟨s, hs, hr⟩
    exact ⟨s, bgLMem.2 hs, rcGraph (fun u v hv => pvMem.2 (pvrMem.1 hv)) hr⟩
theorem bgLNone {C : List I8} {h : Nat} : bgL C h = [] ↔ bkB C.length (sc C) h = false := by
  unfold bkB
  rw [List.any_eq_false, List.eq_nil_iff_forall_not_mem]
  constructor
  · intro hh x _ hb
    exact hh x (bgLMem.2 hb)
  · intro hh x hx
    have hb := bgLMem.1 hx
    refine hh x (List.mem_range.2 ?_) hb
    unfold bgB at hb
    rw [Bool.and_eq_true] at hb
    exact (dmLt hb.2).2
theorem iBody (C : List I8) (hok : CfOk C) (n : Nat) (hn : C.length = n) (h : Nat) (hh : h < n) (Ad Ap : Option Addr) (cd cp b6 b7 b10 n1 : Nat) (hn1 : n ≤ n1) (m : Nat) (hm : (bgL C h).length = m) (A : Option Addr) (c : Nat) (w : World)
    (hd : RdF w Ad cd (dmK n (sc C) n) n) (hp : RdF w Ap cp (fun x => (pv C x).map Int.ofNat) n1)
    (h6 : w.cell? ⟨b6, 0, none⟩ = some (.slice Ad n cd)) (h7 : w.cell? ⟨b7, 0, none⟩ = some (.slice Ap n1 cp)) (h10 : w.cell? ⟨b10, 0, none⟩ = some (.int .i64 (h : Int))) (ha : Rd w A c ((bgL C h).map Int.ofNat)) :
    Calls Tryz.prog 57 #[.slice A m c, .func (.func 55) #[] #[.pointer (some ⟨b7, 0, none⟩)], .func (.func 58) #[] #[.pointer (some ⟨b10, 0, none⟩), .pointer (some ⟨b6, 0, none⟩)]] w fun e w' => ∃ gm D, e = .returned (.map (some gm)) ∧ MapSc w' gm D ∧ D.Nodup ∧ (∀ x, x ∈ D ↔ bdB n (sc C) h x = true) ∧ w.heap.size ≤ gm ∧ Below w.heap.size w w' := by
  have h64 := hok.len
  rw [hn] at h64
  have hpn : ∀ x y, y ∈ pv C x → y < n := fun x y hy => by have := (pvMem.1 hy).1; omega
  have hso : SeOk ⟨55, #[], #[.pointer (some ⟨b7, 0, none⟩)], 58, #[.pointer (some ⟨b10, 0, none⟩), .pointer (some ⟨b6, 0, none⟩)], n, pv C, alh n (sc C) h, n - 1⟩ w :=
    ⟨backSt (pv C) n1 n hn1 Ap cp b7 w hp h7, ⟨entL2, fun X k hX hk => by
      have hk' : k < n := by have : k ≤ n - 1 := hk; omega
      have := alhAl (sc C) n h Ad cd b10 b6 w hd h10 h6 X k hX hk'
      simpa using this⟩, fun x hx => rcLt (alhIff.1 hx).1, fun x y hy => by have := hpn x y hy; show y ≤ n - 1; omega, by show n ≤ 1000; omega, by show n - 1 ≤ 1000; omega⟩
  refine (iSearch (bgL C h) m hm (fun s hs => by
    have hs2 : s ∈ pv C h := (List.mem_filter.1 hs).1
    have := hpn h s hs2
    show s ≤ n - 1
    omega) A c w hso ha).mono ?_
  rintro e w' ⟨gm, D, rfl, h1, h2, h3, h4, h5⟩
  refine ⟨gm, D, rfl, h1, h2, fun x => ?_, h4, h5⟩
  rw [h3 x]
  have := bdPv (C := C) (h := h) (x := x)
  rw [hn] at this
  exact this
end Go.Proofs.YtpkagpobobmnfaaGreatDoor

namespace Go.Proofs.YtpkagpobobmnfaaGreatDoor
open Go Go.RowKit Go.Shelf

theorem bdLt {n : Nat} {g : Nat → List Nat} {h x : Nat} (hx : bdB n g h x = true) : x < n := by
  obtain ⟨s, _, hr⟩ := bdIff.1 hx
  exact rcLt (alhIff.1 hr.right).1
theorem mkBd {n : Nat} {g : Nat → List Nat} {h : Nat} {D : List Nat} (hD : ∀ x, x ∈ D ↔ bdB n g h x = true) : mk (D.map Int.ofNat) = ((List.range n).filter (bdB n g h)).map Int.ofNat := by
  refine srtExt (srtMk _) ?_ fun x => ?_
  · unfold Srt
    rw [List.pairwise_map]
    exact (List.pairwise_lt_range.filter _).imp fun h => by simpa using h
  · rw [memMk, List.mem_map, List.mem_map]
    constructor
    · rintro ⟨y, hy, rfl⟩
      have hb := (hD y).1 hy
      exact ⟨y, List.mem_filter.2 ⟨List.mem_range.2 (bdLt hb), hb⟩, rfl⟩
    · rintro ⟨y, hy, rfl⟩
      exact ⟨y, (hD y).2 (List.mem_filter.1 hy).2, rfl⟩
/-- What Loops lays down for a header. -/
theorem lpLOf {n : Nat} {g : Nat → List Nat} {h : Nat} {D : List Nat} (hD : ∀ x, x ∈ D ↔ bdB n g h x = true) : [(h : Int)] ++ mk (D.map Int.ofNat) = lpL n g h := by
  rw [mkBd hD]
  rfl
end Go.Proofs.YtpkagpobobmnfaaGreatDoor
