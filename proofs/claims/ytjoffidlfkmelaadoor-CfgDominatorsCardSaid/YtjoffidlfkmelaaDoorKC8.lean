/-
  slices.Values over a row, and the two function values of Loops: the predecessors' iterator, what the search may enter.
-/
import Derived.Test.YtjoffidlfkmelaaDoorCfI
import Derived.Test.YtjoffidlfkmelaaDoorKC6
namespace Go.Proofs.YtjoffidlfkmelaaDoor
open Go Go.RowKit Go.Shelf
attribute [local go_sem] Oper.semAt_some

theorem entVal1 : ∀ args w, (callFunc 50 args).run Tryd.prog w = .ok (.enter 50 args) w := enters_of Tryd.func50 (by kernel_rfl) rfl
set_option maxRecDepth 100000 in
set_option maxHeartbeats 4000000 in
theorem valSeq (L : List Nat) (n : Nat) (hn : L.length = n) (A : Option Addr) (c b : Nat) (w : World) (hr : Rd w A c (L.map Int.ofNat)) (hb : w.cell? ⟨b, 0, none⟩ = some (.slice A n c)) :
    ItOk 50 #[.pointer (some ⟨b, 0, none⟩)] L w := ⟨entVal1, fun mm hmm l J Jx W hW hJ hJx hY h0 => by
  have hbl : b < w.heap.size := World.block_lt_of_cell? w _ hb
  have hbW := (hW.cell (p := ⟨b, 0, none⟩) hbl).trans hb
  have hle := Rd.le hr
  have hmx := Rd.max hr
  rw [List.length_map, hn] at hle
  unfold maxLen at hmx
  have HRD := Lib.hid (fun X (hX : KeepC w.heap.size w X) => KeepC.rdI hX (Nat.le_refl _) hr)
  have HKW := Lib.hid (KeepC.below hW : KeepC w.heap.size w W)
  have HN := Lib.hid hn
  have HY := Lib.hid hY
  clear hr hn hY
  refine callsIn_of_wp Tryd.func50 rfl trivial ?_ rfl
  simp only [Tryd.ntmps50, List.size_toArray, List.length_cons, List.length_nil, Nat.reduceAdd, Nat.reduceSub, Array.replicate_succ, Array.replicate_zero, List.push_toArray, List.append_toArray, List.nil_append, List.cons_append]
  gi_wp2_with fail
  gi_loopw [7] (fun v wr => ∃ i : Nat, i ≤ n ∧ v = .int .i64 i ∧ J (L.take i) wr ∧ Hid (KeepC w.heap.size w wr)) (fun v _ => n - (intOf v).toNat)
  case atStart => exact ⟨0, Nat.zero_le _, rfl, h0, HKW⟩
  case round =>
    obtain ⟨i, hi, rfl, hJs, HK⟩ := hrel
    by_cases hlt : i < n
    · have hil : i < L.length := by rw [HN.out]; exact hlt
      have hil2 : i < (L.map Int.ofNat).length := by rw [List.length_map]; exact hil
      obtain ⟨ad, hA, _, hc⟩ := (HRD.out wr HK.out).one hil2
      rw [List.getElem_map] at hc
      subst hA
      obtain ⟨x, hx⟩ : ∃ x, L[i] = x := ⟨_, rfl⟩
      rw [hx] at hc
      have hc : wr.cell? (ad.add i) = some (.int .i64 (x : Int)) := hc
      have hsp : L = L.take i ++ x :: L.drop (i + 1) := by rw [← hx, ← List.drop_eq_getElem_cons hil, List.take_append_drop]
      have HTK := Lib.hid (show L.take (i + 1) = L.take i ++ [x] by rw [List.take_succ_eq_append_getElem hil, hx])
      obtain ⟨fn, tmps, assign, body, hy, hR⟩ := HY.out (L.take i) x (L.drop (i + 1)) wr hsp hJs
      simp only [encN] at hy
      have hi0 : (0 : Int) ≤ i := by omega
      have hi1 : (i : Int) < n := by omega
      clear hx hsp
      gi_wp2_with fail
      refine ⟨fun _ => by omega, hR.mono ?_⟩
      rintro e W3 (⟨rfl, hJ3, hk3⟩ | ⟨rfl, hJx3⟩)
      · have HK3 := Lib.hid (HK.out.trans hk3)
        rw [← HTK.out] at hJ3
        gi_wp2_with fail
        go_roundw
        case rel => exact ⟨i + 1, hlt, by go_num, hJ3, HK3⟩
        case measure => simp [intOf]; omega
      · gi_wp2_with fail
        refine bodyPost_ret (results_none rfl _ _ _) rfl ?_
        exact ⟨⟨_, rfl⟩, .inr ⟨_, hJx3⟩⟩
    · have hin : n = i := by omega
      subst hin
      have ht : L.take n = L := List.take_of_length_le (by rw [HN.out]; exact Nat.le_refl _)
      rw [ht] at hJs
      gi_wp2
      go_end0
      exact ⟨⟨_, rfl⟩, .inl hJs⟩⟩
theorem iValues (L : List Nat) (n : Nat) (hn : L.length = n) (A : Option Addr) (c : Nat) (w : World) (hr : Rd w A c (L.map Int.ofNat)) :
    Calls Tryd.prog 34 #[.slice A n c] w fun e Y => (∃ lb, e = .returned (.func (.func 50) #[] lb) ∧ ItOk 50 lb L Y) ∧ Below w.heap.size w Y := by
  have HIT := Lib.hid (valSeq L n hn A c w.heap.size (w.alloc (.cells #[.slice A n c] 26)) (Rd.below hr (belowAlloc w _)) ((Blk.new w _ _).cell 0))
  clear hr
  go_enter Tryd.func34, Tryd.ntmps34
  go_wp2
  go_ret
  exact ⟨⟨_, rfl, HIT.out⟩, belowAlloc w _⟩
theorem rdFLat {w X : World} (hX : Lat w X) {A : Option Addr} {c n : Nat} {C : Nat → List Int} (h : RdF w A c C n) : RdF X A c C n := by
  obtain ⟨vs, h1, h2, h3⟩ := h
  refine ⟨vs, ⟨Rds.le h1, Rds.max h1, fun hn => ?_⟩, h2, fun i hi => ?_⟩
  · obtain ⟨ad, e, hl, hc⟩ := Rds.at_ h1 hn
    exact ⟨ad, e, Nat.lt_of_lt_of_le hl hX.sz, fun j v hj => hX.cell (by rw [addBlock]; exact hl) (hc j v hj)⟩
  · obtain ⟨A', c', e, hr⟩ := h3 i hi
    exact ⟨A', c', e, KeepC.rdI hX (Nat.le_refl _) hr⟩
theorem entL1 : ∀ args w, (callFunc 33 args).run Tryd.prog w = .ok (.enter 33 args) w := enters_of Tryd.func33 (by kernel_rfl) rfl
theorem entL2 : ∀ args w, (callFunc 37 args).run Tryd.prog w = .ok (.enter 37 args) w := enters_of Tryd.func37 (by kernel_rfl) rfl
set_option maxRecDepth 100000 in
set_option maxHeartbeats 2000000 in
/-- Loops' back: iterators over the rows of predecessors. -/
theorem backSt (P : Nat → List Nat) (n1 n : Nat) (hle : n ≤ n1) (A : Option Addr) (c b : Nat) (w : World) (hr : RdF w A c (fun x => (P x).map Int.ofNat) n1) (hb : w.cell? ⟨b, 0, none⟩ = some (.slice A n1 c)) :
    StOk 33 #[] #[.pointer (some ⟨b, 0, none⟩)] n P w := ⟨entL1, fun X k hX hk => by
  have hbX := hX.cell (a := ⟨b, 0, none⟩) (World.block_lt_of_cell? w _ hb) hb
  have hrX := rdFLat hX hr
  have hcl := hrX.le
  have hcm := hrX.max
  unfold maxLen at hcm
  obtain ⟨ad, A', c', hA, _, hcc, hrr⟩ := hrX.one (k := k) (by omega)
  subst hA
  obtain ⟨m, hm⟩ : ∃ m, ((P k).map Int.ofNat).length = m := ⟨_, rfl⟩
  rw [hm] at hcc
  have HV := Lib.hid (iValues (P k) m (by rw [← hm, List.length_map]) A' c' X hrr)
  have hk0 : (0 : Int) ≤ k := by omega
  have hk1 : (k : Int) < n1 := by omega
  have e : (#[] : Array Value).push (.int .i64 (k : Int)) ++ #[.pointer (some ⟨b, 0, none⟩)] = #[.int .i64 (k : Int), .pointer (some ⟨b, 0, none⟩)] := rfl
  rw [e]
  clear hr hb hrX hrr hm e hX
  go_enter Tryd.func33, Tryd.ntmps33
  go_wp2_with fail
  refine HV.out.mono ?_
  rintro e Y ⟨⟨lb, rfl, hit⟩, hbY⟩
  have HIT := Lib.hid hit
  clear hit
  go_wp2
  go_ret
  exact ⟨⟨_, _, rfl, HIT.out⟩, hbY⟩⟩
set_option maxRecDepth 100000 in
set_option maxHeartbeats 2000000 in
/-- What the search for a loop's body may enter: all that is reachable, but the header. -/
theorem alhAl (g : Nat → List Nat) (n h : Nat) (A : Option Addr) (c b1 b2 : Nat) (w : World) (hr : RdF w A c (dmK n g n) n) (hb1 : w.cell? ⟨b1, 0, none⟩ = some (.int .i64 (h : Int))) (hb2 : w.cell? ⟨b2, 0, none⟩ = some (.slice A n c)) :
    ∀ X k, Lat w X → k < n → Calls Tryd.prog 37 #[.int .i64 (k : Int), .pointer (some ⟨b1, 0, none⟩), .pointer (some ⟨b2, 0, none⟩)] X fun e Y => e = .returned (.bool (alh n g h k)) ∧ Below X.heap.size X Y := fun X k hX hk => by
  have c1 := hX.cell (a := ⟨b1, 0, none⟩) (World.block_lt_of_cell? w _ hb1) hb1
  have c2 := hX.cell (a := ⟨b2, 0, none⟩) (World.block_lt_of_cell? w _ hb2) hb2
  have hrX := rdFLat hX hr
  have hcl := hrX.le
  have hcm := hrX.max
  unfold maxLen at hcm
  obtain ⟨ad, A', c', hA, _, hcc, hrr⟩ := hrX.one (k := k) hk
  subst hA
  have hle2 := Rd.le hrr
  have hmx2 := Rd.max hrr
  unfold maxLen at hmx2
  have hpos : (0 < (dmK n g n k).length) ↔ rcB n g (-1) k = true := by
    rw [dmKAll, List.length_map]
    constructor
    · intro hl
      obtain ⟨d, hd⟩ := List.exists_mem_of_length_pos hl
      exact rcIff.2 (dmIff.1 (dmLMem.1 hd)).1
    · intro hrc
      exact List.length_pos_of_mem (dmLMem.2 (dmRefl hrc))
  obtain ⟨m, hm⟩ : ∃ m, (dmK n g n k).length = m := ⟨_, rfl⟩
  rw [hm] at hcc hpos hle2
  have hk0 : (0 : Int) ≤ k := by omega
  have hk1 : (k : Int) < n := by omega
  clear hr hb1 hb2 hrX hrr hm hX
  by_cases hkh : k = h
  · have hb9 : ((k : Int) != (h : Int)) = false := by simp; omega
    have hv : alh n g h k = false := by unfold alh; rw [decide_eq_false (fun e => e hkh), Bool.and_false]
    rw [hv]
    clear hkh hv hpos
    go_enter Tryd.func37, Tryd.ntmps37
    go_wp2
    go_ret
    exact ⟨rfl, Below.refl _ _⟩
  · have hb9 : ((k : Int) != (h : Int)) = true := by simp; omega
    by_cases hm0 : 0 < m
    · have hv : alh n g h k = true := by unfold alh; rw [hpos.1 hm0, decide_eq_true hkh]; rfl
      have d1 : decide ((0 : Int) < (m : Int)) = true := decide_eq_true (by omega)
      rw [hv]
      clear hkh hv hpos
      go_enter Tryd.func37, Tryd.ntmps37
      go_wp2
      all_goals first
        | (exfalso; omega)
        | (go_ret; exact ⟨rfl, Below.refl _ _⟩)
    · have hv : alh n g h k = false := by
        unfold alh
        cases e : rcB n g (-1) k
        · rfl
        · exact absurd (hpos.2 e) hm0
      have d1 : decide ((0 : Int) < (m : Int)) = false := decide_eq_false (by omega)
      rw [hv]
      clear hkh hv hpos
      go_enter Tryd.func37, Tryd.ntmps37
      go_wp2
      all_goals first
        | (exfalso; omega)
        | (go_ret; exact ⟨rfl, Below.refl _ _⟩)
end Go.Proofs.YtjoffidlfkmelaaDoor

namespace Go.Proofs.YtjoffidlfkmelaaDoor
open Go Go.RowKit Go.Shelf
attribute [local go_sem] Oper.semAt_some

set_option maxRecDepth 100000 in
set_option maxHeartbeats 4000000 in
theorem valSeqK (L : List Nat) (n : Nat) (hn : L.length = n) (A : Option Addr) (c b : Nat) (w : World) (hr : Rd w A c (L.map Int.ofNat)) (hb : w.cell? ⟨b, 0, none⟩ = some (.slice A n c))
    (Kp : World → World → Prop) (hKp : ∀ X Y, Kp X Y → Rd X A c (L.map Int.ofNat) → Rd Y A c (L.map Int.ofNat)) :
    ∀ m, 3 ≤ m → SeqC Fence.wide m Tryd.prog 50 #[.pointer (some ⟨b, 0, none⟩)] encN Kp L w := fun mm hmm l J Jx W hW hJ hJx hY h0 => by
  have hbl : b < w.heap.size := World.block_lt_of_cell? w _ hb
  have hbW := (hW.cell (p := ⟨b, 0, none⟩) hbl).trans hb
  have hle := Rd.le hr
  have hmx := Rd.max hr
  rw [List.length_map, hn] at hle
  unfold maxLen at hmx
  have HKW := Lib.hid (Rd.below hr hW)
  have HN := Lib.hid hn
  have HY := Lib.hid hY
  clear hr hn hY
  refine callsIn_of_wp Tryd.func50 rfl trivial ?_ rfl
  simp only [Tryd.ntmps50, List.size_toArray, List.length_cons, List.length_nil, Nat.reduceAdd, Nat.reduceSub, Array.replicate_succ, Array.replicate_zero, List.push_toArray, List.append_toArray, List.nil_append, List.cons_append]
  gi_wp2_with fail
  gi_loopw [7] (fun v wr => ∃ i : Nat, i ≤ n ∧ v = .int .i64 i ∧ J (L.take i) wr ∧ Hid (Rd wr A c (L.map Int.ofNat))) (fun v _ => n - (intOf v).toNat)
  case atStart => exact ⟨0, Nat.zero_le _, rfl, h0, HKW⟩
  case round =>
    obtain ⟨i, hi, rfl, hJs, HK⟩ := hrel
    by_cases hlt : i < n
    · have hil : i < L.length := by rw [HN.out]; exact hlt
      have hil2 : i < (L.map Int.ofNat).length := by rw [List.length_map]; exact hil
      obtain ⟨ad, hA, _, hc⟩ := HK.out.one hil2
      rw [List.getElem_map] at hc
      subst hA
      obtain ⟨x, hx⟩ : ∃ x, L[i] = x := ⟨_, rfl⟩
      rw [hx] at hc
      have hc : wr.cell? (ad.add i) = some (.int .i64 (x : Int)) := hc
      have hsp : L = L.take i ++ x :: L.drop (i + 1) := by rw [← hx, ← List.drop_eq_getElem_cons hil, List.take_append_drop]
      have HTK := Lib.hid (show L.take (i + 1) = L.take i ++ [x] by rw [List.take_succ_eq_append_getElem hil, hx])
      obtain ⟨fn, tmps, assign, body, hy, hR⟩ := HY.out (L.take i) x (L.drop (i + 1)) wr hsp hJs
      simp only [encN] at hy
      have hi0 : (0 : Int) ≤ i := by omega
      have hi1 : (i : Int) < n := by omega
      clear hx hsp
      gi_wp2_with fail
      refine ⟨fun _ => by omega, hR.mono ?_⟩
      rintro e W3 (⟨rfl, hJ3, hk3⟩ | ⟨rfl, hJx3⟩)
      · have HK3 := Lib.hid (hKp _ _ hk3 HK.out)
        rw [← HTK.out] at hJ3
        gi_wp2_with fail
        go_roundw
        case rel => exact ⟨i + 1, hlt, by go_num, hJ3, HK3⟩
        case measure => simp [intOf]; omega
      · gi_wp2_with fail
        refine bodyPost_ret (results_none rfl _ _ _) rfl ?_
        exact ⟨⟨_, rfl⟩, .inr ⟨_, hJx3⟩⟩
    · have hin : n = i := by omega
      subst hin
      have ht : L.take n = L := List.take_of_length_le (by rw [HN.out]; exact Nat.le_refl _)
      rw [ht] at hJs
      gi_wp2
      go_end0
      exact ⟨⟨_, rfl⟩, .inl hJs⟩
end Go.Proofs.YtjoffidlfkmelaaDoor

namespace Go.Proofs.YtjoffidlfkmelaaDoor
open Go Go.RowKit Go.Shelf

theorem rcGraph {g g' : Nat → List Nat} {al : Nat → Bool} {s x : Nat} (hg : ∀ u v, v ∈ g u → v ∈ g' u) (h : Rc g al s x) : Rc g' al s x :=
  Rc.ind (P := fun s => Rc g' al s x) (fun h => Rc.refl h) (fun _ _ ha hy _ h => Rc.step ha (hg _ _ hy) h) h
/-- Where the back edges of h begin, as the program collects them. -/
noncomputable def bgL (C : List I8) (h : Nat) : List Nat := (pv C h).filter fun s => dmB C.length (sc C) h s
theorem bgLMem {C : List I8} {h s : Nat} : s ∈ bgL C h ↔ bgB C.length (sc C) h s = true := by
  unfold bgL bgB
  rw [List.mem_filter, pvMem, Bool.and_eq_true, decide_eq_true_iff]
  exact ⟨fun hh => ⟨hh.1.2, hh.2⟩, fun hh => ⟨⟨(dmLt hh.2).2, hh.1⟩, hh.2⟩⟩
theorem bdPv {C : List I8} {h x : Nat} : (∃ s, s ∈ bgL C h ∧ Rc (pv C) (alh C.length (sc C) h) s x) ↔ bdB C.length (sc C) h x = true := by
  rw [bdIff]
  constructor
  · rintro ⟨s, hs, hr⟩
    exact ⟨s, bgLMem.1 hs, rcGraph (fun u v hv => pvrMem.2 (pvMem.1 hv)) hr⟩
  · rintro ⟨s, hs, hr⟩
    exact ⟨s, bgLMem.2 hs, rcGraph (fun u v hv => pvMem.2 (pvrMem.1 hv)) hr⟩
theorem bgLNone {C : List I8} {h : Nat} : bgL C h = [] ↔ bkB C.length (sc C) h = false := by
  unfold bkB
  rw [List.any_eq_false, List.eq_nil_iff_forall_not_mem]
  constructor
  · intro hh x _ hb
    exact hh x (bgLMem.2 hb)
  · intro hh x hx
    have hb := bgLMem.1 hx
    refine hh x (List.mem_range.2 ?_) hb
    unfold bgB at hb
    rw [Bool.and_eq_true] at hb
    exact (dmLt hb.2).2
theorem iBody (C : List I8) (hok : CfOk C) (n : Nat) (hn : C.length = n) (h : Nat) (hh : h < n) (Ad Ap : Option Addr) (cd cp b6 b7 b10 n1 : Nat) (hn1 : n ≤ n1) (m : Nat) (hm : (bgL C h).length = m) (A : Option Addr) (c : Nat) (w : World)
    (hd : RdF w Ad cd (dmK n (sc C) n) n) (hp : RdF w Ap cp (fun x => (pv C x).map Int.ofNat) n1)
    (h6 : w.cell? ⟨b6, 0, none⟩ = some (.slice Ad n cd)) (h7 : w.cell? ⟨b7, 0, none⟩ = some (.slice Ap n1 cp)) (h10 : w.cell? ⟨b10, 0, none⟩ = some (.int .i64 (h : Int))) (ha : Rd w A c ((bgL C h).map Int.ofNat)) :
    Calls Tryd.prog 36 #[.slice A m c, .func (.func 33) #[] #[.pointer (some ⟨b7, 0, none⟩)], .func (.func 37) #[] #[.pointer (some ⟨b10, 0, none⟩), .pointer (some ⟨b6, 0, none⟩)]] w fun e w' => ∃ gm D, e = .returned (.map (some gm)) ∧ MapS w' gm D ∧ D.Nodup ∧ (∀ x, x ∈ D ↔ bdB n (sc C) h x = true) ∧ w.heap.size ≤ gm ∧ Below w.heap.size w w' := by
  have h64 := hok.len
  rw [hn] at h64
  have hpn : ∀ x y, y ∈ pv C x → y < n := fun x y hy => by have := (pvMem.1 hy).1; omega
  have hso : SeOk ⟨33, #[], #[.pointer (some ⟨b7, 0, none⟩)], 37, #[.pointer (some ⟨b10, 0, none⟩), .pointer (some ⟨b6, 0, none⟩)], n, pv C, alh n (sc C) h, n - 1⟩ w :=
    ⟨backSt (pv C) n1 n hn1 Ap cp b7 w hp h7, ⟨entL2, fun X k hX hk => by
      have hk' : k < n := by have : k ≤ n - 1 := hk; omega
      have := alhAl (sc C) n h Ad cd b10 b6 w hd h10 h6 X k hX hk'
      simpa using this⟩, fun x hx => rcLt (alhIff.1 hx).1, fun x y hy => by have := hpn x y hy; show y ≤ n - 1; omega, by show n ≤ 1000; omega, by show n - 1 ≤ 1000; omega⟩
  refine (iSearch (bgL C h) m hm (fun s hs => by
    have hs2 : s ∈ pv C h := (List.mem_filter.1 hs).1
    have := hpn h s hs2
    show s ≤ n - 1
    omega) A c w hso ha).mono ?_
  rintro e w' ⟨gm, D, rfl, h1, h2, h3, h4, h5⟩
  refine ⟨gm, D, rfl, h1, h2, fun x => ?_, h4, h5⟩
  rw [h3 x]
  have := bdPv (C := C) (h := h) (x := x)
  rw [hn] at this
  exact this
end Go.Proofs.YtjoffidlfkmelaaDoor

namespace Go.Proofs.YtjoffidlfkmelaaDoor
open Go Go.RowKit Go.Shelf

theorem bdLt {n : Nat} {g : Nat → List Nat} {h x : Nat} (hx : bdB n g h x = true) : x < n := by
  obtain ⟨s, _, hr⟩ := bdIff.1 hx
  exact rcLt (alhIff.1 hr.right).1
theorem mkBd {n : Nat} {g : Nat → List Nat} {h : Nat} {D : List Nat} (hD : ∀ x, x ∈ D ↔ bdB n g h x = true) : mk (D.map Int.ofNat) = ((List.range n).filter (bdB n g h)).map Int.ofNat := by
  refine srtExt (srtMk _) ?_ fun x => ?_
  · unfold Srt
    rw [List.pairwise_map]
    exact (List.pairwise_lt_range.filter _).imp fun h => by simpa using h
  · rw [memMk, List.mem_map, List.mem_map]
    constructor
    · rintro ⟨y, hy, rfl⟩
      have hb := (hD y).1 hy
      exact ⟨y, List.mem_filter.2 ⟨List.mem_range.2 (bdLt hb), hb⟩, rfl⟩
    · rintro ⟨y, hy, rfl⟩
      exact ⟨y, (hD y).2 (List.mem_filter.1 hy).2, rfl⟩
/-- What Loops lays down for a header. -/
theorem lpLOf {n : Nat} {g : Nat → List Nat} {h : Nat} {D : List Nat} (hD : ∀ x, x ∈ D ↔ bdB n g h x = true) : [(h : Int)] ++ mk (D.map Int.ofNat) = lpL n g h := by
  rw [mkBd hD]
  rfl
end Go.Proofs.YtjoffidlfkmelaaDoor

namespace Go.Proofs.YtjoffidlfkmelaaDoor
open Go Go.RowKit Go.Shelf

theorem rdPlain9 {w : World} {A : Option Addr} {c : Nat} {l : List Int} (h : Rd w A c l) (hl : 0 < l.length) : ∃ b off, A = some ⟨b, off, none⟩ ∧ b < w.heap.size ∧ ∀ j (_ : j < l.length), w.cell? ⟨b, off + j, none⟩ = some (.int .i64 (l.getD j 0)) := by
  obtain ⟨⟨b, off, spot⟩, e, hb, hc⟩ := Rds.at_ h (by simpa using hl)
  have h0 := hc 0 (.int .i64 l[0]) (by simp [List.getElem?_eq_getElem hl])
  have hspot : spot = none := by simpa [Addr.add] using World.cell?_spot h0
  subst hspot
  refine ⟨b, off, e, hb, fun j hj => ?_⟩
  have := hc j (.int .i64 l[j]) (by simp [List.getElem?_eq_getElem hj])
  rw [Addr.add_lit] at this
  rw [this]
  simp [List.getD, hj]
theorem containsB9 (l : List Int) (n : Int) : l.contains n = memB l n := by
  rw [Bool.eq_iff_iff]; simp [memB]
theorem iContains9 (l : List Int) (m : Nat) (hm : l.length = m) (n : Int) (r : Bool) (hr : memB l n = r) (A : Option Addr) (c : Nat) (w : World) (ha : Rd w A c l) :
    Calls Tryd.prog 35 #[.slice A m c, .int .i64 n] w fun e w' => e = .returned (.bool r) ∧ w = w' := by
  subst hr
  subst hm
  rcases Nat.eq_zero_or_pos l.length with h0 | h0
  · obtain rfl : l = [] := List.eq_nil_of_length_eq_zero h0
    exact (Tryd.slices_Contains_int_empty A c n w).mono fun e w' ⟨h1, h2⟩ => ⟨by rw [h1]; rfl, h2.symm⟩
  · obtain ⟨b, off, rfl, _, hc⟩ := rdPlain9 ha h0
    have h1 := ha.le
    have h2 := ha.max
    unfold maxLen at h2
    refine (Tryd.slices_Contains_int b off l.length c l n w (Nat.le_refl _) (by omega) hc).mono fun e w' ⟨h1, h2⟩ => ⟨by rw [h1, List.take_length, containsB9], h2.symm⟩
theorem belowLow9 {B B' : Nat} {a b : World} (h : Below B a b) (hB : B' ≤ B) : Below B' a b := ⟨h.os, h.tape, h.output, h.size, fun k hk => h.block k (by omega)⟩
/-- The block of a row that holds something. -/
def blkL (A : Option Addr) : List Nat → Nat
  | [] => 0
  | _ :: _ => match A with
    | some ad => ad.block
    | none => 0
abbrev KeepL (A : Option Addr) (L : List Nat) (X Y : World) : Prop := Keep2 (blkL A L) (blkL A L) X Y
theorem KeepL.rd {A : Option Addr} {L : List Nat} {X Y : World} (h : KeepL A L X Y) {c : Nat} (hr : Rd X A c (L.map Int.ofNat)) : Rd Y A c (L.map Int.ofNat) :=
  ⟨Rds.le hr, Rds.max hr, fun hn => by
    obtain ⟨ad, e, hl, hc⟩ := Rds.at_ hr hn
    subst e
    refine ⟨ad, rfl, Nat.lt_of_lt_of_le hl h.1, fun j v hj => ?_⟩
    have hv := hc j v hj
    obtain ⟨o, h1, h2⟩ := cellHeap hv
    rw [addBlock] at h1
    have hq : ad.block = blkL (some ad) L := by
      cases L with
      | nil => simp at hn
      | cons _ _ => rfl
    have e : Y.cell? (ad.add j) = X.cell? (ad.add j) := World.cell?_of_block (by rw [addBlock, h.2 ad.block (.inl hq) o h1 h2, h1])
    rw [e, hv]⟩
theorem blkLt {A : Option Addr} {L : List Nat} {X : World} {c B : Nat} (hr : Rd X A c (L.map Int.ofNat)) (hB : X.heap.size ≤ B) (h0 : 0 < B) : blkL A L < B := by
  cases L with
  | nil => exact h0
  | cons x t =>
    obtain ⟨ad, e, hl, _⟩ := Rds.at_ hr (by simp [iv])
    subst e
    show ad.block < B
    omega
theorem iValuesK (L : List Nat) (n : Nat) (hn : L.length = n) (A : Option Addr) (c : Nat) (w : World) (hr : Rd w A c (L.map Int.ofNat)) :
    Calls Tryd.prog 34 #[.slice A n c] w fun e Y => e = .returned (.func (.func 50) #[] #[.pointer (some ⟨w.heap.size, 0, none⟩)]) ∧
      (∀ m, 3 ≤ m → SeqC Fence.wide m Tryd.prog 50 #[.pointer (some ⟨w.heap.size, 0, none⟩)] encN (KeepL A L) L Y) ∧ Y = w.alloc (.cells #[.slice A n c] 26) := by
  have HIT := Lib.hid (valSeqK L n hn A c w.heap.size (w.alloc (.cells #[.slice A n c] 26)) (Rd.below hr (belowAlloc w _)) ((Blk.new w _ _).cell 0) (KeepL A L) (fun X Y h hr => h.rd hr))
  clear hr
  go_enter Tryd.func34, Tryd.ntmps34
  go_wp2
  go_ret
  exact ⟨rfl, HIT.out, rfl⟩
set_option maxRecDepth 100000 in
set_option maxHeartbeats 2000000 in
/-- Loops' back, at a memory behind the one in which the table of predecessors was laid. -/
theorem backK (P : Nat → List Nat) (n1 k : Nat) (hk : k < n1) (A : Option Addr) (c b : Nat) (w0 X : World) (hX : Below w0.heap.size w0 X) (hr : RdF w0 A c (fun x => (P x).map Int.ofNat) n1) (hb : X.cell? ⟨b, 0, none⟩ = some (.slice A n1 c)) :
    Calls Tryd.prog 33 #[.int .i64 (k : Int), .pointer (some ⟨b, 0, none⟩)] X fun e Y => e = .returned (.func (.func 50) #[] #[.pointer (some ⟨X.heap.size, 0, none⟩)]) ∧
      (∃ A' c' m, Rd w0 A' c' ((P k).map Int.ofNat) ∧ (∀ m, 3 ≤ m → SeqC Fence.wide m Tryd.prog 50 #[.pointer (some ⟨X.heap.size, 0, none⟩)] encN (KeepL A' (P k)) (P k) Y) ∧ Y = X.alloc (.cells #[.slice A' m c'] 26)) := by
  have hcl := hr.le
  have hcm := hr.max
  unfold maxLen at hcm
  obtain ⟨ad, A', c', hA, hbl, hcc, hrr⟩ := hr.one (k := k) hk
  subst hA
  have hcc := (hX.cell (p := ad.add k) (by rw [addBlock]; exact hbl)).trans hcc
  obtain ⟨m, hm⟩ : ∃ m, ((P k).map Int.ofNat).length = m := ⟨_, rfl⟩
  rw [hm] at hcc
  have hm2 : (P k).length = m := by rw [← hm, List.length_map]
  have HV := Lib.hid (iValuesK (P k) m hm2 A' c' X (Rd.below hrr hX))
  have HR := Lib.hid hrr
  have hk0 : (0 : Int) ≤ k := by omega
  have hk1 : (k : Int) < n1 := by omega
  clear hr hrr hm hm2 hX hbl
  go_enter Tryd.func33, Tryd.ntmps33
  go_wp2_with fail
  refine HV.out.mono ?_
  rintro e Y ⟨rfl, hit, hY⟩
  have HIT := Lib.hid hit
  have HY := Lib.hid hY
  clear hit hY
  go_wp2
  go_ret
  exact ⟨rfl, A', c', m, HR.out, HIT.out, HY.out⟩
theorem isLNot {X : World} {base D : Nat} {F : Nat → Prop} {o : Obj} (hD : X.heap[D]? = some o) (ho : o.isCells = false) : ∀ {vs : List Value} {ls : List (List Int)}, IsL X base F vs ls → IsL X base (fun g => g ≠ D) vs ls
  | [], [], _ => trivial
  | _ :: _, _ :: _, h => ⟨h.1, fun g hg e => by
      obtain ⟨o2, ho2, hc⟩ := ownCells9 h.1 hg
      subst e
      rw [hD] at ho2
      injection ho2 with ho2
      subst ho2
      rw [ho] at hc
      exact absurd hc (by decide), isLNot hD ho h.2.2⟩
theorem LoSt.keepR {B0 X : World} {n k : Nat} {g : Nat → List Nat} {v : Value} (h : LoSt B0 n g k v X) {D : Nat} {o : Obj} (hD : X.heap[D]? = some (.deferred (some []))) (hlo : B0.heap.size ≤ D) : LoSt B0 n g k v (X.putObj D o) := by
  obtain ⟨⟨vs, h1, h2⟩, h3⟩ := h
  have hc : Chg X (X.putObj D o) (fun q => q ≠ D) := ⟨rfl, rfl, rfl, by simp, fun q _ hq => World.putObj_heap_other hq⟩
  refine ⟨⟨vs, ownChg h1 hc fun g hg e => ?_, ((isLNot hD rfl h2).chg hc fun g hg _ => hg).mono fun _ _ => trivial⟩, belowPutR h3 hlo⟩
  obtain ⟨o2, ho2, hcc⟩ := ownCells9 h1 hg
  subst e
  rw [hD] at ho2
  injection ho2 with ho2
  subst ho2
  cases hcc
/-- What lies in memory while the predecessors of h are looked at. -/
structure LoIn (C : List I8) (n : Nat) (wl : World) (h : Nat) (L ps : List Nat) (X : World) : Prop where
  ex : ∃ v, Boxed X (wl.heap.size + 1) 26 v ∧ OwnI X (wl.heap.size + 2) v ((ps.filter fun s => dmB n (sc C) h s).map Int.ofNat)
  hd : Boxed X wl.heap.size 3 (.int .i64 (h : Int))
  bel : Below wl.heap.size wl X
  ln : ps.length ≤ L.length
theorem LoIn.own {C : List I8} {n : Nat} {wl : World} {h B : Nat} {L ps : List Nat} {X X' : World} (hi : LoIn C n wl h L ps X) {row : Option Nat} (hgr : X.grownBy X' row) (hr : ∀ q, row = some q → B ≤ q ∧ (∃ o, X.heap[q]? = some o ∧ o.isCells = false)) (hB : wl.heap.size + 2 ≤ B) : LoIn C n wl h L ps X' := by
  obtain ⟨⟨v, h1, h2⟩, h3, h4, h5⟩ := hi
  have hc : Chg X X' (fun q => row ≠ some q) := Chg.ofGrown hgr fun _ h => h
  have hlo : ∀ q, q < B → row ≠ some q := fun q hq e => by have := (hr q e).1; omega
  refine ⟨⟨v, (hc.block _ h1.lt (hlo _ (by omega))).trans h1, ownChg h2 hc fun g hg e => ?_⟩, (hc.block _ h3.lt (hlo _ (by omega))).trans h3, ⟨hc.os.trans h4.os, hc.tape.trans h4.tape, hc.output.trans h4.output, Nat.le_trans h4.size hc.size, fun q hq => (hc.block q (Nat.lt_of_lt_of_le hq h4.size) (hlo q (by omega))).trans (h4.block q hq)⟩, h5⟩
  obtain ⟨_, o2, ho2, hn⟩ := hr g e
  obtain ⟨o, ho, hoc⟩ := ownCells9 h2 hg
  rw [ho] at ho2
  injection ho2 with ho2
  subst ho2
  rw [hoc] at hn; cases hn
theorem runAppL (w : World) (ty : TypeId) (base : Nat) (v : Value) (vs : List Value) (hown : OwnL w base v vs) (A : Option Addr) (m c : Nat) (news : List Value) (hm : m = news.length) (hr : Rds w A c news) (h1 : ∀ u ∈ news, u.oneCell' = true) (hb : vs.length + news.length ≤ 100000) (hbase : base ≤ w.heap.size) :
    ∃ v' w', (Builtin.append_ #[34, 34] ty #[v, .slice A m c]).run Tryd.prog w = .ok v' w' ∧ OwnL w' base v' (vs ++ news) ∧ w.grownBy w' v.ownBlock := by
  obtain ⟨i0, hi, hz0, hz1, hz2⟩ := info_parts infoSl
  obtain ⟨v', w', hrun, k1, _, k2, _⟩ := runApp (P := Tryd.prog) (w := w) base 34 ty 26 i0 _ 24 Tryd.underlying34 hi hz0 hz1 hz2 rfl v vs.length vs hown A m c news hm hr h1 (by omega) (by unfold maxLen; omega) hbase
  refine ⟨v', w', hrun, ?_, k2⟩
  unfold OwnL
  rw [List.length_append, ← hm]
  exact k1
/-- append of one loop onto the loops found. -/
theorem loPush {B0 X : World} {n k : Nat} {g : Nat → List Nat} {v : Value} {A8 : Option Addr} {q8 c8 lc : Nat} (h : LoSt B0 n g k v X) (hk : k ≤ 1000) (hbk : bkB n g k = true) (ho : OwnI X B0.heap.size (.slice A8 q8 c8) (lpL n g k)) (hl : Rds X (some ⟨lc, 0, none⟩) 1 [.slice A8 q8 c8]) (ty : TypeId) :
    ∃ v9 X9, (Builtin.append_ #[34, 34] ty #[v, .slice (some ⟨lc, 0, none⟩) 1 1]).run Tryd.prog X = .ok v9 X9 ∧ LoSt B0 n g (k + 1) v9 X9 ∧ ∀ D : Nat, X.heap[D]? = some (Obj.deferred (some [])) → X9.heap[D]? = some (Obj.deferred (some [])) := by
  obtain ⟨⟨vs, h1, h2⟩, h3⟩ := h
  have hvl : vs.length ≤ k := by rw [h2.len]; exact lpPLen
  obtain ⟨v9, X9, hrun, hO, hG⟩ := runAppL X ty B0.heap.size v vs h1 (some ⟨lc, 0, none⟩) 1 1 [.slice A8 q8 c8] rfl hl (by intro u hu; rw [List.mem_singleton] at hu; subst hu; rfl) (by simp; omega) h3.size
  have hI1 := apart9 h1 h2
  have hone : IsL X B0.heap.size (fun _ => True) [.slice A8 q8 c8] [lpL n g k] := ⟨ho, fun _ _ => trivial, trivial⟩
  have hI2 := apart9 h1 hone
  have hc := Chg.ofGrown hG (F := fun g => v.ownBlock ≠ some g) fun _ h => h
  have hPS := lpPS (n := n) (g := g) (k := k)
  rw [if_pos hbk] at hPS
  refine ⟨v9, X9, hrun, ⟨⟨_, hO, ?_⟩, h3.grown hG h3.size fun q hq => (World.ownsRow.lt h1 q hq).1⟩, fun D hD => ?_⟩
  · rw [hPS]
    exact IsL.append ((hI1.chg hc fun _ h _ => h).mono fun _ _ => trivial) ((hI2.chg hc fun _ h _ => h).mono fun _ _ => trivial)
  · refine (hc.block D (Array.getElem?_eq_some_iff.1 hD).1 fun e => ?_).trans hD
    obtain ⟨o2, ho2, hcc⟩ := ownCells9 h1 e
    rw [hD] at ho2
    injection ho2 with ho2
    subst ho2
    cases hcc
/-! What lies in memory while a loop is laid down: the body sorted; the header too; both in one row; that row in a list; the list appended. -/
def LoP5 (Z : World) (D : List Nat) (A7 : Option Addr) (c7 : Nat) (X : World) : Prop := Below Z.heap.size Z X ∧ Rd X A7 c7 (mk (D.map Int.ofNat))
def LoP6 (Z : World) (D : List Nat) (h lb : Nat) (A7 : Option Addr) (c7 : Nat) (X : World) : Prop := LoP5 Z D A7 c7 X ∧ OwnI X Z.heap.size (.slice (some ⟨lb, 0, none⟩) 1 1) [(h : Int)]
def LoP7 (Z : World) (n : Nat) (g : Nat → List Nat) (h : Nat) (A8 : Option Addr) (q8 c8 : Nat) (X : World) : Prop := Below Z.heap.size Z X ∧ OwnI X Z.heap.size (.slice A8 q8 c8) (lpL n g h)
def LoP8 (Z : World) (n : Nat) (g : Nat → List Nat) (h lc : Nat) (A8 : Option Addr) (q8 c8 : Nat) (X : World) : Prop := LoP7 Z n g h A8 q8 c8 X ∧ Rds X (some ⟨lc, 0, none⟩) 1 [.slice A8 q8 c8]
theorem litOwn9 (w : World) (base : Nat) (h : base ≤ w.heap.size) (x : Int) : OwnI (w.alloc (.cells #[.int .i64 x] 3)) base (.slice (some ⟨w.heap.size, 0, none⟩) 1 1) [x] :=
  ⟨rfl, .inr ⟨w.heap.size, 1, #[.int .i64 x], rfl, h, heap_alloc_new w _, Nat.le_refl _, by unfold maxLen; omega, rfl, rfl⟩⟩
theorem loP6a {Z X : World} {D : List Nat} {h : Nat} {A7 : Option Addr} {c7 : Nat} (hb : Below (Z.alloc (.cells #[.int .i64 (h : Int)] 3)).heap.size (Z.alloc (.cells #[.int .i64 (h : Int)] 3)) X) (hr : Rd X A7 c7 (mk (D.map Int.ofNat))) : LoP6 Z D h Z.heap.size A7 c7 X :=
  ⟨⟨belowThen (belowAlloc Z _) hb, hr⟩, ownChg (litOwn9 Z Z.heap.size (Nat.le_refl _) h) (Chg.ofBelow hb fun _ => True) fun _ _ => trivial⟩
theorem loP6b {Z X : World} {D : List Nat} {h : Nat} {A7 : Option Addr} {c7 : Nat} (hp : LoP5 Z D A7 c7 X) : LoP6 Z D h X.heap.size A7 c7 (X.alloc (.cells #[.int .i64 (h : Int)] 3)) :=
  ⟨⟨belowThen hp.1 (belowAlloc X _), Rd.below hp.2 (belowAlloc X _)⟩, litOwn9 X _ hp.1.size h⟩
theorem loP7 {Z X : World} {D : List Nat} {h lb n q7 q8 : Nat} {g : Nat → List Nat} {A7 : Option Addr} {c7 : Nat} (hp : LoP6 Z D h lb A7 c7 X) (hq : (mk (D.map Int.ofNat)).length = q7) (hl : [(h : Int)] ++ mk (D.map Int.ofNat) = lpL n g h) (hq8 : (lpL n g h).length = q8) (hn : q7 ≤ 1000) (ty : TypeId) :
    ∃ A8 c8 X9, (Builtin.append_ #[26, 26] ty #[.slice (some ⟨lb, 0, none⟩) 1 1, .slice A7 q7 c7]).run Tryd.prog X = .ok (.slice A8 q8 c8) X9 ∧ LoP7 Z n g h A8 q8 c8 X9 := by
  obtain ⟨⟨hb, hr⟩, ho⟩ := hp
  obtain ⟨i0, hi, hz0, hz1, hz2⟩ := info_parts infoInt
  obtain ⟨v', w', hrun, k1, _, hgr, _⟩ := runApp (P := Tryd.prog) (w := X) Z.heap.size 26 ty 3 i0 _ 8 Tryd.underlying26 hi hz0 hz1 hz2 rfl (.slice (some ⟨lb, 0, none⟩) 1 1) 1 (iv [(h : Int)]) ho A7 q7 c7 (iv (mk (D.map Int.ofNat))) (by rw [iv, List.length_map]; exact hq.symm) hr (ivOne _) (by omega) (by unfold maxLen; omega) hb.size
  have ho' : OwnI w' Z.heap.size v' (lpL n g h) := by
    rw [← hl]
    unfold OwnI iv
    rw [List.length_append, List.map_append, hq]
    exact k1
  obtain ⟨A8, c8, e, _⟩ := ho'.rd
  rw [hq8] at e
  subst e
  exact ⟨A8, c8, w', hrun, hb.grown hgr hb.size fun q hq => (World.ownsRow.lt ho q hq).1, ho'⟩
theorem loP8 {Z X : World} {h n q8 : Nat} {g : Nat → List Nat} {A8 : Option Addr} {c8 : Nat} (hp : LoP7 Z n g h A8 q8 c8 X) : LoP8 Z n g h X.heap.size A8 q8 c8 (X.alloc (.cells #[.slice A8 q8 c8] 26)) :=
  ⟨⟨belowThen hp.1 (belowAlloc X _), ownChg hp.2 (Chg.ofBelow (belowAlloc X _) fun _ => True) fun _ _ => trivial⟩, litV9 X _ _⟩
theorem loP9 {B0 Z X : World} {h lc n q8 : Nat} {g : Nat → List Nat} {v : Value} {A8 : Option Addr} {c8 : Nat} {Ds : List Nat} (hs : LoSt B0 n g h v Z) (hO : OpenR Ds Z) (hk : h ≤ 1000) (hbk : bkB n g h = true) (hp : LoP8 Z n g h lc A8 q8 c8 X) (ty : TypeId) :
    ∃ v9 X9, (Builtin.append_ #[34, 34] ty #[v, .slice (some ⟨lc, 0, none⟩) 1 1]).run Tryd.prog X = .ok v9 X9 ∧ LoSt B0 n g (h + 1) v9 X9 ∧ OpenR Ds X9 := by
  obtain ⟨⟨hb, ho⟩, hl⟩ := hp
  have hz := hs.bel.size
  obtain ⟨v9, X9, hrun, h1, h2⟩ := loPush (hs.below hb) hk hbk (ownMono9 ho hz) hl ty
  exact ⟨v9, X9, hrun, h1, fun D hD => h2 D ((hb.block D (hO.lt hD)).trans (hO D hD))⟩
end Go.Proofs.YtjoffidlfkmelaaDoor

namespace Go.Proofs.YtjoffidlfkmelaaDoor
open Go Go.RowKit

def stB (n : Nat) (g : Nat → List Nat) (al T : Nat → Bool) (x : Nat) : Bool := al x && (T x || (List.range n).any fun i => al i && T i && decide (x ∈ g i))
def itB (n : Nat) (g : Nat → List Nat) (al S0 : Nat → Bool) : Nat → Nat → Bool
  | 0 => S0
  | p + 1 => stB n g al (itB n g al S0 p)
section
variable {n : Nat} {g : Nat → List Nat} {al S0 : Nat → Bool}
theorem itPs (hal : ∀ x, al x = true → x < n) : ∀ p, PsT n g al S0 p (itB n g al S0 p)
  | 0 => psStart hal fun _ _ => rfl
  | p + 1 => by
    have h := itPs hal p
    refine psNext hal h (fun x ha hT => ?_) (fun x ha hT => ?_) fun i ha hT y hy hay => ?_
    · show stB n g al _ x = true
      unfold stB
      rw [ha, hT]; rfl
    · have hT : stB n g al (itB n g al S0 p) x = true := hT
      unfold stB at hT
      rw [ha, Bool.true_and, Bool.or_eq_true] at hT
      rcases hT with hT | hT
      · exact h.sub x ha hT
      · rw [List.any_eq_true] at hT
        obtain ⟨i, _, hi⟩ := hT
        rw [Bool.and_eq_true, Bool.and_eq_true, decide_eq_true_iff] at hi
        obtain ⟨s, hs, hr⟩ := h.sub i hi.1.1 hi.1.2
        exact ⟨s, hs, hr.snoc hi.2 ha⟩
    · show stB n g al _ y = true
      unfold stB
      rw [hay, Bool.true_and, Bool.or_eq_true, List.any_eq_true]
      exact .inr ⟨i, List.mem_range.2 (hal i ha), by rw [ha, hT, decide_eq_true hy]; rfl⟩
theorem itRc (hal : ∀ x, al x = true → x < n) {x : Nat} (ha : al x = true) : itB n g al S0 n x = true ↔ ∃ s, S0 s = true ∧ Rc g al s x := psEnd (itPs hal n) ha
end
def rcC (n : Nat) (g : Nat → List Nat) (d : Int) (x : Nat) : Bool := avd n d x && itB n g (avd n d) (fun s => decide (s = 0)) n x
theorem rcCEq (n : Nat) (g : Nat → List Nat) (d : Int) (x : Nat) : rcB n g d x = rcC n g d x := by
  rw [Bool.eq_iff_iff, rcIff]
  unfold rcC
  rw [Bool.and_eq_true]
  have hal : ∀ x, avd n d x = true → x < n := fun _ h => (avdIff.1 h).1
  constructor
  · intro h
    exact ⟨h.right, (itRc hal h.right).2 ⟨0, by simp, h⟩⟩
  · rintro ⟨ha, h⟩
    obtain ⟨s, hs, hr⟩ := (itRc hal ha).1 h
    have : s = 0 := of_decide_eq_true hs
    subst this
    exact hr
def bdC (n : Nat) (g : Nat → List Nat) (A0 B0 : Nat → Bool) (x : Nat) : Bool := A0 x && itB n (pvr n g) A0 B0 n x
theorem bdCEq (n : Nat) (g : Nat → List Nat) (h x : Nat) (A0 B0 : Nat → Bool) (hA : alh n g h = A0) (hB : bgB n g h = B0) : bdB n g h x = bdC n g A0 B0 x := by
  subst hA; subst hB
  rw [Bool.eq_iff_iff, bdIff]
  unfold bdC
  rw [Bool.and_eq_true]
  have hal : ∀ x, alh n g h x = true → x < n := fun _ hx => rcLt (alhIff.1 hx).1
  constructor
  · rintro ⟨s, hs, hr⟩
    exact ⟨hr.right, (itRc hal hr.right).2 ⟨s, hs, hr⟩⟩
  · rintro ⟨ha, h⟩
    exact (itRc hal ha).1 h

/-- The example's code. -/
def exC : List I8 := [⟨1, 0, 0, 0, 0, 1, 0, 0⟩, ⟨5, 0, 0, 0, 0, 3, 0, 0⟩, ⟨4, 0, 0, 0, 0, 1, 0, 0⟩, ⟨7, 0, 0, 0, 0, 0, 0, 0⟩]
def exG : Nat → List Nat
  | 0 => [1]
  | 1 => [3, 2]
  | 2 => [1]
  | 3 => [4]
  | _ => []
theorem exSc : sc exC = exG := by
  funext k
  match k with
  | 0 => rfl
  | 1 => rfl
  | 2 => rfl
  | 3 => rfl
  | k + 4 => rfl
theorem exE : cfE exC = 0 := by kernel_rfl
def exOn (x : Nat) : Bool := decide (x < 4)
def exDm (d i : Nat) : Bool := decide (i < 4) && (decide (d = 0) || decide (d = 1 ∧ 1 ≤ i) || decide (d = i))
theorem exRc : rcB 4 exG (-1) = exOn := by
  funext x
  by_cases hx : x < 4
  · rw [rcCEq]
    have h : ∀ x, x < 4 → rcC 4 exG (-1) x = exOn x := by decide
    exact h x hx
  · unfold exOn
    rw [decide_eq_false hx]
    cases e : rcB 4 exG (-1) x
    · rfl
    · exact absurd (rcLt e) hx
theorem exDmEq : dmB 4 exG = exDm := by
  funext d i
  by_cases hd : d < 4
  · by_cases hi : i < 4
    · unfold dmB
      rw [exRc, rcCEq]
      have h : ∀ d : Nat, d < 4 → ∀ i : Nat, i < 4 → (exOn i && !rcC 4 exG d i) = exDm d i := by decide
      exact h d hd i hi
    · unfold dmB exDm
      rw [exRc]
      unfold exOn
      rw [decide_eq_false hi]; rfl
  · cases e : dmB 4 exG d i
    · unfold exDm
      rw [decide_eq_false (show ¬ d = 0 by omega), decide_eq_false (show ¬ (d = 1 ∧ 1 ≤ i) by omega)]
      by_cases hi : i < 4
      · rw [decide_eq_false (show ¬ d = i by omega)]; simp
      · rw [decide_eq_false hi]; simp
    · exact absurd (dmLt e).1 hd
theorem exId : idL 4 exG = [-1, 0, 1, 1] := by
  have hL : ∀ i, dmL 4 exG i = (List.range 4).filter fun d => exDm d i := fun i => by unfold dmL; rw [exDmEq]
  have h0 : idm 4 exG 0 = -1 := idNone fun d hd => by
    rw [exDmEq] at hd
    rw [hL, hL]
    have h : ∀ d, d < 4 → exDm d 0 = true → ((List.range 4).filter fun e => exDm e d).length + 1 ≠ ((List.range 4).filter fun e => exDm e 0).length := by decide
    exact h d (by rw [← exDmEq] at hd; exact (dmLt hd).1) hd
  have h1 : idm 4 exG 1 = 0 := idLen (d := 0) (by rw [exDmEq]; decide) (by rw [hL, hL]; decide)
  have h2 : idm 4 exG 2 = 1 := idLen (d := 1) (by rw [exDmEq]; decide) (by rw [hL, hL]; decide)
  have h3 : idm 4 exG 3 = 1 := idLen (d := 1) (by rw [exDmEq]; decide) (by rw [hL, hL]; decide)
  show [idm 4 exG 0, idm 4 exG 1, idm 4 exG 2, idm 4 exG 3] = _
  rw [h0, h1, h2, h3]
theorem exDo : doR exC = [-1, 0, 1, 1] := by
  unfold doR
  rw [if_pos exE, exSc]
  exact exId
def exAl (x : Nat) : Bool := decide (x < 4) && decide (x ≠ 1)
def exBg (x : Nat) : Bool := decide (x = 2)
theorem exAlEq : alh 4 exG 1 = exAl := by
  funext x
  unfold alh
  rw [exRc]; rfl
theorem exBgEq (h : Nat) : bgB 4 exG h = fun x => decide (h ∈ exG x) && exDm h x := by
  funext x
  unfold bgB
  rw [exDmEq]
theorem exBg1 : bgB 4 exG 1 = exBg := by
  rw [exBgEq]
  funext x
  match x with
  | 0 => rfl
  | 1 => rfl
  | 2 => rfl
  | 3 => rfl
  | x + 4 => rfl
theorem exLp : loR exC = [[1, 2]] := by
  unfold loR
  rw [if_pos exE, exSc]
  show lpP 4 exG 4 = _
  unfold lpP
  have hb : bkB 4 exG = fun h => (List.range 4).any fun x => decide (h ∈ exG x) && exDm h x := by
    funext h
    unfold bkB
    rw [exBgEq]
  have hf : (List.range 4).filter (bkB 4 exG) = [1] := by
    rw [hb]
    decide
  rw [hf]
  show [lpL 4 exG 1] = _
  unfold lpL
  have hd : bdB 4 exG 1 = bdC 4 exG exAl exBg := by
    funext x
    exact bdCEq 4 exG 1 x exAl exBg exAlEq exBg1
  have hg : (List.range 4).filter (bdC 4 exG exAl exBg) = [2] := by decide
  rw [hd, hg]
  rfl
theorem exNx : nxR exC 1 = [2, 3] := by kernel_rfl
theorem exNx0 : nxE exC 1 = 0 := by kernel_rfl
theorem exNx4 : nxE exC 4 = 2 := by kernel_rfl
theorem exLd : ldR exC = [0, 1, 2, 3] := by kernel_rfl
end Go.Proofs.YtjoffidlfkmelaaDoor

namespace Go.Proofs.YtjoffidlfkmelaaDoor

theorem rcRev {n : Nat} {g : Nat → List Nat} {al : Nat → Bool} (hal : ∀ x, al x = true → x < n) {a b : Nat} (h : Rc g al a b) : Rc (pvr n g) al b a :=
  h.ind (P := fun s => Rc (pvr n g) al b s) (fun hb => Rc.refl hb) fun s _ hs hy _ hp => hp.snoc (pvrMem.2 ⟨hal s hs, hy⟩) hs
section
variable {n : Nat} {g : Nat → List Nat} {h1 h2 x y : Nat}
/-- y lies in the loop of h. -/
def inLp (n : Nat) (g : Nat → List Nat) (h y : Nat) : Prop := y = h ∨ bdB n g h y = true
theorem bkOn {h : Nat} (hb : bkB n g h = true) : rcB n g (-1) h = true := by
  unfold bkB at hb
  rw [List.any_eq_true] at hb
  obtain ⟨s, _, hs⟩ := hb
  unfold bgB at hs
  rw [Bool.and_eq_true] at hs
  exact rcIff.2 (dmRch hs.2)
theorem inDom {h : Nat} (hb : bkB n g h = true) (hy : inLp n g h y) : dmB n g h y = true := by
  rcases hy with rfl | hy
  · exact dmRefl (bkOn hb)
  · exact bdDom hy
theorem nest (hd : dmB n g h1 h2 = true) (hne : h1 ≠ h2) (hb2 : bkB n g h2 = true) (hx1 : bdB n g h1 x = true) (hx2 : inLp n g h2 x) (hy : inLp n g h2 y) : bdB n g h1 y = true := by
  have hno : ¬ dmB n g h2 h1 = true := fun e => hne (dmAnti hd e)
  have hal1 : ∀ u, alh n g h1 u = true → u < n := fun u hu => rcLt (alhIff.1 hu).1
  have ha2 : alh n g h1 h2 = true := alhIff.2 ⟨bkOn hb2, fun e => hne e.symm⟩
  obtain ⟨s1, hs1, hr1⟩ := bdIff.1 hx1
  have hxh1 : x ≠ h1 := (alhIff.1 hr1.right).2
  have hdx := inDom hb2 hx2
  -- from h2 to x without h1
  have hf : Rc g (avd n h1) h2 x := by
    by_cases hxh2 : x = h2
    · subst hxh2
      exact Rc.refl (avdIff.2 ⟨rcLt (bkOn hb2), fun e => hne (by omega)⟩)
    · rcases last2 (d := (h1 : Nat)) (e := h2) (dmIff.1 hdx).1 hxh1 hxh2 hne with h | h | h
      · exact absurd h.2 (dmIff.1 hdx).2
      · refine absurd ?_ (dmIff.1 hdx).2
        have h01 : Rc g (avd n h2) 0 h1 := Classical.byContradiction fun hn => hno (dmIff.2 ⟨dmRch hd, hn⟩)
        exact h01.trans h
      · exact h
  have hf2 : Rc g (alh n g h1) h2 x := hf.fwd (P := fun u => Rc g (alh n g h1) h2 u) (Rc.refl ha2) fun u v _ hp hv ha => hp.snoc hv (alhIff.2 ⟨by
    have hu := rcIff.1 (alhIff.1 hp.right).1
    exact rcIff.2 (hu.snoc hv (avdIff.2 ⟨(avdIff.1 ha).1, by omega⟩)), fun e => (avdIff.1 ha).2 (by rw [e])⟩)
  have hxr : Rc (pvr n g) (alh n g h1) s1 h2 := hr1.trans (rcRev hal1 hf2)
  rcases hy with rfl | hy
  · exact bdIff.2 ⟨s1, hs1, hxr⟩
  · obtain ⟨s2, hs2, hr2⟩ := bdIff.1 hy
    have hs2' := hs2
    unfold bgB at hs2'
    rw [Bool.and_eq_true, decide_eq_true_iff] at hs2'
    have hok : ∀ u, dmB n g h2 u = true → alh n g h1 u = true := fun u hu => alhIff.2 ⟨rcIff.2 (dmIff.1 hu).1, fun e => hno (e ▸ hu)⟩
    have hs2r : Rc (pvr n g) (alh n g h1) s1 s2 := hxr.snoc (pvrMem.2 ⟨(dmLt hs2'.2).2, hs2'.1⟩) (hok s2 hs2'.2)
    have hfin := hr2.fwd (P := fun u => dmB n g h2 u = true ∧ Rc (pvr n g) (alh n g h1) s1 u) ⟨hs2'.2, hs2r⟩ fun u v hu hp hv ha => by
      have hv2 := pvrMem.1 hv
      have hdv : dmB n g h2 v = true := by
        have hun := rcLt (alhIff.1 hu).1
        refine dmIff.2 ⟨rcIff.1 (alhIff.1 ha).1, fun hnn => (dmIff.1 hp.1).2 (hnn.snoc hv2.2 (avdIff.2 ⟨hun, ?_⟩))⟩
        have := (alhIff.1 hu).2
        omega
      exact ⟨hdv, hp.2.snoc hv (hok v hdv)⟩
    exact bdIff.2 ⟨s1, hs1, hfin.2⟩
theorem lpTwo (hne : h1 ≠ h2) (hb1 : bkB n g h1 = true) (hb2 : bkB n g h2 = true) (hx1 : inLp n g h1 x) (hx2 : inLp n g h2 x) : (∀ y, inLp n g h2 y → inLp n g h1 y) ∨ ∀ y, inLp n g h1 y → inLp n g h2 y := by
  rcases dmChain (inDom hb1 hx1) (inDom hb2 hx2) with hd | hd
  · left
    intro y hy
    refine .inr (nest hd hne hb2 ?_ hx2 hy)
    rcases hx1 with rfl | hx1
    · exact absurd (dmAnti hd (inDom hb2 hx2)) hne
    · exact hx1
  · right
    intro y hy
    refine .inr (nest hd (Ne.symm hne) hb1 ?_ hx1 hy)
    rcases hx2 with rfl | hx2
    · exact absurd (dmAnti hd (inDom hb1 hx1)) (Ne.symm hne)
    · exact hx2
end
theorem lpLMem {n : Nat} {g : Nat → List Nat} {h : Nat} {z : Int} : z ∈ lpL n g h ↔ ∃ y : Nat, z = y ∧ inLp n g h y := by
  unfold lpL inLp
  rw [List.mem_cons, List.mem_map]
  constructor
  · rintro (rfl | ⟨y, hy, rfl⟩)
    · exact ⟨h, rfl, .inl rfl⟩
    · exact ⟨y, rfl, .inr (List.mem_filter.1 hy).2⟩
  · rintro ⟨y, rfl, rfl | hy⟩
    · exact .inl rfl
    · exact .inr ⟨y, List.mem_filter.2 ⟨List.mem_range.2 (bdLt hy), hy⟩, rfl⟩
/-- The i-th loop. -/
theorem lpAt {n : Nat} {g : Nat → List Nat} {i : Nat} (hi : i < (lpP n g n).length) : ∃ h, (lpP n g n)[i] = lpL n g h ∧ bkB n g h = true ∧ ((List.range n).filter (bkB n g))[i]? = some h := by
  have hl : (lpP n g n).length = ((List.range n).filter (bkB n g)).length := by unfold lpP; rw [List.length_map]
  have hi2 : i < ((List.range n).filter (bkB n g)).length := by omega
  refine ⟨((List.range n).filter (bkB n g))[i], ?_, (List.mem_filter.1 (List.getElem_mem hi2)).2, List.getElem?_eq_getElem hi2⟩
  have h : (lpP n g n)[i]? = some (lpL n g ((List.range n).filter (bkB n g))[i]) := by
    unfold lpP
    rw [List.getElem?_map, List.getElem?_eq_getElem hi2]; rfl
  rw [List.getElem?_eq_getElem hi] at h
  exact Option.some.inj h
theorem lpDiff {n : Nat} {g : Nat → List Nat} {i k h1 h2 : Nat} (hik : i ≠ k) (e1 : ((List.range n).filter (bkB n g))[i]? = some h1) (e2 : ((List.range n).filter (bkB n g))[k]? = some h2) : h1 ≠ h2 := by
  have hn : ((List.range n).filter (bkB n g)).Nodup := List.nodup_range.filter _
  intro e
  subst e
  obtain ⟨l1, h1⟩ := List.getElem?_eq_some_iff.1 e1
  obtain ⟨l2, h2⟩ := List.getElem?_eq_some_iff.1 e2
  have hp := List.pairwise_iff_getElem.1 hn
  rcases Nat.lt_or_gt_of_ne hik with h | h
  · exact hp i k l1 l2 h (h1.trans h2.symm)
  · exact hp k i l2 l1 h (h2.trans h1.symm)
theorem memInt9 {a b : List Int} {x : Int} : x ∈ int' a b ↔ x ∈ a ∧ x ∈ b := by
  unfold int' pick memB
  rw [memMk, List.mem_filter]
  simp
/-- What the law asks of two loops. -/
theorem lpPair {n : Nat} {g : Nat → List Nat} {i k : Nat} (hik : i ≠ k) (hi : i < (lpP n g n).length) (hk : k < (lpP n g n).length) : int' (lpP n g n)[i] (lpP n g n)[k] = [] ∨ subB (lpP n g n)[i] (lpP n g n)[k] = true ∨ subB (lpP n g n)[k] (lpP n g n)[i] = true := by
  obtain ⟨h1, e1, b1, c1⟩ := lpAt hi
  obtain ⟨h2, e2, b2, c2⟩ := lpAt hk
  rw [e1, e2]
  have hne := lpDiff hik c1 c2
  by_cases hx : ∃ x, inLp n g h1 x ∧ inLp n g h2 x
  · obtain ⟨x, hx1, hx2⟩ := hx
    right
    rcases lpTwo hne b1 b2 hx1 hx2 with h | h
    · right
      refine decide_eq_true ?_
      intro z hz
      obtain ⟨y, rfl, hy⟩ := lpLMem.1 hz
      exact lpLMem.2 ⟨y, rfl, h y hy⟩
    · left
      refine decide_eq_true ?_
      intro z hz
      obtain ⟨y, rfl, hy⟩ := lpLMem.1 hz
      exact lpLMem.2 ⟨y, rfl, h y hy⟩
  · left
    rw [List.eq_nil_iff_forall_not_mem]
    intro z hz
    obtain ⟨hz1, hz2⟩ := memInt9.1 hz
    obtain ⟨y, rfl, hy⟩ := lpLMem.1 hz1
    obtain ⟨y', e, hy'⟩ := lpLMem.1 hz2
    obtain rfl : y = y' := by omega
    exact hx ⟨y, hy, hy'⟩
end Go.Proofs.YtjoffidlfkmelaaDoor
