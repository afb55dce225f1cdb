/-
  The contract of await.Find.
-/
import Derived.Test.YtebpnnakcodjdaaDoorZAwR
import Derived.Test.YtebpnnakcodjdaaDoorZAwM
import Derived.Test.YtebpnnakcodjdaaDoorZPgCl
import Derived.Test.YtebpnnakcodjdaaDoorZOp
import Derived.Test.YtebpnnakcodjdaaDoorZAwP
namespace Go.Proofs.YtebpnnakcodjdaaDoor
open Go Go.RowKit

/-- What Find gives. -/
def spR (p : Prg) : List (Nat × Nat) := if p.chk.1 = 0 then p.spins else []
def GivesN (l : List (Nat × Nat)) (x : Int) (w : World) (e : Ending) (w' : World) : Prop := ∃ v, e = .returned (.tuple #[v, .int .i64 x]) ∧ OwnN w' w.heap.size v l ∧ Below w.heap.size w w'
/-- Of the functions below k all spin loops, of function k the first j. -/
def spH (F : List (ByteArray × List I8)) (k j : Nat) : List (Nat × Nat) := spF F k ++ ((spL (F.getD k (⟨#[]⟩, [])).2 (F.getD k (⟨#[]⟩, [])).2.length).take j).map fun n => (k, n)
theorem spHZero (F : List (ByteArray × List I8)) (k : Nat) : spH F k 0 = spF F k := by unfold spH; simp
theorem spHEnd {F : List (ByteArray × List I8)} {k j : Nat} (hk : k < F.length) (h : (spL F[k].2 F[k].2.length).length ≤ j) : spH F k j = spF F (k + 1) := by
  unfold spH
  rw [spF, getFn hk, List.take_of_length_le h]
theorem spHNext {F : List (ByteArray × List I8)} {k j : Nat} (hk : k < F.length) (h : j < (spL F[k].2 F[k].2.length).length) : spH F k (j + 1) = spH F k j ++ [(k, (spL F[k].2 F[k].2.length)[j])] := by
  unfold spH
  rw [getFn hk, List.take_succ_eq_append_getElem h, List.map_append, List.append_assoc]
  rfl
theorem spHLen {F : List (ByteArray × List I8)} (hF : ∀ f ∈ F, f.2.length ≤ 100) {k j : Nat} (hk : k < F.length) : (spH F k j).length ≤ 100 * (k + 1) := by
  have h1 := spFLen hF (k := k) (by omega)
  have h2 := spLLen F[k].2 F[k].2.length
  have h3 := hF _ (List.getElem_mem hk)
  unfold spH
  rw [getFn hk, List.length_append, List.length_map, List.length_take]
  omega
theorem rdKeep {w w' : World} {A : Option Addr} {c : Nat} {l : List Int} (h : Rd w A c l) (hs : w.heap.size ≤ w'.heap.size) (hb : ∀ ad, A = some ad → ad.block < w.heap.size → w'.heap[ad.block]? = w.heap[ad.block]?) : Rd w' A c l :=
  ⟨Rds.le h, Rds.max h, fun hn => by
    obtain ⟨ad, e, hl, hc⟩ := Rds.at_ h hn
    refine ⟨ad, e, Nat.lt_of_lt_of_le hl hs, fun k v hv => ?_⟩
    rw [← hc k v hv]
    exact World.cell?_of_block (by rw [addBlock]; exact hb ad e hl)⟩
set_option maxRecDepth 100000 in
set_option maxHeartbeats 4000000 in
theorem iFind {a : PgA} {p : Prg} (w : World) (hP : PgW w a p) (hW : p.Wf) (hsm : p.small = true) (hT : InsT w) (hN : Nm w) :
    Calls Tryd.prog 8 #[a.val] w (GivesN (spR p) p.chk.1 w) := by
  obtain ⟨W, hWE⟩ : ∃ W, w.alloc (.cells a.fs 27) = W := ⟨_, rfl⟩
  have hbW : Below w.heap.size w W := by rw [← hWE]; exact belowAlloc w _
  have hB : PBox W w.heap.size a := by rw [← hWE]; exact Blk.new w _ _
  have HK := Lib.hid (fun Y (hY : Below W.heap.size W Y) => (hB.below hY).facts)
  have HCK := Lib.hid (iCheckP W (hP.below hbW) hW (hT.below hbW) (hN.below hbW))
  have HF := Lib.hid (fun Y (hY : Below W.heap.size W Y) => ((hP.below hbW).below hY).funcs.at_)
  have HL := Lib.hid hP.l4
  have hle := hP.funcs.le
  have hmx := hP.funcs.max
  have few := (fewOf hsm).2.2.2.1
  rw [hP.l4] at hle few
  unfold maxLen at hmx
  have HSH := Lib.hid (shortOf hsm)
  have HW := Lib.hid hWE
  have HBW := Lib.hid hbW
  obtain ⟨F, hF⟩ : ∃ F, p.funcs = F := ⟨_, rfl⟩
  unfold GivesN spR Prg.spins
  rw [hF] at HF HL HSH ⊢
  have HQL := Lib.hid (fun k j (hk : k < F.length) => spHLen HSH.out (k := k) (j := j) hk)
  obtain ⟨⟨x, y, z⟩, hx⟩ : ∃ x, p.chk = x := ⟨_, rfl⟩
  unfold err3 at HCK
  rw [hx] at HCK ⊢
  simp only at HCK ⊢
  obtain ⟨A1, n1, c1, A2, n2, c2, A3, n3, c3, A4, n4, c4, A5, n5, c5⟩ := a
  simp only [PgA.val, PgA.fs] at *
  clear hP hW hT hN hsm hWE hbW hB hx hF
  by_cases hne : x = 0
  rotate_left
  · have hq : (x != 0) = true := by simpa using hne
    rw [if_neg hne]
    clear hne
    go_enter Tryd.func8, Tryd.ntmps8
    obtain ⟨f0, f1, f2, f3, f4⟩ := HK.out W (Below.refl _ _)
    go_wp2_with fail
    rw [HW.out]
    go_wp2_with fail
    refine HCK.out.mono ?_
    rintro e w1 ⟨rfl, b1⟩
    go_wp2
    go_ret2
    exact ⟨_, rfl, OwnN.nil _ _, belowThen HBW.out b1⟩
  subst hne
  rw [if_pos rfl]
  go_enter Tryd.func8, Tryd.ntmps8
  obtain ⟨f0, f1, f2, f3, f4⟩ := HK.out W (Below.refl _ _)
  go_wp2_with fail
  rw [HW.out]
  go_wp2_with fail
  refine HCK.out.mono ?_
  rintro e w1 ⟨rfl, b1⟩
  have HB1 := Lib.hid b1
  clear f0 f1 f2 f3 f4
  obtain ⟨f0, f1, f2, f3, f4⟩ := HK.out w1 b1
  clear b1
  go_wp2
  go_loopg [7, 23] n4 (fun g v i wr => ∃ k : Nat, k + g = n4 ∧ i = .int .i64 k ∧ OwnN wr w1.heap.size v (spF F k) ∧ Below w1.heap.size w1 wr)
  case atStart => exact ⟨0, by omega, rfl, OwnN.nil _ _, Below.refl _ _⟩
  case round =>
    obtain ⟨k, hk, rfl, ho, hb⟩ := hrel
    have HO := Lib.hid ho
    have HB := Lib.hid hb
    clear f0 f1 f2 f3 f4
    obtain ⟨f0, f1, f2, f3, f4⟩ := HK.out wr (belowThen HB1.out hb)
    cases gk with
    | zero =>
      have hkn : k = n4 := by omega
      subst hkn
      have hjz : ¬ ((k : Int) < k) := by omega
      have HX : Hid (spF F F.length = spF F k) := Lib.hid (by rw [HL.out])
      clear ho hb
      go_wp2
      go_ret2
      exact ⟨_, rfl, by rw [HX.out]; exact HO.out.mono (Nat.le_trans HBW.out.size HB1.out.size), belowThen HBW.out (belowThen HB1.out HB.out)⟩
    | succ go =>
      have hk0 : (0 : Int) ≤ k := by omega
      have hk1 : (k : Int) < n4 := by omega
      have hkl : k < F.length := by rw [HL.out]; omega
      obtain ⟨b, off, hA, hblt, hrow⟩ := HF.out wr (belowThen HB1.out hb) (by omega)
      obtain ⟨g1, v, g2, Ac, m, c, rfl, hm, hr⟩ := hrow k hkl
      have hA : A4 = some ⟨b, off, none⟩ := hA
      subst hA
      have hsh := HSH.out _ (List.getElem_mem hkl)
      have HFI := Lib.hid (iFirsts F[k].2 m hm (by omega) Ac c wr hr)
      have HEN := Lib.hid (fun j h => spHEnd (F := F) (j := j) hkl h)
      have HNX := Lib.hid (fun j h => spHNext (F := F) (j := j) hkl h)
      have HZE := Lib.hid (spHZero F k)
      have HLN := Lib.hid (fun j => HQL.out k j hkl)
      have hlen := spLLen F[k].2 m
      rw [hm] at HEN HNX
      obtain ⟨L, hL⟩ : ∃ L, spL F[k].2 m = L := ⟨_, rfl⟩
      have HLT : Hid (∀ x ∈ L, x < 1000) := Lib.hid fun x hx => by rw [← hL] at hx; have := (spLMem.1 hx).1; omega
      rw [hL] at HFI hlen HEN HNX
      obtain ⟨q, hq⟩ : ∃ q, L.length = q := ⟨_, rfl⟩
      have HQ := Lib.hid hq
      rw [hq] at hlen HEN
      obtain ⟨nm, hnm⟩ : ∃ nm, F[k].1 = nm := ⟨_, rfl⟩
      rw [hnm] at g1
      clear ho hb hrow hm hr hsh hL hq hnm hkl
      rename World => wo
      go_wp2_with fail
      refine HFI.out.mono ?_
      rintro e w3 ⟨v3, rfl, o3, b3⟩
      obtain ⟨A3', c3', rfl, r3, hA3⟩ := o3.rd
      rw [intLLen, HQ.out]
      have hc3 := r3.le
      have hm3 := r3.max
      rw [intLLen, HQ.out] at hc3
      unfold maxLen at hm3
      have HA3 : Hid (∀ ad, A3' = some ad → wo.heap.size ≤ ad.block) := Lib.hid hA3
      have HV0 : Hid (∀ g, Value.ownBlock u7 = some g → g < wo.heap.size) := Lib.hid fun g hg => (HO.out.lt hg).2
      have HR3 := Lib.hid r3
      have HB3 := Lib.hid b3
      clear r3 b3 o3 hA3
      go_wp2
      go_loopg [7, 34] q (fun g2 v i wy => ∃ j : Nat, j + g2 = q ∧ i = .int .i64 j ∧ OwnN wy w1.heap.size v (spH F k j) ∧ Below w1.heap.size w1 wy ∧ Rd wy A3' c3' (intL L) ∧ ∀ g, v.ownBlock = some g → ∀ ad, A3' = some ad → ad.block ≠ g)
      case atStart => exact ⟨0, by omega, rfl, by rw [HZE.out]; exact HO.out.below HB3.out, belowThen HB.out HB3.out, HR3.out, fun g hg ad hd => by have := HV0.out g hg; have := HA3.out ad hd; omega⟩
      case round =>
        obtain ⟨j, hjg, rfl, ho, hb, hr, hd⟩ := hrel
        cases gk with
        | zero =>
          have hjq : j = q := by omega
          subst hjq
          have hjz : ¬ ((j : Int) < j) := by omega
          have HX : Hid (OwnN wr w1.heap.size u7 (spF F (k + 1))) := Lib.hid (by rw [← HEN.out j (Nat.le_refl _)]; exact ho)
          have HB4 := Lib.hid hb
          clear ho hb hr hd
          go_wp2
          go_roundg go
          case measure => omega
          case rel => exact ⟨k + 1, by omega, by go_num, HX.out, HB4.out⟩
        | succ g2 =>
          have hj0 : (0 : Int) ≤ j := by omega
          have hj1 : (j : Int) < q := by omega
          have hjL : j < L.length := by rw [HQ.out]; omega
          obtain ⟨ad, hA, hadl, hcell⟩ := hr.one (k := j) (by rw [intLLen]; exact hjL)
          rw [show (intL L)[j]'(by rw [intLLen]; exact hjL) = (L[j] : Int) by simp [intL]] at hcell
          have hLj : L[j] < 1000 := HLT.out _ (List.getElem_mem hjL)
          have HNJ := Lib.hid (HNX.out j hjL)
          obtain ⟨x, hx⟩ : ∃ x, L[j] = x := ⟨_, rfl⟩
          rw [hx] at hcell hLj HNJ
          obtain ⟨wl, hwl⟩ : ∃ wl, wr.alloc (.cells #[.int .i64 (k : Int), .int .i64 (x : Int), .int .i64 ((x : Int) + 2)] 39) = wl := ⟨_, rfl⟩
          have hbl : Below wr.heap.size wr wl := by rw [← hwl]; exact belowAlloc _ _
          have hBl : Blk wl wr.heap.size 39 (snC (k, x)).toArray := by rw [← hwl]; exact Blk.new _ _ _
          have hln := HLN.out j
          obtain ⟨v', w', hrun, ho', hgr, hblk⟩ := (ho.below hbl).push (by omega) (Nat.le_trans hb.size hbl.size) hBl 32
          have HO' : Hid (OwnN w' w1.heap.size v' (spH F k (j + 1))) := Lib.hid (by rw [HNJ.out]; exact ho')
          have HB' : Hid (Below w1.heap.size w1 w') := Lib.hid ((ho.below hbl).grown (Nat.le_trans hb.size hbl.size) hgr (belowThen hb hbl))
          have HR' : Hid (Rd w' A3' c3' (intL L)) := Lib.hid (rdKeep (hr.below hbl) hgr.size fun ad' hd' hl' => hgr.block _ hl' fun hh => hd _ hh.symm ad' hd' rfl)
          have HD' : Hid (∀ g, v'.ownBlock = some g → ∀ ad, A3' = some ad → ad.block ≠ g) := Lib.hid fun g hg ad' hd' => by
            rcases hblk with h | h
            · exact hd g (h ▸ hg) ad' hd'
            · rw [h] at hg
              cases hg
              obtain ⟨ad2, hA2, hl2, _⟩ := hr.one (k := j) (by rw [intLLen]; exact hjL)
              rw [hA2] at hd'
              cases hd'
              have := hbl.size
              omega
          subst hA
          clear ho hb hr hd hbl hBl ho' hgr hblk hx hjL hln
          go_wp2_with (at_builtin; (try rw [hwl]); refine Lib.wpList_append_run _ rfl _ _ _ _ rfl _ _ rfl rfl _ _ hrun ?_)
          go_roundg g2
          case measure => omega
          case rel => exact ⟨j + 1, by omega, by go_num, HO'.out, HB'.out, HR'.out, HD'.out⟩
end Go.Proofs.YtebpnnakcodjdaaDoor
