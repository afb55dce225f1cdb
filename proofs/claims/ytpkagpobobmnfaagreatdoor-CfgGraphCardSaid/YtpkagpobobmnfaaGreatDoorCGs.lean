/-
  insert, Make and successors of the specification again, the rows of their results said to be new.
-/
import Derived.Test.YtpkagpobobmnfaaGreatDoorCMk
import Derived.Test.YtpkagpobobmnfaaGreatDoorCCt
import Derived.Test.YtpkagpobobmnfaaGreatDoorCGr
import Derived.Test.YtpkagpobobmnfaaGreatDoorCRr
import Derived.Deep.LoopGhost
namespace Go.Proofs.YtpkagpobobmnfaaGreatDoor
open Go Go.RowKit Go.Maps Go.Shelf

def GivesLN (l : List Int) (w : World) (e : Ending) (w' : World) : Prop := ∃ A c, e = .returned (.slice A l.length c) ∧ (Rd w' A c l ∧ ∀ ad, A = some ad → w.heap.size ≤ ad.block) ∧ Below w.heap.size w w'
set_option maxHeartbeats 400000 in
theorem rInsertF (l : List Int) (n : Int) (r : List Int) (hr : ins n l = r) (hs : l.length ≤ 65536) (A : Option Addr) (c : Nat) (w : World) (ha : Rd w A c l) :
    Calls Tryz.prog 117 #[.slice A l.length c, .int .i64 n] w (GivesLN r w) := by
  have hla := ha.le
  have hca := ha.max
  unfold maxLen at hca
  have HA := Lib.hid ha; clear ha
  have HR := Lib.hid hr; clear hr
  have hO := Lib.hid (OwnI.made w w.heap.size (Nat.le_refl _))
  go_enter Tryz.func117, Tryz.ntmps117
  go_wp2
  go_loop [5] (fun i => ∃ k : Nat, k ≤ l.length ∧ i = .int .i64 k ∧ Hid (∀ x ∈ l.take k, x < n)) (fun i => l.length - (intOf i).toNat)
  case atStart => exact ⟨0, Nat.zero_le _, rfl, Lib.hid (by simp)⟩
  case round =>
    obtain ⟨k, hk, rfl, HT⟩ := hrel
    by_cases hgo : ∃ h : k < l.length, l[k] < n
    · obtain ⟨hlt, hx⟩ := hgo
      obtain ⟨ad, rfl, _, hc⟩ := HA.out.one hlt
      have HX := Lib.hid (ltTakeSucc hlt HT.out hx)
      generalize l[k] = x at *
      go_wp2
      go_round
      case rel => exact ⟨k + 1, by omega, by go_num, HX⟩
      case measure => simp [intOf]; omega
    · have HX := Lib.hid (HR.out.symm.trans (insAt HT.out (fun h hh => hgo ⟨h, hh⟩) hk).symm)
      have HK := Lib.hid ((HA.out.below ((Below.refl _ w).alloc (Nat.le_refl _) (.cells #[] 3))).take k hk)
      have hkl : (l.take k).length = k := by rw [List.length_take]; omega
      have HKL := Lib.hid hkl; clear hkl
      by_cases hlt : k < l.length
      · obtain ⟨ad, rfl, _, hc⟩ := HA.out.one hlt
        have hx : ¬ l[k] < n := fun hh => hgo ⟨hlt, hh⟩
        generalize l[k] = x at *
        have hck : ¬ c = k := by omega
        have HD := HA.out.drop k hk
        rw [if_neg hck] at HD
        have HD' := Lib.hid HD; clear HD
        go_wp2_with (first
          | (at_builtin; refine appI _ rfl (.tmp 21) (.tmp 24) rfl w.heap.size _ [] rfl hO.out _ k c (l.take k) rfl HKL.out.symm HK.out (by simp; omega) (by simp) ?_; intro v1 w1 o1 _ b1; have B1 := stepA0 b1)
          | (at_builtin; refine appI _ rfl (.tmp 26) (.tmp 28) rfl w.heap.size _ _ rfl (o1.alloc _) (some ⟨w1.heap.size, 0, none⟩) 1 1 [n] rfl rfl (Rd.lit w1 [n] 3 (by simp)) (by simp; omega) (by have := B1.size; simp; omega) ?_; intro v2 w2 o2 _ b2; have B2 := stepA B1 b2)
          | (at_builtin; refine appI _ rfl (.tmp 30) (.tmp 33) rfl w.heap.size _ _ rfl o2 _ _ _ (l.drop k) rfl (by simp; done) (HD'.out.below B2) (by simp; omega) B2.size ?_; intro v3 w3 o3 _ b3; have B3 := B2.trans b3))
        rw [List.nil_append, ← HX.out] at o3
        obtain ⟨A3, c3, rfl, r3, n3⟩ := o3.rd
        go_ret
        exact ⟨A3, c3, rfl, ⟨r3, n3⟩, B3⟩
      · have hkl : k = l.length := by omega
        subst hkl
        clear hgo
        have hz : (l.length - l.length : Nat) = 0 := by omega
        have HY := Lib.hid (show r = l.take l.length ++ [n] ++ [] by rw [HX.out, List.drop_length]; done)
        by_cases hck : c = l.length
        · have HD := HA.out.drop l.length hk
          rw [if_pos hck] at HD
          subst hck
          rw [Nat.sub_self, List.drop_length] at HD
          have HD' := Lib.hid HD; clear HD
          go_wp2_with (first
            | (at_builtin; refine appI _ rfl (.tmp 21) (.tmp 24) rfl w.heap.size _ [] rfl hO.out _ l.length l.length (l.take l.length) rfl HKL.out.symm HK.out (by simp; omega) (by simp) ?_; intro v1 w1 o1 _ b1; have B1 := stepA0 b1)
            | (at_builtin; refine appI _ rfl (.tmp 26) (.tmp 28) rfl w.heap.size _ _ rfl (o1.alloc _) (some ⟨w1.heap.size, 0, none⟩) 1 1 [n] rfl rfl (Rd.lit w1 [n] 3 (by simp)) (by simp; omega) (by have := B1.size; simp; omega) ?_; intro v2 w2 o2 _ b2; have B2 := stepA B1 b2)
            | (at_builtin; refine appI _ rfl (.tmp 30) (.tmp 33) rfl w.heap.size _ _ rfl o2 _ _ _ [] rfl (by simp; done) (HD'.out.below B2) (by simp; omega) B2.size ?_; intro v3 w3 o3 _ b3; have B3 := B2.trans b3))
          rw [List.nil_append, ← HY.out] at o3
          obtain ⟨A3, c3, rfl, r3, n3⟩ := o3.rd
          go_ret
          exact ⟨A3, c3, rfl, ⟨r3, n3⟩, B3⟩

        · have HD := HA.out.drop l.length hk
          rw [if_neg hck] at HD
          rw [List.drop_length] at HD
          have HD' := Lib.hid HD; clear HD
          go_wp2_with (first
            | (at_builtin; refine appI _ rfl (.tmp 21) (.tmp 24) rfl w.heap.size _ [] rfl hO.out _ l.length c (l.take l.length) rfl HKL.out.symm HK.out (by simp; omega) (by simp) ?_; intro v1 w1 o1 _ b1; have B1 := stepA0 b1)
            | (at_builtin; refine appI _ rfl (.tmp 26) (.tmp 28) rfl w.heap.size _ _ rfl (o1.alloc _) (some ⟨w1.heap.size, 0, none⟩) 1 1 [n] rfl rfl (Rd.lit w1 [n] 3 (by simp)) (by simp; omega) (by have := B1.size; simp; omega) ?_; intro v2 w2 o2 _ b2; have B2 := stepA B1 b2)
            | (at_builtin; refine appI _ rfl (.tmp 30) (.tmp 33) rfl w.heap.size _ _ rfl o2 _ _ _ [] rfl (by simp; done) (HD'.out.below B2) (by simp; omega) B2.size ?_; intro v3 w3 o3 _ b3; have B3 := B2.trans b3))
          rw [List.nil_append, ← HY.out] at o3
          obtain ⟨A3, c3, rfl, r3, n3⟩ := o3.rd
          go_ret
          exact ⟨A3, c3, rfl, ⟨r3, n3⟩, B3⟩



set_option maxHeartbeats 400000 in
theorem rMakeF (l : List Int) (r : List Int) (hr : mk l = r) (hs : l.length ≤ 65536) (A : Option Addr) (c : Nat) (w : World) (ha : Rd w A c l) :
    Calls Tryz.prog 65 #[.slice A l.length c] w (GivesLN r w) := by
  have hla := ha.le
  have hca := ha.max
  unfold maxLen at hca
  have HA := Lib.hid ha; clear ha
  have HR := Lib.hid hr; clear hr
  go_enter Tryz.func65, Tryz.ntmps65
  go_wp2
  go_loopw [3, 4] (fun o i wr => ∃ (k : Nat) (A' : Option Addr) (c' : Nat) (s : List Int), k ≤ l.length ∧ i = .int .i64 k ∧ o = .slice A' s.length c' ∧ Hid (mk (l.take k) = s) ∧ (Rd wr A' c' s ∧ Hid (∀ ad, A' = some ad → w.heap.size ≤ ad.block)) ∧ Below w.heap.size w wr) (fun _ i _ => l.length - (intOf i).toNat)
  case atStart => exact ⟨0, some ⟨w.heap.size, 0, none⟩, 0, [], Nat.zero_le _, rfl, rfl, Lib.hid rfl, ⟨Rd.lit w [] 3 (by simp), Lib.hid fun ad e => by injection e with e; subst e; exact Nat.le_refl _⟩, (Below.refl _ _).alloc (Nat.le_refl _) _⟩
  case round =>
    obtain ⟨k, A', c', s, hk, rfl, rfl, HT, ⟨rs, NS⟩, hb⟩ := hrel
    have hsl : s.length ≤ k := by
      have := lenMk (l.take k); rw [HT.out, List.length_take] at this; omega
    by_cases hlt : k < l.length
    · obtain ⟨ad, rfl, _, hc⟩ := (HA.out.below hb).one hlt
      have HM := Lib.hid ((mkSucc hlt).trans (by rw [HT.out]))
      rcases hx : memB s l[k] with _ | _
      · have HX := Lib.hid (HM.out.trans (addNo hx))
        have HY := Lib.hid hx; clear hx
        generalize l[k] = x at *
        go_wp2_with fail
        refine (rHas s x false HY.out A' c' _ rs).mono ?_
        rintro e w' ⟨rfl, rfl⟩
        go_wp2_with fail
        refine (rInsertF s x (ins x s) rfl (by omega) A' c' _ rs).mono ?_
        rintro e w1 ⟨A1, c1, rfl, ⟨r1, n1⟩, b1⟩
        have N1 := Lib.hid (fun ad e => Nat.le_trans hb.size (n1 ad e))
        clear n1
        go_wp2
        go_roundw
        case rel => exact ⟨k + 1, A1, c1, _, by omega, by go_num, rfl, HX, ⟨r1, N1⟩, belowThen hb b1⟩
        case measure => simp [intOf]; omega
      · have HX := Lib.hid (HM.out.trans (addYes hx))
        have HY := Lib.hid hx; clear hx
        generalize l[k] = x at *
        go_wp2_with fail
        refine (rHas s x true HY.out A' c' _ rs).mono ?_
        rintro e w' ⟨rfl, rfl⟩
        go_wp2
        go_roundw
        case rel => exact ⟨k + 1, A', c', _, by omega, by go_num, rfl, HX, ⟨rs, NS⟩, hb⟩
        case measure => simp [intOf]; omega
    · have hkl : k = l.length := by omega
      have e : r = s := by rw [← HR.out, ← HT.out, hkl, List.take_length]
      have HE := Lib.hid e; clear e
      clear hkl
      go_wp2
      go_ret
      rw [HE.out]
      exact ⟨A', c', rfl, ⟨rs, NS.out⟩, hb⟩


theorem rMakeNF (l : List Int) (n : Nat) (hn : n = l.length) (r : List Int) (hr : mk l = r) (hs : l.length ≤ 65536) (A : Option Addr) (c : Nat) (w : World) (ha : Rd w A c l) :
    Calls Tryz.prog 65 #[.slice A n c] w (GivesLN r w) := by
  subst hn; exact rMakeF l r hr hs A c w ha


set_option maxRecDepth 100000 in
set_option maxHeartbeats 4000000 in
theorem rSuccF (nm : ByteArray) (C : List I8) (hok : CfOk C) (n : Nat) (hn : C.length = n) (k : Nat) (hk : k < n) (A : Option Addr) (c : Nat) (w : World) (hr : RdE 8 EI w A c C) :
    Calls Tryz.prog 31 #[fnV nm A n c, .int .i64 (k : Int)] w (GivesLN (scS C k) w) := by
  obtain ⟨W, hWE⟩ : ∃ W, w.alloc (.cells #[.string nm, .slice A n c] 24) = W := ⟨_, rfl⟩
  have hbW : Below w.heap.size w W := by rw [← hWE]; exact belowAlloc w _
  have hBF : Blk W w.heap.size 24 #[.string nm, .slice A n c] := by rw [← hWE]; exact Blk.new w _ _
  have HKF : Hid (∀ Y, Below W.heap.size W Y → Y.cell? ⟨w.heap.size, 1, none⟩ = some (.slice A n c)) := Lib.hid (fun Y hY => (hBF.below' hY).cell 1)
  have hkl : k < C.length := by omega
  have hrW := hr.below stabI hbW
  have hle := hr.le
  have hmx := hr.max
  have h64 := hok.len
  rw [hn] at hle h64
  unfold maxLen at hmx
  obtain ⟨q, off, hA, hq, i0, i1, i2, i3, i4, i5, i6, i7⟩ := hrW.one hkl
  subst hA
  have htg := hok.tgt C[k] (List.getElem_mem hkl)
  obtain ⟨ii, hii⟩ : ∃ x, C[k] = x := ⟨_, rfl⟩
  have hsc : sc C k = scI n k ii := by rw [scAt hkl, hii, hn]
  rw [hii] at i0 i1 i2 i3 i4 i5 i6 i7 htg
  obtain ⟨op, ra, rb, rc, obj, m, fn, ord⟩ := ii
  simp only at i0 i1 i2 i3 i4 i5 i6 i7
  have hk0 : (0 : Int) ≤ k := by omega
  have hk1 : (k : Int) < n := by omega
  obtain ⟨wb, hwb⟩ : ∃ x, W.alloc (.cells #[.int .i64 op, .int .i64 ra, .int .i64 rb, .int .i64 rc, .int .i64 obj, .int .i64 m, .int .i64 fn, .int .i64 ord] 55) = x := ⟨_, rfl⟩
  have hbb : Below W.heap.size W wb := by rw [← hwb]; exact belowAlloc W _
  have hbi : Blk wb W.heap.size 55 #[.int .i64 op, .int .i64 ra, .int .i64 rb, .int .i64 rc, .int .i64 obj, .int .i64 m, .int .i64 fn, .int .i64 ord] := by rw [← hwb]; exact Blk.new W _ _
  obtain ⟨j0, _, _, _, _, j5, _, _⟩ := boxFactsW hbi
  have f1 := HKF.out W (Below.refl _ _)
  have f2 := HKF.out wb hbb
  unfold I8.jmp at htg
  simp only at htg
  obtain ⟨k1, hk1e⟩ : ∃ k1, k + 1 = k1 := ⟨_, rfl⟩
  have hwk : IntKind.i64.wrap ((k : Int) + 1) = (k1 : Int) := by rw [IntKind.wrap_i64]; omega
  have HBB := Lib.hid (belowThen hbW hbb)
  have hzb : wb.heap.size = w.heap.size + 1 + 1 := by rw [← hwb, World.size_alloc, ← hWE, World.size_alloc]
  have HL1 := Lib.hid (fun y => hzb ▸ litI9 wb y 3)
  have HMK0 := Lib.hid (fun r hS => rMakeNF [m, (k1 : Int)] 2 rfl r hS (by simp) (some ⟨w.heap.size + 1 + 1, 0, none⟩) 2 (wb.alloc (.cells #[.int .i64 m, .int .i64 (k1 : Int)] 3)) (hzb ▸ Rd.lit wb [m, (k1 : Int)] 3 (by simp)))
  have HB1 := Lib.hid (fun o => belowThen (belowThen hbW hbb) (belowAlloc wb o))
  clear hbW hBF hr hrW hbb hbi HKF hzb
  subst hwb
  subst hWE
  unfold fnV
  by_cases h4 : op = 4
  · subst h4
    have ht := htg (by simp)
    have hm : ((m.toNat : Nat) : Int) = m := by omega
    have hS : scS C k = [m] := by rw [scS1 (y := m.toNat) (by rw [hsc]; rfl), hm]
    rw [hS]
    clear htg hsc hii hok hn hS ht hm
    go_enter Tryz.func31, Tryz.ntmps31
    go_wp2
    go_ret
    exact ⟨_, _, rfl, ⟨HL1.out _, fun ad e => by injection e with e; subst e; show w.heap.size ≤ w.heap.size + 1 + 1; omega⟩, HB1.out _⟩
  have z4 : (op == 4) = false := by simpa using h4
  by_cases h7 : op = 7
  · subst h7
    have hS : scS C k = [(n : Int)] := scS1 (by rw [hsc]; rfl)
    rw [hS]
    clear htg hsc hii hok hn hS
    go_enter Tryz.func31, Tryz.ntmps31
    go_wp2
    go_ret
    exact ⟨_, _, rfl, ⟨HL1.out _, fun ad e => by injection e with e; subst e; show w.heap.size ≤ w.heap.size + 1 + 1; omega⟩, HB1.out _⟩
  have z7 : (op == 7) = false := by simpa using h7
  by_cases h5 : op = 5
  · subst h5
    have ht := htg (by simp)
    have hm : ((m.toNat : Nat) : Int) = m := by omega
    have hS : mk [m, (k1 : Int)] = scS C k := by
      unfold scS
      rw [hsc]
      unfold scI
      rw [if_neg (show ¬ ((5 : Int) = 4) by decide), if_pos rfl, List.map_cons, List.map_cons, List.map_nil]
      show _ = mk [((m.toNat : Nat) : Int), ((k + 1 : Nat) : Int)]
      rw [hm, hk1e]
    obtain ⟨r, hr⟩ : ∃ r, scS C k = r := ⟨_, rfl⟩
    rw [hr] at hS ⊢
    have HMK := Lib.hid (HMK0.out r hS)
    clear htg hsc hii hok hn hS ht hm hr
    go_enter Tryz.func31, Tryz.ntmps31
    go_wp2_with fail
    refine HMK.out.mono ?_
    rintro e w4 ⟨A4, c4, rfl, ⟨r4, n4⟩, b4⟩
    have N4 := Lib.hid n4
    clear n4
    go_wp2
    go_ret
    exact ⟨A4, c4, rfl, ⟨r4, fun ad e => Nat.le_trans (HB1.out _).size (N4.out ad e)⟩, belowThen (HB1.out _) b4⟩
  have z5 : (op == 5) = false := by simpa using h5
  have hS : scS C k = [(k1 : Int)] := scS1 (by rw [hsc]; unfold scI; rw [if_neg h4, if_neg h5, if_neg h7, hk1e])
  rw [hS]
  clear htg hsc hii hok hn hS h4 h5 h7
  go_enter Tryz.func31, Tryz.ntmps31
  go_wp2
  go_ret
  exact ⟨_, _, rfl, ⟨HL1.out _, fun ad e => by injection e with e; subst e; show w.heap.size ≤ w.heap.size + 1 + 1; omega⟩, HB1.out _⟩

end Go.Proofs.YtpkagpobobmnfaaGreatDoor

namespace Go.Proofs.YtpkagpobobmnfaaGreatDoor
open Go Go.RowKit Go.Shelf

/-- The specification's pairs when j of k's successors have been looked at. -/
def grT (C : List I8) (k j : Nat) : Prs := grS C k ++ ((scS C k).take j).map (prI7 k)
theorem grT0 {C : List I8} {k : Nat} : grT C k 0 = grS C k := by unfold grT; simp
theorem grTEnd {C : List I8} {k j : Nat} (h : (scS C k).length ≤ j) : grT C k j = grS C (k + 1) := by unfold grT; rw [List.take_of_length_le h]; rfl
theorem grTS {C : List I8} {k j : Nat} (h : j < (scS C k).length) : grT C k (j + 1) = grT C k j ++ [((k : Int), (scS C k)[j])] := by
  unfold grT
  rw [List.take_succ_eq_append_getElem h, List.map_append, List.append_assoc]
  rfl
theorem grTLen {C : List I8} {k j : Nat} : (grT C k j).length ≤ 2 * k + 2 := by
  unfold grT
  rw [List.length_append, List.length_map, List.length_take]
  have := grSLen C k
  have := scSLen7 (C := C) (k := k)
  omega
/-- The graph under construction, as the specification keeps it. -/
structure GrS (w : World) (g n1 : Nat) (A' : Option Addr) (q c' : Nat) (l : Prs) (X : World) : Prop where
  bel : Below w.heap.size w X
  own : OwnP X (g + 1) (.slice A' q c') l
  len : l.length = q
  box : BoxR X g n1 (.slice A' q c')
theorem GrS.below {w : World} {g n1 : Nat} {A' : Option Addr} {q c' : Nat} {l : Prs} {X Y : World} (h : GrS w g n1 A' q c' l X) (hb : Below X.heap.size X Y) : GrS w g n1 A' q c' l Y := ⟨belowThen h.bel hb, h.own.below hb, h.len, h.box.below hb⟩
/-- What lies in memory while k's successors are looked at. -/
structure GrJ (W : World) (g n1 : Nat) (A' : Option Addr) (q c' : Nat) (l : Prs) (Al : Option Addr) (cl : Nat) (sl : List Int) (X : World) : Prop where
  st : GrS W g n1 A' q c' l X
  rd : Rd X Al cl sl
  ap : ∀ ad z, Al = some ad → (Value.slice A' q c').ownBlock = some z → z ≠ ad.block
  ng : ∀ ad, Al = some ad → ad.block ≠ g
theorem rdChg7 {X Y : World} {F : Nat → Prop} {A : Option Addr} {c : Nat} {l : List Int} (h : Rd X A c l) (hc : Chg X Y F) (hF : ∀ ad, A = some ad → F ad.block) : Rd Y A c l :=
  ⟨Rds.le h, Rds.max h, fun hn => by
    obtain ⟨ad, e, hl, hcell⟩ := Rds.at_ h hn
    exact ⟨ad, e, Nat.lt_of_lt_of_le hl hc.size, fun j v hj => (World.cell?_of_block (by rw [addBlock]; exact hc.block _ hl (hF ad e))).trans (hcell j v hj)⟩⟩
/-- append of a pair as a step of a drawn region: what it leaves. -/
theorem stepP7 (w : World) {ops : Array Oper} {o : Oper} {a : Act} {K : Act → World → Prop} {Q : Exit → Act → World → Prop} {E : Prop} (hgd : o.guard = none) (s x : Operand)
    (ho : o.op = .call { callee := .builtin .append, args := #[s, x], argTypes := #[26, 26] })
    (base : Nat) (v : Value) (l : Prs) (hs : a.eval s = v) (hown : OwnP w base v l) (ad : Addr) (p : Int × Int)
    (hx : a.eval x = .slice (some ad) 1 1) (hr : Rp w (some ad) 1 [p]) (hb : l.length ≤ 1000) (hbase : base ≤ w.heap.size)
    (h : ∀ A k c w', Hid (OwnP w' base (.slice A k c) (l ++ [p])) → Hid ((l ++ [p]).length = k) → Hid (Chg w w' (fun q => v.ownBlock ≠ some q)) → Hid (∀ z, (Value.slice A k c).ownBlock = some z → v.ownBlock = some z ∨ z = w.heap.size) → K (a.put o.dst (.slice A k c)) w') :
    if Region.wanted o (yielded ops a.tmps) = true then Oper.wp Tryz.prog o a w K Q else E := by
  have hw : Region.wanted o (yielded ops a.tmps) = true := by simp [Region.wanted, hgd]
  rw [if_pos hw]
  obtain ⟨i0, hi, hz0, hz1, hz2⟩ := info_parts infoPair
  obtain ⟨b0, o0, e0, _, _⟩ := hr.at_ (by simp)
  injection e0 with e0
  obtain ⟨v', w2, hrun, ow, hgr, _, hmv⟩ := run_append_own_at (P := Tryz.prog) w base 26 o.type 66 i0 _ 2 16 Tryz.underlying26 hi hz0 hz1 hz2 rfl (by decide) v l.length (ct l) hown ad 1 1 (ct [p]) (by rw [ctLen]; rfl) (by subst e0; exact ctCells hr rfl) (ctOne _) (by unfold maxLen; omega) (by omega) hbase
  have o1 : OwnP w2 base v' (l ++ [p]) := by
    unfold OwnP
    rw [List.length_append, ctApp]
    exact ow
  unfold Oper.wp execOp
  simp only [ho, resolve, invoke, builtin, Sem.run_bind, Sem.run_pure, Result.andThen_ok, List.map_toArray, List.map_cons, List.map_nil, hs, hx, hrun]
  obtain ⟨A', c', rfl, _, _⟩ := o1.rd
  refine h A' _ c' w2 (Lib.hid o1) (Lib.hid rfl) (Lib.hid (Chg.ofGrown hgr fun _ h => h)) (Lib.hid fun z hz => ?_)
  rcases hmv with e | e
  · exact .inl (e ▸ hz)
  · rw [e] at hz
    injection hz with hz
    exact .inr hz.symm
set_option maxRecDepth 100000 in
set_option maxHeartbeats 8000000 in
theorem rGraph (nm : ByteArray) (C : List I8) (n : Nat) (hn : C.length = n) (A : Option Addr) (c : Nat) (w : World) (h : CdW w A c C) :
    Calls Tryz.prog 8 #[fnV nm A n c] w (GivesGr C w) := by
  obtain ⟨W, hW⟩ : ∃ W, (w.alloc (.cells #[.string nm, .slice A n c] 24)).alloc (.cells #[.int .i64 0, .slice none 0 0] 28) = W := ⟨_, rfl⟩
  obtain ⟨h1, h2, hbW⟩ := two7 w _ _ hW
  have hB : Blk W w.heap.size 24 #[.string nm, .slice A n c] := h1
  have HR := Lib.hid (show BoxR W (w.heap.size + 1) 0 (.slice none 0 0) from h2)
  have k0 : W.cell? ⟨w.heap.size, 0, none⟩ = some (.string nm) := hB.cell 0
  have k1 : W.cell? ⟨w.heap.size, 1, none⟩ = some (.slice A n c) := hB.cell 1
  have HK := Lib.hid (fun X (hX : Below W.heap.size W X) => (⟨(hB.below' hX).cell 0, (hB.below' hX).cell 1⟩ : X.cell? ⟨w.heap.size, 0, none⟩ = some (.string nm) ∧ X.cell? ⟨w.heap.size, 1, none⟩ = some (.slice A n c)))
  have HCO := Lib.hid (rCk12 nm C n hn A c W (h.below hbW))
  have HRD := Lib.hid (fun X (hX : Below W.heap.size W X) => (h.rd.below stabI hbW).below stabI hX)
  have HW := Lib.hid hW
  have HBW := Lib.hid hbW
  have hle := h.rd.le
  have hmx := h.rd.max
  rw [hn] at hle
  unfold maxLen at hmx
  clear h hB hW hbW h1 h2
  unfold fnV at HCO ⊢
  unfold GivesGr GivesE
  by_cases hc : cfE C = 0
  rotate_left
  · have hne : (cfE C != 0) = true := by simpa using hc
    have e1 : grE C = cfE C := by unfold grE; rw [if_neg hc]
    have e2 : grN C = 0 := by unfold grN; rw [if_neg (by rw [e1]; exact hc)]
    have e3 : grP C = [] := by unfold grP; rw [if_neg (by rw [e1]; exact hc)]
    rw [e1, e2, e3]
    generalize cfE C = E at HCO hne ⊢
    clear hc e1 e2 e3
    go_enter Tryz.func8, Tryz.ntmps8
    go_wp2_with fail
    rw [HW.out]
    go_wp2_with fail
    refine HCO.out.mono ?_
    rintro e w1 ⟨rfl, b1⟩
    have HR1 := Lib.hid (HR.out.below b1)
    obtain ⟨r0, r1, fr0, fr1⟩ := HR1.out.facts
    have HB1 := Lib.hid (belowThen HBW.out b1)
    clear b1 k0 k1
    go_wp2_with fail
    refine bodyPost_ret (Blk.res2 (b := w.heap.size + 1) (T := 28) (cs := #[.int .i64 0, .slice none 0 0]) (HR1.out.stored 0 (.slice none 0 0)) rfl _ rfl Tryz.underlying28 rfl infoRel) rfl ?_
    exact ⟨none, 0, rfl, Rp.nil, (HB1.out.setCell (Nat.le_succ _) _).setCell (Nat.le_succ _) _⟩
  have hok := cfOk hc
  have h64 := hok.len
  rw [hn] at h64
  rw [hc] at HCO
  by_cases h63 : 63 < n
  · have d1 : decide ((64 : Int) ≤ (n : Int)) = true := decide_eq_true (by omega)
    have e1 : grE C = 4 := by unfold grE; rw [if_pos hc, if_pos (by omega)]
    have e2 : grN C = 0 := by unfold grN; rw [if_neg (by rw [e1]; decide)]
    have e3 : grP C = [] := by unfold grP; rw [if_neg (by rw [e1]; decide)]
    rw [e1, e2, e3]
    clear hok hn hc e1 e2 e3
    go_enter Tryz.func8, Tryz.ntmps8
    go_wp2_with fail
    rw [HW.out]
    go_wp2_with fail
    refine HCO.out.mono ?_
    rintro e w1 ⟨rfl, b1⟩
    have HR1 := Lib.hid (HR.out.below b1)
    obtain ⟨r0, r1, fr0, fr1⟩ := HR1.out.facts
    have HB1 := Lib.hid (belowThen HBW.out b1)
    clear k0 k1
    obtain ⟨k0, k1⟩ := HK.out w1 b1
    clear b1
    go_wp2_with fail
    all_goals first
      | (exfalso; omega)
      | skip
    refine bodyPost_ret (Blk.res2 (b := w.heap.size + 1) (T := 28) (cs := #[.int .i64 0, .slice none 0 0]) (HR1.out.stored 0 (.slice none 0 0)) rfl _ rfl Tryz.underlying28 rfl infoRel) rfl ?_
    exact ⟨none, 0, rfl, Rp.nil, (HB1.out.setCell (Nat.le_succ _) _).setCell (Nat.le_succ _) _⟩
  obtain ⟨n1, hn1⟩ : ∃ n1, n + 1 = n1 := ⟨_, rfl⟩
  have hwn : IntKind.i64.wrap ((n : Int) + 1) = (n1 : Int) := by rw [IntKind.wrap_i64]; omega
  have d1 : decide ((64 : Int) ≤ (n : Int)) = false := decide_eq_false (by omega)
  have e1 : grE C = 0 := by unfold grE; rw [if_pos hc, if_neg (by omega)]
  have e2 : grN C = nrmN (n1 : Int) (grS C n) := by unfold grN; rw [if_pos e1, ← grS_N, hn, ← hn1]; rfl
  have e3 : grP C = nrmL (n1 : Int) (grS C n) := by unfold grP; rw [if_pos e1, ← grS_L, hn, ← hn1]; rfl
  rw [e1, e2, e3]
  have HSU := Lib.hid (fun k (hk : k < n) X (hX : Below W.heap.size W X) => rSuccF nm C hok n hn k hk A c X (HRD.out X hX))
  have hgl := grSLen C n
  have HNM := Lib.hid (fun A' c' q (hq : (grS C n).length = q) X (hr : Rp X A' c' (grS C n)) => rNormal (n1 : Int) (grS C n) q hq A' c' X hr)
  unfold fnV GivesLN at HSU
  clear hok hn hc e1 e2 e3 hn1 hgl
  go_enter Tryz.func8, Tryz.ntmps8
  go_wp2_with fail
  rw [HW.out]
  go_wp2_with fail
  refine HCO.out.mono ?_
  rintro e w1 ⟨rfl, b1⟩
  obtain ⟨w2, hw2⟩ : ∃ w2, w1.alloc (.cells #[.int .i64 (n1 : Int), .slice none 0 0] 28) = w2 := ⟨_, rfl⟩
  have hb2 : Below w1.heap.size w1 w2 := by rw [← hw2]; exact belowAlloc _ _
  have hgb : BoxR w2 w1.heap.size n1 (.slice none 0 0) := by rw [← hw2]; exact BoxR.new _ _ _
  have hgs : w.heap.size + 1 < w1.heap.size := (HR.out.below b1).lt
  obtain ⟨g, hg⟩ : ∃ g, w1.heap.size = g := ⟨_, rfl⟩
  rw [hg] at hgb hgs
  have HS0 := Lib.hid (show GrS W g n1 none 0 0 (grS C 0) w2 from ⟨belowThen b1 hb2, OwnP.nil _ _, rfl, hgb⟩)
  have hWg : W.heap.size ≤ g := by have := b1.size; omega
  have HW2 := Lib.hid hw2
  have HG := Lib.hid hg
  have HR2 := Lib.hid (fun X (hX : Below W.heap.size W X) => HR.out.below hX)
  clear k0 k1
  obtain ⟨k0, k1⟩ := HK.out w1 b1
  clear b1 hb2 hgb hw2 hg
  go_wp2_with fail
  all_goals first
    | (exfalso; omega)
    | skip
  rw [HW2.out, HG.out]
  go_wp2_with fail
  go_loopg [6] n (fun gg i wr => ∃ (k : Nat) (A' : Option Addr) (q c' : Nat), k + gg = n ∧ i = .int .i64 k ∧ Hid (GrS W g n1 A' q c' (grS C k) wr))
  case atStart => exact ⟨0, none, 0, 0, by omega, rfl, HS0⟩
  case round =>
    clear HS0
    obtain ⟨k, A', q, c', hk, rfl, HS⟩ := hrel
    clear k0 k1
    obtain ⟨k0, k1⟩ := HK.out wr HS.out.bel
    cases gk with
    | zero =>
      have hkm : k = n := by omega
      subst hkm
      have hjz : ¬ ((k : Int) < k) := by omega
      obtain ⟨A2, c2, e, hr, _⟩ := HS.out.own.rd
      injection e with e1 e2 e3
      rw [HS.out.len] at e2
      subst e1; subst e3
      clear e2
      obtain ⟨g0, g1, _, _⟩ := HS.out.box.facts
      have HC := Lib.hid (HNM.out A' c' q HS.out.len wr hr)
      unfold GivesR at HC
      clear hr
      go_wp2_with fail
      refine HC.out.mono ?_
      rintro e X ⟨A9, c9, rfl, hr9, b9⟩
      have HRB := Lib.hid ((HR2.out wr HS.out.bel).below b9)
      have HR9 := Lib.hid hr9
      have HB9 := Lib.hid (belowThen HBW.out (belowThen HS.out.bel b9))
      obtain ⟨r0, r1, fr0, fr1⟩ := HRB.out.facts
      clear hr9 b9
      go_wp2_with fail
      refine bodyPost_ret (Blk.res2 (b := w.heap.size + 1) (T := 28) (cs := #[.int .i64 (nrmN (n1 : Int) (grS C k)), .slice A9 (nrmL (n1 : Int) (grS C k)).length c9]) (HRB.out.stored _ _) rfl _ rfl Tryz.underlying28 rfl infoRel) rfl ?_
      exact ⟨A9, c9, rfl, HR9.out.stored HRB.out _ _, (HB9.out.setCell (Nat.le_succ _) _).setCell (Nat.le_succ _) _⟩
    | succ g2 =>
      have hk0 : (0 : Int) ≤ k := by omega
      have hk1 : (k : Int) < n := by omega
      have HC := Lib.hid (HSU.out k (by omega) wr HS.out.bel)
      go_wp2_with fail
      refine HC.out.mono ?_
      rintro e w5 ⟨Al, cl, rfl, ⟨rl, nl⟩, b5⟩
      obtain ⟨m, hm⟩ : ∃ m, (scS C k).length = m := ⟨_, rfl⟩
      have HM := Lib.hid hm
      have hm2 : m ≤ 2 := by rw [← hm]; exact scSLen7
      have hlle := Rd.le rl
      have hlmx := Rds.max rl
      rw [hm] at hlle
      unfold maxLen at hlmx
      rw [hm]
      have HJ5 := Lib.hid (show GrJ W g n1 A' q c' (grT C k 0) Al cl (scS C k) w5 from ⟨by rw [grT0]; exact HS.out.below b5, rl, fun ad z e hz e2 => by have h1 := (HS.out.own.lt hz).2; have h2 := nl ad e; omega, fun ad e e2 => by have h1 := HS.out.box.lt; have h2 := nl ad e; omega⟩)
      clear k0 k1 b5 rl nl hm
      go_wp2_with fail
      go_loopg [8] m (fun gg i wr => ∃ (j : Nat) (A2 : Option Addr) (q2 c2 : Nat), j + gg = m ∧ i = .int .i64 j ∧ Hid (GrJ W g n1 A2 q2 c2 (grT C k j) Al cl (scS C k) wr))
      case atStart => exact ⟨0, A', q, c', by omega, rfl, HJ5⟩
      case round =>
        clear HJ5
        obtain ⟨j, A2, q2, c2, hj, rfl, HJ⟩ := hrel
        cases gk with
        | zero =>
          have hjm : j = m := by omega
          subst hjm
          have hjz : ¬ ((j : Int) < j) := by omega
          have HE : Hid (GrS W g n1 A2 q2 c2 (grS C (k + 1)) wr) := Lib.hid (by rw [← grTEnd (j := j) (by rw [HM.out]; exact Nat.le_refl _)]; exact HJ.out.st)
          go_wp2
          go_roundg g2
          case measure => omega
          case rel => exact ⟨k + 1, A2, q2, c2, by omega, by go_num, HE⟩
        | succ g3 =>
          have hj0 : (0 : Int) ≤ j := by omega
          have hj1 : (j : Int) < m := by omega
          have hjl : j < (scS C k).length := by rw [HM.out]; omega
          obtain ⟨ad, eA, had, hcl⟩ := HJ.out.rd.one hjl
          subst eA
          have HX := Lib.hid (grTS hjl)
          have hll := grTLen (C := C) (k := k) (j := j)
          obtain ⟨y, hy⟩ : ∃ y, (scS C k)[j] = y := ⟨_, rfl⟩
          rw [hy] at hcl HX
          obtain ⟨Y, hY⟩ : ∃ Y, (wr.alloc (.cells #[.int .i64 (k : Int), .int .i64 y] 66)).drew = Y := ⟨_, rfl⟩
          have bY : Below wr.heap.size wr Y := by rw [← hY]; exact belowDrewN (belowAlloc wr _) 1
          have hzY : Y.heap.size = wr.heap.size + 1 := by rw [← hY]; show (wr.alloc _).heap.size = _; simp
          have HRY : Hid (Rp Y (some ⟨wr.heap.size, 0, none⟩) 1 [((k : Int), y)]) := by rw [← hY]; exact Lib.hid ((cellPair wr (k : Int) y _).drewN 1)
          have HJY := Lib.hid (show GrJ W g n1 A2 q2 c2 (grT C k j) (some ad) cl (scS C k) Y from ⟨HJ.out.st.below bY, HJ.out.rd.below bY, HJ.out.ap, HJ.out.ng⟩)
          obtain ⟨x0, x1, x2, x3⟩ := HJ.out.st.box.facts
          obtain ⟨z0, z1, z2, z3⟩ := HJY.out.st.box.facts
          have hcY : Y.cell? (ad.add j) = some (.int .i64 y) := (bY.cell (by rw [addBlock]; exact had)).trans hcl
          have hgY := HJY.out.st.box.lt
          have HGY := Lib.hid hgY
          have HZY := Lib.hid hzY
          clear hy hgY
          go_wp2
          go_region_law
            (first
              | (refine stepP7 _ (by rfl) (.tmp 42) (.tmp 49) (by rfl) (g + 1) _ _ (by rfl) HJY.out.st.own ⟨wr.heap.size, 0, none⟩ ((k : Int), y) (by rfl) HRY.out (by omega) (by have := HGY.out; omega) ?_; intro A3 q3 c3 w6 HO3 HQ3 HC3 HV3; have HB6 : Hid (BoxR w6 g n1 (.slice A2 q2 c2)) := Lib.hid ((HC3.out.block _ HGY.out (fun e => by have := (HJY.out.st.own.lt e).1; omega)).trans HJY.out.st.box); obtain ⟨y0, y1, y2, y3⟩ := HB6.out.facts))
          all_goals (
            have HJ6 : Hid (GrJ W g n1 A3 q3 c3 (grT C k (j + 1)) (some ad) cl (scS C k) (w6.setCell ⟨g, 1, none⟩ (.slice A3 q3 c3))) := Lib.hid (by
              have hv : ∀ z, z ≤ g → (Value.slice A2 q2 c2).ownBlock ≠ some z := fun z hz e => by have := (HJY.out.st.own.lt e).1; omega
              have hbel : Below W.heap.size W w6 := by
                have h1 := HJY.out.st.bel
                exact ⟨HC3.out.os.trans h1.os, HC3.out.tape.trans h1.tape, HC3.out.output.trans h1.output, Nat.le_trans h1.size HC3.out.size, fun z hz => (HC3.out.block z (by have := h1.size; omega) (hv z (by omega))).trans (h1.block z hz)⟩
              have hc2 : Chg w6 (w6.setCell ⟨g, 1, none⟩ (.slice A3 q3 c3)) (fun z => z ≠ g) := Chg.setCell w6 ⟨g, 1, none⟩ _
              refine ⟨⟨hbel.setCell (show W.heap.size ≤ g from hWg) _, by rw [HX.out]; exact HO3.out.chg hc2 fun z hz => by have := (HO3.out.lt hz).1; show z ≠ g; omega, by rw [HX.out]; exact HQ3.out, HB6.out.stored1 _⟩, rdChg7 (rdChg7 HJY.out.rd HC3.out fun ad' e h2 => HJY.out.ap ad' _ e h2 rfl) hc2 fun ad' e => HJY.out.ng ad' e, fun ad' z e hz => ?_, HJY.out.ng⟩
              rcases HV3.out z hz with e2 | e2
              · exact HJY.out.ap ad' z e e2
              · injection e with e
                subst e
                have := HZY.out
                omega)
            go_wp2
            go_roundg g3
            (case measure => omega)
            (case rel => exact ⟨j + 1, A3, q3, c3, by omega, by go_num, HJ6⟩))
end Go.Proofs.YtpkagpobobmnfaaGreatDoor
