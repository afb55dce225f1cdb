/-
  equalTrees at statements.
-/
import Derived.Test.YtiaendggmamnkaaGreatDoorETu
import Derived.Test.YtiaendggmamnkaaGreatDoorETx
import Derived.Deep.LoopGhost
namespace Go.Proofs.YtiaendggmamnkaaGreatDoor
open Go Go.RowKit

theorem slLenRM {w : World} {base : Nat} {v : Value} {L : List PrA} (h : OwnRM w base v L) : ∃ A c, v = .slice A L.length c := by
  rcases h.2 with ⟨rfl, h2⟩ | ⟨g, cap, cur, rfl, _⟩
  · exact ⟨none, 0, by rw [h2]⟩
  · exact ⟨_, _, rfl⟩
namespace Tr
variable {β : Type}
mutual
/-- Of all elements of a tree. -/
def allT (p : β → Prop) : Tr β → Prop
  | .mk v a b => p v ∧ allL p a ∧ allL p b
def allL (p : β → Prop) : List (Tr β) → Prop
  | [] => True
  | t :: r => allT p t ∧ allL p r
end
theorem allLAt {p : β → Prop} : ∀ {l : List (Tr β)} {j : Nat} (h : j < l.length), allL p l → p l[j].val ∧ allL p l[j].fst ∧ allL p l[j].snd
  | t :: r, 0, _, h => by
    cases t with
    | mk v a b => exact h.1
  | t :: r, j + 1, hj, h => allLAt (l := r) (by simpa using hj) h.2
theorem allLMem {p : β → Prop} {l : List (Tr β)} (h : allL p l) {t : Tr β} (ht : t ∈ l) : p t.val := by
  obtain ⟨j, hj, rfl⟩ := List.getElem_of_mem ht
  exact (allLAt hj h).1
/-- Of all elements inside the lists of a stack of pairs. -/
def allS (p : β → Prop) (S : List (List (Tr β) × List (Tr β))) : Prop := ∀ q ∈ S, allL p q.1 ∧ allL p q.2
theorem allPsh2 {p : β → Prop} {a b : List (Tr β)} {S : List (List (Tr β) × List (Tr β))} (ha : allL p a) (hb : allL p b) (h : allS p S) : allS p (psh2 a b S) := by
  unfold psh2
  split
  · exact h
  · intro q hq
    rcases List.mem_cons.1 hq with rfl | hq
    · exact ⟨ha, hb⟩
    · exact h q hq
theorem allPshK {p : β → Prop} {A B : List (Tr β)} {S : List (List (Tr β) × List (Tr β))} (ha : allL p A) (hb : allL p B) (h : allS p S) : ∀ k, allS p (pshK A B S k)
  | 0 => h
  | k + 1 => by
    rw [pshK]
    split
    · rename_i x y hx hy
      obtain ⟨h1, rfl⟩ := List.getElem?_eq_some_iff.1 hx
      obtain ⟨h2, rfl⟩ := List.getElem?_eq_some_iff.1 hy
      exact allPsh2 (allLAt h1 ha).2.2 (allLAt h2 hb).2.2 (allPsh2 (allLAt h1 ha).2.1 (allLAt h2 hb).2.1 (allPshK ha hb h k))
    · exact allPshK ha hb h k
end Tr
/-- A statement's expressions have few parts. -/
def FewE (v : SmD) : Prop := Tr.szL v.exprs ≤ 4000000
theorem wtPshGe {β : Type} (a b : List (Tr β)) (S : List (List (Tr β) × List (Tr β))) : Tr.wtP S ≤ Tr.wtP (Tr.psh2 a b S) := by
  unfold Tr.psh2
  split
  · exact Nat.le_refl _
  · rw [Tr.wtP]; omega
theorem pshKgo2 {β : Type} {A B : List (Tr β)} {S : List (List (Tr β) × List (Tr β))} {k : Nat} (h1 : k < A.length) (h2 : k < B.length) : Tr.pshK A B S (k + 1) = Tr.psh2 A[k].snd B[k].snd (Tr.psh2 A[k].fst B[k].fst (Tr.pshK A B S k)) := by
  rw [Tr.pshK, List.getElem?_eq_getElem h1, List.getElem?_eq_getElem h2]
theorem TrY.push {dx D : Nat} {w X X' : World} {L : List PrA} {S : List (List Sm × List Sm)} {v v' : Value} (h : TrY dx D w X L S v) {A B : Option Addr} {c d n m : Nat} {a b : List Sm} (hn : a.length = n) (hm : b.length = m) (hbx : Blk X' (w.heap.size + 1) 172 #[v']) (hrow : OwnRM X' w.heap.size v' (pshA2 ⟨A, n, c, B, m, d⟩ L.reverse))
    (hcg : Chg X X' (fun q => q ≠ w.heap.size + 1 ∧ v.ownBlock ≠ some q)) (hnew : ∀ g, v'.ownBlock = some g → v.ownBlock = some g ∨ X.heap.size ≤ g) (ha : RdE 9 (EM dx D) w A c a) (hb : RdE 9 (EM dx D) w B d b) (hsz : Tr.wtP (Tr.psh2 a b S) ≤ 9000000) : ∃ L', TrY dx D w X' L' (Tr.psh2 a b S) v' := by
  subst hn hm
  obtain ⟨L', h1, h2⟩ := h.stk.push ha hb
  rw [h2] at hrow
  refine ⟨L', h1, hbx, hrow, fun e => ?_, ?_, hsz⟩
  · rcases hnew _ e with e | e
    · exact h.ne e
    · have := h.box.lt; omega
  · have hb := h.bel
    exact ⟨hcg.os.trans hb.os, hcg.tape.trans hb.tape, hcg.output.trans hb.output, Nat.le_trans hb.size hcg.size, fun q hq => (hcg.block q (Nat.lt_of_lt_of_le hq hb.size) ⟨by omega, fun e => by have := (OwnRM.lt h.row e).1; omega⟩).trans (hb.block q hq)⟩
set_option maxRecDepth 100000 in
set_option maxHeartbeats 4000000 in
theorem iTreesM (dx D : Nat) (a b : List Sm) (n m : Nat) (hn : a.length = n) (hm : b.length = m) (hsa : Tr.szL a ≤ 4000000) (hsb : Tr.szL b ≤ 4000000) (hoa : Tr.allL FewE a) (hob : Tr.allL FewE b) (A B : Option Addr) (c d : Nat) (w : World) (ha : RdE 9 (EM dx D) w A c a) (hb : RdE 9 (EM dx D) w B d b) :
    Calls Tryz.prog 72 #[.slice A n c, .slice B m d, .func (.func 67) #[] #[], .func (.func 73) #[] #[]] w (SaysP (a = b) w) := by
  have hst := TrY.start dx D w ha hb hsa hsb
  rw [hn, hm] at hst
  obtain ⟨W, hW⟩ : ∃ W, (w.alloc (.cells #[.slice A n c, .slice B m d] 171)).alloc (.cells #[.slice (some ⟨w.heap.size, 0, none⟩) 1 1] 172) = W := ⟨_, rfl⟩
  rw [hW] at hst
  have HST := Lib.hid hst
  have HW := Lib.hid hW
  have HWT := Lib.hid (show Tr.wtP [(a, b)] < 9000001 by have := hst.sz; omega)
  have HSM := Lib.hid (show Tr.Same [(a, b)] ↔ a = b by simp [Tr.Same])
  have HOK := Lib.hid (show Tr.allS FewE [(a, b)] from fun q hq => by rw [List.mem_singleton.1 hq]; exact ⟨hoa, hob⟩)
  clear hst hW ha hb hn hm hsa hsb hoa hob
  go_enter Tryz.func72, Tryz.ntmps72
  go_wp2_with fail
  rw [HW.out]
  go_loopg [11] 9000001 (fun g _ wr => ∃ L S v, Hid (TrY dx D w wr L S v) ∧ Hid (Tr.wtP S < g) ∧ Hid (Tr.Same S ↔ a = b) ∧ Hid (Tr.allS FewE S))
  case atStart => exact ⟨_, _, _, HST, HWT, HSM, HOK⟩
  case round =>
    obtain ⟨L, S, v, HT, HG, HS, HOS⟩ := hrel
    obtain ⟨Av, cv, rfl⟩ := slLenRM HT.out.row
    obtain ⟨q, hq⟩ : ∃ q, L.reverse.length = q := ⟨_, rfl⟩
    rw [hq] at HT
    have k0 := HT.out.box.cell 0
    have k0 : wr.cell? ⟨w.heap.size + 1, 0, none⟩ = some (.slice Av q cv) := HT.out.box.cell 0
    cases L with
    | nil =>
      have hq0 : q = 0 := hq.symm
      subst hq0
      clear hq
      have hS : S = [] := by
        have := HT.out.stk.len
        exact List.eq_nil_of_length_eq_zero this.symm
      have HEQ := Lib.hid (show a = b from HS.out.1 (by rw [hS]; intro q h; cases h))
      have HBE := Lib.hid HT.out.bel
      clear hS
      go_wp2_with fail
      go_ret
      exact SaysP.mk ⟨fun _ => HEQ.out, fun _ => rfl⟩ HBE.out
    | cons p L2 =>
      have hrev : (p :: L2).reverse = L2.reverse ++ [p] := List.reverse_cons
      have hq1 : q = L2.length + 1 := by rw [← hq]; simp
      have hqp : (0 : Int) < (q : Int) := by omega
      obtain ⟨a1, b1, S2, rfl, hpn, hpm, hra, hrb, hstk⟩ := HT.out.stk.next
      have HPOP := Lib.hid (fun X (hX : Below wr.heap.size wr X) => iPopRM (L := L2.reverse) (x := p) X (HT.out.below hX).box (hrev ▸ (HT.out.below hX).row) HT.out.ne (by have := HT.out.len; rw [hrev] at this; simp at this ⊢; omega))
      have HPN := Lib.hid (And.intro hpn hpm)
      have HRA := Lib.hid hra
      have HRB := Lib.hid hrb
      have HK2 := Lib.hid hstk
      have hoks := HOS.out (a1, b1) List.mem_cons_self
      have HOA := Lib.hid hoks.1
      have HOB9 := Lib.hid hoks.2
      have HOR := Lib.hid (show Tr.allS FewE S2 from fun q hq => HOS.out q (List.mem_cons_of_mem _ hq))
      clear hoks
      obtain ⟨pA, pn, pc, pB, pm, pd⟩ := p
      dsimp only at HPOP HPN HRA HRB
      clear hq hrev hq1 hpn hpm hra hrb hstk
      go_wp2_with fail
      refine (HPOP.out wr (Below.refl _ _)).mono ?_
      rintro e Y ⟨rfl, v', hbx, hrow, hcg, hob⟩
      have hty : TrY dx D w Y L2 S2 v' := ⟨HK2.out, hbx, hrow, by rw [hob]; exact HT.out.ne, by
        have hb := HT.out.bel
        exact ⟨hcg.os.trans hb.os, hcg.tape.trans hb.tape, hcg.output.trans hb.output, Nat.le_trans hb.size hcg.size, fun q hq => (hcg.block q (Nat.lt_of_lt_of_le hq hb.size) (by omega)).trans (hb.block q hq)⟩, by have := HT.out.sz; rw [Tr.wtP] at this; omega⟩
      obtain ⟨X, hX⟩ : ∃ X, Y.alloc (.cells #[.slice pA pn pc, .slice pB pm pd] 171) = X := ⟨_, rfl⟩
      have hbX : Below Y.heap.size Y X := by rw [← hX]; exact belowAlloc _ _
      have BX : Blk X Y.heap.size 171 #[.slice pA pn pc, .slice pB pm pd] := by rw [← hX]; exact Blk.new _ _ _
      have htx := hty.below hbX
      have hzy := Lib.hid (show w.heap.size + 1 < Y.heap.size from hty.box.lt)
      have hobY := Lib.hid (show ∀ g, v'.ownBlock = some g → g ≠ Y.heap.size from fun g hg e => by have := (OwnRM.lt hty.row hg).2; omega)
      have HEF := Lib.hid (iEqFM dx D a1 b1 pn pm HPN.out.1.symm HPN.out.2.symm pA pB pc pd X (HRA.out.below (stabM dx D) htx.bel) (HRB.out.below (stabM dx D) htx.bel) (fun x hx => Tr.allLMem HOA.out hx) (fun x hx => Tr.allLMem HOB9.out hx))
      have z0 : X.cell? ⟨Y.heap.size, 0, none⟩ = some (.slice pA pn pc) := BX.cell 0
      have z1 : X.cell? ⟨Y.heap.size, 1, none⟩ = some (.slice pB pm pd) := BX.cell 1
      have HTX := Lib.hid htx
      have HX := Lib.hid hX
      have HBX := Lib.hid BX
      clear hbx hrow hcg hob hty hX hbX BX htx
      go_upto_region 5 with fail
      rw [HX.out]
      go_wp2_with fail
      refine HEF.out.mono ?_
      rintro e Z ⟨r, rfl, hr, hbZ⟩
      have HTZ := Lib.hid (HTX.out.below hbZ)
      have HBZ := Lib.hid (HBX.out.below' hbZ)
      cases r
      · have HNO := Lib.hid (show ¬ a = b from fun e => absurd (HS.out.2 e) (Tr.sameNot fun h => absurd (hr.2 (mapVal h)) (by decide)))
        clear hr hbZ z0 z1
        go_wp2_with fail
        go_ret
        exact SaysP.mk ⟨fun h => absurd h (by decide), fun h => absurd h HNO.out⟩ HTZ.out.bel
      · have HV := Lib.hid (valMap (hr.1 rfl))
        have y0 : Z.cell? ⟨Y.heap.size, 0, none⟩ = some (.slice pA pn pc) := HBZ.out.cell 0
        have y1 : Z.cell? ⟨Y.heap.size, 1, none⟩ = some (.slice pB pm pd) := HBZ.out.cell 1
        clear hr hbZ z0 z1
        go_wp2_with fail
        have HOB := Lib.hid (show ∀ g, v'.ownBlock = some g → g ≠ Y.heap.size from hobY.out)
        have HZY := hzy
        have HLE := Lib.hid (show Tr.wtP ((a1, b1) :: S2) ≤ 9000000 from HT.out.sz)
        go_loopw [36] (fun i wy => ∃ (k : Nat) (L' : List PrA) (v2 : Value), k ≤ pn ∧ i = .int .i64 k ∧ Hid (TrY dx D w wy L' (Tr.pshK a1 b1 S2 k) v2) ∧ Hid (Blk wy Y.heap.size 171 #[.slice pA pn pc, .slice pB pm pd]) ∧ Hid (∀ g, v2.ownBlock = some g → g ≠ Y.heap.size)) (fun i _ => pn - (intOf i).toNat)
        case atStart => exact ⟨0, L2, v', Nat.zero_le _, rfl, HTZ, HBZ, HOB⟩
        case round =>
          obtain ⟨k, L', v2, hk, rfl, HT2, HB2, HO2⟩ := hrel
          by_cases hlt : k < pn
          · have h1 : k < a1.length := by rw [← HPN.out.1]; exact hlt
            have h2 : k < b1.length := by have := HV.out.1; omega
            cases D with
            | zero =>
              obtain ⟨_, _, _, _, hx⟩ := HRA.out.one h1
              exact hx.elim
            | succ D1 =>
            obtain ⟨eb, eo, hA, el1, x0, x1, x2, x3, x4, x5, ⟨_, x6, A6, c6, rfl, _⟩, ⟨_, x7, A7, c7, rfl, r7⟩, ⟨_, x8, A8, c8, rfl, r8⟩⟩ := HRA.out.one h1
            obtain ⟨fb, fo, hB, el2, w0, w1, w2, w3, w4, w5, ⟨_, w6, B6, d6, rfl, _⟩, ⟨_, w7, B7, d7, rfl, t7⟩, ⟨_, w8, B8, d8, rfl, t8⟩⟩ := HRB.out.one h2
            subst hA hB
            have hgo := pshKgo2 (S := S2) h1 h2
            have hbd := wtBound (S := S2) HV.out.1 (k + 1) (by omega)
            obtain ⟨P, hP⟩ : ∃ x, a1[k] = x := ⟨_, rfl⟩
            obtain ⟨Q, hQ⟩ : ∃ x, b1[k] = x := ⟨_, rfl⟩
            rw [hP] at x0 x1 x2 x3 x4 x5 x6 x7 x8 hgo r7 r8
            rw [hQ] at w0 w1 w2 w3 w4 w5 w6 w7 w8 hgo t7 t8
            obtain ⟨n6, hn6⟩ : ∃ n, P.val.exprs.length = n := ⟨_, rfl⟩
            obtain ⟨m6, hm6⟩ : ∃ n, Q.val.exprs.length = n := ⟨_, rfl⟩
            obtain ⟨n7, hn7⟩ : ∃ n, P.fst.length = n := ⟨_, rfl⟩
            obtain ⟨m7, hm7⟩ : ∃ n, Q.fst.length = n := ⟨_, rfl⟩
            obtain ⟨n8, hn8⟩ : ∃ n, P.snd.length = n := ⟨_, rfl⟩
            obtain ⟨m8, hm8⟩ : ∃ n, Q.snd.length = n := ⟨_, rfl⟩
            rw [hn6] at x6
            rw [hm6] at w6
            rw [hn7] at x7
            rw [hm7] at w7
            rw [hn8] at x8
            rw [hm8] at w8
            have hbl := HT2.out.bel
            have g0 := (hbl.cell (p := ⟨eb, eo + k * 9, none⟩) el1).trans x0
            have g1 := (hbl.cell (p := ⟨eb, eo + k * 9 + 1, none⟩) el1).trans x1
            have g2 := (hbl.cell (p := ⟨eb, eo + k * 9 + 2, none⟩) el1).trans x2
            have g3 := (hbl.cell (p := ⟨eb, eo + k * 9 + 3, none⟩) el1).trans x3
            have g4 := (hbl.cell (p := ⟨eb, eo + k * 9 + 4, none⟩) el1).trans x4
            have g5 := (hbl.cell (p := ⟨eb, eo + k * 9 + 5, none⟩) el1).trans x5
            have g6 := (hbl.cell (p := ⟨eb, eo + k * 9 + 6, none⟩) el1).trans x6
            have g7 := (hbl.cell (p := ⟨eb, eo + k * 9 + 7, none⟩) el1).trans x7
            have g8 := (hbl.cell (p := ⟨eb, eo + k * 9 + 8, none⟩) el1).trans x8
            have z0 : wr.cell? ⟨Y.heap.size, 0, none⟩ = some (.slice (some ⟨eb, eo, none⟩) pn pc) := HB2.out.cell 0
            have HFB := Lib.hid (And.intro el2 (And.intro w0 (And.intro w1 (And.intro w2 (And.intro w3 (And.intro w4 (And.intro w5 (And.intro w6 (And.intro w7 w8)))))))))
            have HR7 := Lib.hid (r7.mono16 (E' := EM dx (D1 + 1)) fun _ _ _ h => h.up)
            have HR8 := Lib.hid (r8.mono16 (E' := EM dx (D1 + 1)) fun _ _ _ h => h.up)
            have HT7 := Lib.hid (t7.mono16 (E' := EM dx (D1 + 1)) fun _ _ _ h => h.up)
            have HT8 := Lib.hid (t8.mono16 (E' := EM dx (D1 + 1)) fun _ _ _ h => h.up)
            have HGO := Lib.hid hgo
            have HBD := Lib.hid (Nat.le_trans hbd HLE.out)
            have HN7 := Lib.hid (And.intro hn7 hm7)
            have HN8 := Lib.hid (And.intro hn8 hm8)
            have HAR := Lib.hid (fun X => iBlocks P.val.kind P.val.fn P.val.ord P.val.name P.val.obj P.val.other A6 A7 A8 n6 c6 n7 c7 n8 c8 X)
            have HAR2 := Lib.hid (fun X => iBlocks Q.val.kind Q.val.fn Q.val.ord Q.val.name Q.val.obj Q.val.other B6 B7 B8 m6 d6 m7 d7 m8 d8 X)
            unfold smC at HAR HAR2
            have hpx : pn ≤ 2 ^ 63 - 1 := by have h1 := HRA.out.le; have h2 := HRA.out.max; have h3 := HPN.out.1; unfold maxLen at h2; omega
            have hk0 : (0 : Int) ≤ k := by omega
            have hk1 : (k : Int) < pn := by omega
            have hk2 : (k : Int) < pm := by have := HPN.out; omega
            clear hgo hbd hP hQ hn6 hm6 hn7 hm7 hn8 hm8 r7 r8 t7 t8 hbl x0 x1 x2 x3 x4 x5 x6 x7 x8 w0 w1 w2 w3 w4 w5 w6 w7 w8 y0 y1
            go_wp2_with fail
            refine (HAR.out _).mono ?_
            rintro e U ⟨rfl, hbU⟩
            have htU := HT2.out.below hbU
            have hbl := htU.bel
            have f0 := (hbl.cell (p := ⟨fb, fo + k * 9, none⟩) HFB.out.1).trans HFB.out.2.1
            have f1 := (hbl.cell (p := ⟨fb, fo + k * 9 + 1, none⟩) HFB.out.1).trans HFB.out.2.2.1
            have f2 := (hbl.cell (p := ⟨fb, fo + k * 9 + 2, none⟩) HFB.out.1).trans HFB.out.2.2.2.1
            have f3 := (hbl.cell (p := ⟨fb, fo + k * 9 + 3, none⟩) HFB.out.1).trans HFB.out.2.2.2.2.1
            have f4 := (hbl.cell (p := ⟨fb, fo + k * 9 + 4, none⟩) HFB.out.1).trans HFB.out.2.2.2.2.2.1
            have f5 := (hbl.cell (p := ⟨fb, fo + k * 9 + 5, none⟩) HFB.out.1).trans HFB.out.2.2.2.2.2.2.1
            have f6 := (hbl.cell (p := ⟨fb, fo + k * 9 + 6, none⟩) HFB.out.1).trans HFB.out.2.2.2.2.2.2.2.1
            have f7 := (hbl.cell (p := ⟨fb, fo + k * 9 + 7, none⟩) HFB.out.1).trans HFB.out.2.2.2.2.2.2.2.2.1
            have f8 := (hbl.cell (p := ⟨fb, fo + k * 9 + 8, none⟩) HFB.out.1).trans HFB.out.2.2.2.2.2.2.2.2.2
            have hbxU := HB2.out.below' hbU
            have z1 : U.cell? ⟨Y.heap.size, 1, none⟩ = some (.slice (some ⟨fb, fo, none⟩) pm pd) := hbxU.cell 1
            have HTU := Lib.hid htU
            have HBU := Lib.hid hbxU
            clear g0 g1 g2 g3 g4 g5 g6 g7 g8 z0 htU hbl hbxU hbU
            go_wp2_with fail
            refine (HAR2.out _).mono ?_
            rintro e U2 ⟨rfl, hbU2⟩
            have ht2 := HTU.out.below hbU2
            have HT3 := Lib.hid ht2
            have HB3 := Lib.hid (HBU.out.below' hbU2)
            have HP1 := Lib.hid (iPushRM A7 n7 c7 B7 m7 d7 U2 ht2.box ht2.row ht2.ne ht2.bel.size ht2.len)
            clear f0 f1 f2 f3 f4 f5 f6 f7 f8 z1 ht2 hbU2
            go_wp2_with fail
            refine HP1.out.mono ?_
            rintro e U3 ⟨rfl, v3, hb3, ho3, hc3, hn3⟩
            obtain ⟨L3, ht3⟩ := HT3.out.push HN7.out.1 HN7.out.2 hb3 ho3 hc3 hn3 HR7.out HT7.out (by have h1 := HBD.out; rw [HGO.out] at h1; exact Nat.le_trans (wtPshGe _ _ _) h1)
            have HT4 := Lib.hid ht3
            have HB4 := Lib.hid (show Blk U3 Y.heap.size 171 #[.slice (some ⟨eb, eo, none⟩) pn pc, .slice (some ⟨fb, fo, none⟩) pm pd] from (hc3.block _ HB3.out.lt ⟨by have := HZY.out; omega, fun e => HO2.out _ e rfl⟩).trans HB3.out)
            have HO4 := Lib.hid (show ∀ g, v3.ownBlock = some g → g ≠ Y.heap.size from fun g hg e => by
              rcases hn3 g hg with h | h
              · exact HO2.out g h e
              · have := HB3.out.lt; omega)
            have HP2 := Lib.hid (iPushRM A8 n8 c8 B8 m8 d8 U3 ht3.box ht3.row ht3.ne ht3.bel.size ht3.len)
            clear hb3 ho3 hc3 hn3 ht3 HP1
            go_wp2_with fail
            refine HP2.out.mono ?_
            rintro e U4 ⟨rfl, v6, hb4, ho4, hc4, hn4⟩
            obtain ⟨L4, ht4⟩ := HT4.out.push HN8.out.1 HN8.out.2 hb4 ho4 hc4 hn4 HR8.out HT8.out (by rw [← HGO.out]; exact HBD.out)
            rw [← HGO.out] at ht4
            have HT5 := Lib.hid ht4
            have HB5 := Lib.hid (show Blk U4 Y.heap.size 171 #[.slice (some ⟨eb, eo, none⟩) pn pc, .slice (some ⟨fb, fo, none⟩) pm pd] from (hc4.block _ HB4.out.lt ⟨by have := HZY.out; omega, fun e => HO4.out _ e rfl⟩).trans HB4.out)
            have HO5 := Lib.hid (show ∀ g, v6.ownBlock = some g → g ≠ Y.heap.size from fun g hg e => by
              rcases hn4 g hg with h | h
              · exact HO4.out g h e
              · have := HB4.out.lt; omega)
            clear hb4 ho4 hc4 hn4 ht4 HP2
            go_wp2_with fail
            go_roundw
            case rel => exact ⟨k + 1, L4, v6, by omega, by go_num, HT5, HB5, HO5⟩
            case measure => simp [intOf]; omega
          · have hkp : k = a1.length := by rw [← HPN.out.1]; omega
            have HNX := Lib.hid (show Tr.Same (Tr.pshK a1 b1 S2 a1.length) ↔ a = b from (Tr.sameStep HV.out.1 HV.out.2).symm.trans HS.out)
            have HWS := Lib.hid (Tr.wtStep (S := S2) HV.out.1)
            have HOZ := Lib.hid (Tr.allPshK HOA.out HOB9.out HOR.out a1.length)
            rw [hkp] at HT2
            clear y0 y1 hkp
            go_wp2_with fail
            go_roundg (Tr.wtP (Tr.pshK a1 b1 S2 a1.length) + 1)
            case measure => have := HWS.out; have := HG.out; omega
            case rel => exact ⟨_, _, _, HT2, Lib.hid (by omega), HNX, HOZ⟩
end Go.Proofs.YtiaendggmamnkaaGreatDoor
