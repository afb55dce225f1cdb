/-
  equalTrees' stack: the row's pairs read as pairs of lists; its weight goes down with each round.
-/
import Derived.Test.YtiaendggmamnkaaGreatDoorEEf
import Derived.Test.YtiaendggmamnkaaGreatDoorERl
import Derived.Test.YtiaendggmamnkaaGreatDoorETrM
import Derived.Deep.LoopGhost
namespace Go.Proofs.YtiaendggmamnkaaGreatDoor
open Go Go.RowKit

namespace Tr
variable {β : Type}
def wtP : List (List (Tr β) × List (Tr β)) → Nat
  | [] => 0
  | q :: S => szL q.1 + szL q.2 + 1 + wtP S
theorem wtLen : ∀ S : List (List (Tr β) × List (Tr β)), S.length ≤ wtP S
  | [] => Nat.zero_le _
  | q :: S => by rw [wtP, List.length_cons]; have := wtLen S; omega
theorem wtPsh2 (a b : List (Tr β)) (S : List (List (Tr β) × List (Tr β))) : wtP (psh2 a b S) ≤ szL a + szL b + 1 + wtP S := by
  unfold psh2
  split
  · omega
  · exact Nat.le_of_eq rfl
theorem wtPshK {A B : List (Tr β)} {S : List (List (Tr β) × List (Tr β))} (hl : A.length = B.length) : ∀ k, k ≤ A.length → wtP (pshK A B S k) ≤ szL (A.take k) + szL (B.take k) + wtP S
  | 0, _ => by simp [pshK, szL]
  | k + 1, hk => by
    have h1 : A[k]? = some A[k] := List.getElem?_eq_getElem (by omega)
    have h2 : B[k]? = some B[k] := List.getElem?_eq_getElem (by omega)
    have e : pshK A B S (k + 1) = psh2 A[k].snd B[k].snd (psh2 A[k].fst B[k].fst (pshK A B S k)) := by rw [pshK, h1, h2]
    rw [e, szTake A k (by omega), szTake B k (by omega), szFs, szFs]
    have i1 := wtPsh2 A[k].snd B[k].snd (psh2 A[k].fst B[k].fst (pshK A B S k))
    have i2 := wtPsh2 A[k].fst B[k].fst (pshK A B S k)
    have i3 := wtPshK (S := S) hl k (by omega)
    omega
/-- One round makes the weight smaller. -/
theorem wtStep {A B : List (Tr β)} {S : List (List (Tr β) × List (Tr β))} (hl : A.length = B.length) : wtP (pshK A B S A.length) < wtP ((A, B) :: S) := by
  have h := wtPshK (S := S) hl A.length (Nat.le_refl _)
  rw [List.take_of_length_le (Nat.le_refl _), List.take_of_length_le (by omega)] at h
  rw [wtP]
  simp only
  omega
end Tr
section
variable {β : Type} {k : Nat} {E : World → Nat → Nat → Tr β → Prop} {w w' : World}
/-- The row's pairs, the last one first, read as pairs of lists. -/
def StkP (k : Nat) (E : World → Nat → Nat → Tr β → Prop) (w : World) : List PrA → List (List (Tr β) × List (Tr β)) → Prop
  | [], [] => True
  | p :: L, (a, b) :: S => p.n = a.length ∧ p.m = b.length ∧ RdE k E w p.A p.c a ∧ RdE k E w p.B p.d b ∧ StkP k E w L S
  | _, _ => False
theorem StkP.below (hE : StabE E) (hb : Below w.heap.size w w') : ∀ {L : List PrA} {S : List (List (Tr β) × List (Tr β))}, StkP k E w L S → StkP k E w' L S
  | [], [], _ => trivial
  | _ :: _, (_, _) :: _, ⟨h1, h2, h3, h4, h5⟩ => ⟨h1, h2, h3.below hE hb, h4.below hE hb, StkP.below hE hb h5⟩
  | [], _ :: _, h => h.elim
  | _ :: _, [], h => h.elim
theorem StkP.len : ∀ {L : List PrA} {S : List (List (Tr β) × List (Tr β))}, StkP k E w L S → L.length = S.length
  | [], [], _ => rfl
  | _ :: _, (_, _) :: _, ⟨_, _, _, _, h5⟩ => by simp [StkP.len h5]
  | [], _ :: _, h => h.elim
  | _ :: _, [], h => h.elim
theorem StkP.le {L : List PrA} {S : List (List (Tr β) × List (Tr β))} (h : StkP k E w L S) : L.length ≤ Tr.wtP S := by
  rw [h.len]
  exact Tr.wtLen S
theorem StkP.next {p : PrA} {L : List PrA} {S : List (List (Tr β) × List (Tr β))} (h : StkP k E w (p :: L) S) : ∃ a b S', S = (a, b) :: S' ∧ p.n = a.length ∧ p.m = b.length ∧ RdE k E w p.A p.c a ∧ RdE k E w p.B p.d b ∧ StkP k E w L S' := by
  match S, h with
  | (a, b) :: S', ⟨h1, h2, h3, h4, h5⟩ => exact ⟨a, b, S', rfl, h1, h2, h3, h4, h5⟩
/-- push, on both sides: the row grows at its end. -/
theorem StkP.push {A B : Option Addr} {c d : Nat} {a b : List (Tr β)} {L : List PrA} {S : List (List (Tr β) × List (Tr β))} (h : StkP k E w L S) (ha : RdE k E w A c a) (hb : RdE k E w B d b) :
    ∃ L', StkP k E w L' (Tr.psh2 a b S) ∧ pshA2 ⟨A, a.length, c, B, b.length, d⟩ L.reverse = L'.reverse := by
  unfold Tr.psh2 pshA2
  by_cases he : a = [] ∧ b = []
  · obtain ⟨rfl, rfl⟩ := he
    exact ⟨L, by rw [if_pos ⟨rfl, rfl⟩]; exact h, by rw [if_pos ⟨rfl, rfl⟩]⟩
  · have hn : ¬ (a.length = 0 ∧ b.length = 0) := fun e => he ⟨List.eq_nil_of_length_eq_zero e.1, List.eq_nil_of_length_eq_zero e.2⟩
    exact ⟨⟨A, a.length, c, B, b.length, d⟩ :: L, by rw [if_neg he]; exact ⟨rfl, rfl, ha, hb, h⟩, by rw [if_neg hn]; simp⟩
end
end Go.Proofs.YtiaendggmamnkaaGreatDoor

namespace Go.Proofs.YtiaendggmamnkaaGreatDoor
open Go Go.RowKit

/-- The stack S in the row in open's box, the block behind w's last but one. -/
structure TrX (dx : Nat) (w X : World) (L : List PrA) (S : List (List Ex × List Ex)) (v : Value) : Prop where
  stk : StkP 5 (EX dx) w L S
  box : Blk X (w.heap.size + 1) 226 #[v]
  row : OwnRX X w.heap.size v L.reverse
  ne : v.ownBlock ≠ some (w.heap.size + 1)
  bel : Below w.heap.size w X
  sz : Tr.wtP S ≤ 9000000
theorem TrX.below {dx : Nat} {w X Y : World} {L : List PrA} {S : List (List Ex × List Ex)} {v : Value} (h : TrX dx w X L S v) (hb : Below X.heap.size X Y) : TrX dx w Y L S v :=
  ⟨h.stk, h.box.below' hb, h.row.below hb, h.ne, belowThen h.bel hb, h.sz⟩
theorem TrX.len {dx : Nat} {w X : World} {L : List PrA} {S : List (List Ex × List Ex)} {v : Value} (h : TrX dx w X L S v) : L.reverse.length ≤ 10000000 := by
  have h1 := h.stk.le
  have h2 := h.sz
  rw [List.length_reverse]
  omega
/-- At the start: one pair. -/
theorem TrX.start (dx : Nat) (w : World) {a b : List Ex} {A B : Option Addr} {c d : Nat} (ha : RdE 5 (EX dx) w A c a) (hb : RdE 5 (EX dx) w B d b) (hsa : Tr.szL a ≤ 4000000) (hsb : Tr.szL b ≤ 4000000) :
    TrX dx w ((w.alloc (.cells #[.slice A a.length c, .slice B b.length d] 225)).alloc (.cells #[.slice (some ⟨w.heap.size, 0, none⟩) 1 1] 226)) [⟨A, a.length, c, B, b.length, d⟩] [(a, b)] (.slice (some ⟨w.heap.size, 0, none⟩) 1 1) := by
  refine ⟨⟨rfl, rfl, ha, hb, trivial⟩, Blk.new1 w _ _ _, ⟨rfl, .inr ⟨w.heap.size, 1, _, rfl, Nat.le_refl _, ((belowAlloc _ _).block w.heap.size (by simp)).trans (World.alloc_heap_new w _), Nat.le_refl _, by unfold maxLen; omega, rfl, rfl⟩⟩, ?_, belowThen (belowAlloc _ _) (belowAlloc _ _), ?_⟩
  · intro h
    injection h with h
    simp at h
  · simp only [Tr.wtP]
    omega
end Go.Proofs.YtiaendggmamnkaaGreatDoor

namespace Go.Proofs.YtiaendggmamnkaaGreatDoor
open Go Go.RowKit

theorem slLenRX {w : World} {base : Nat} {v : Value} {L : List PrA} (h : OwnRX w base v L) : ∃ A c, v = .slice A L.length c := by
  rcases h.2 with ⟨rfl, h2⟩ | ⟨g, cap, cur, rfl, _⟩
  · exact ⟨none, 0, by rw [h2]⟩
  · exact ⟨_, _, rfl⟩
theorem szTakeLe {β : Type} : ∀ (l : List (Tr β)) (k : Nat), Tr.szL (l.take k) ≤ Tr.szL l
  | [], k => by simp
  | t :: r, 0 => by simp [Tr.szL]
  | t :: r, k + 1 => by
    have := szTakeLe r k
    simp only [List.take_succ_cons, Tr.szL]
    omega
theorem wtBound {β : Type} {A B : List (Tr β)} {S : List (List (Tr β) × List (Tr β))} (hl : A.length = B.length) (k : Nat) (hk : k ≤ A.length) : Tr.wtP (Tr.pshK A B S k) ≤ Tr.wtP ((A, B) :: S) := by
  have h1 := Tr.wtPshK (S := S) hl k hk
  have h2 := szTakeLe A k
  have h3 := szTakeLe B k
  rw [Tr.wtP]
  simp only
  omega
theorem pshKgo {β : Type} {A B : List (Tr β)} {S : List (List (Tr β) × List (Tr β))} {k : Nat} (h1 : k < A.length) (h2 : k < B.length) (e1 : A[k].snd = []) (e2 : B[k].snd = []) : Tr.pshK A B S (k + 1) = Tr.psh2 A[k].fst B[k].fst (Tr.pshK A B S k) := by
  rw [Tr.pshK, List.getElem?_eq_getElem h1, List.getElem?_eq_getElem h2]
  simp only
  rw [e1, e2]
  unfold Tr.psh2
  rw [if_pos ⟨rfl, rfl⟩]
theorem psh2Nil {β : Type} (S : List (List (Tr β) × List (Tr β))) : Tr.psh2 [] [] S = S := by
  unfold Tr.psh2
  rw [if_pos ⟨rfl, rfl⟩]
theorem mapVal {β : Type} {A B : List (Tr β)} (h : A.length = B.length ∧ ∀ j (ha : j < A.length) (hb : j < B.length), A[j].val = B[j].val) : A.map Tr.val = B.map Tr.val :=
  List.ext_getElem (by simp [h.1]) fun j h1 h2 => by
    rw [List.getElem_map, List.getElem_map]
    exact h.2 j (by simpa using h1) (by simpa using h2)
theorem valMap {β : Type} {A B : List (Tr β)} (h : A.map Tr.val = B.map Tr.val) : A.length = B.length ∧ ∀ j (ha : j < A.length) (hb : j < B.length), A[j].val = B[j].val := by
  refine ⟨by simpa using congrArg List.length h, fun j ha hb => ?_⟩
  have h1 : (A.map Tr.val)[j]? = (B.map Tr.val)[j]? := by rw [h]
  rw [List.getElem?_map, List.getElem?_map, List.getElem?_eq_getElem ha, List.getElem?_eq_getElem hb] at h1
  simpa using h1
theorem TrX.push {dx : Nat} {w X X' : World} {L : List PrA} {S : List (List Ex × List Ex)} {v v' : Value} (h : TrX dx w X L S v) {A B : Option Addr} {c d n m : Nat} {a b : List Ex} (hn : a.length = n) (hm : b.length = m) (hbx : Blk X' (w.heap.size + 1) 226 #[v']) (hrow : OwnRX X' w.heap.size v' (pshA2 ⟨A, n, c, B, m, d⟩ L.reverse))
    (hcg : Chg X X' (fun q => q ≠ w.heap.size + 1 ∧ v.ownBlock ≠ some q)) (hnew : ∀ g, v'.ownBlock = some g → v.ownBlock = some g ∨ X.heap.size ≤ g) (ha : RdE 5 (EX dx) w A c a) (hb : RdE 5 (EX dx) w B d b) (hsz : Tr.wtP (Tr.psh2 a b S) ≤ 9000000) : ∃ L', TrX dx w X' L' (Tr.psh2 a b S) v' := by
  subst hn hm
  obtain ⟨L', h1, h2⟩ := h.stk.push ha hb
  rw [h2] at hrow
  refine ⟨L', h1, hbx, hrow, fun e => ?_, ?_, hsz⟩
  · rcases hnew _ e with e | e
    · exact h.ne e
    · have := h.box.lt; omega
  · have hb := h.bel
    exact ⟨hcg.os.trans hb.os, hcg.tape.trans hb.tape, hcg.output.trans hb.output, Nat.le_trans hb.size hcg.size, fun q hq => (hcg.block q (Nat.lt_of_lt_of_le hq hb.size) ⟨by omega, fun e => by have := (OwnRX.lt h.row e).1; omega⟩).trans (hb.block q hq)⟩
set_option maxRecDepth 100000 in
set_option maxHeartbeats 4000000 in
theorem iTreesX (dx : Nat) (a b : List Ex) (n m : Nat) (hn : a.length = n) (hm : b.length = m) (hsa : Tr.szL a ≤ 4000000) (hsb : Tr.szL b ≤ 4000000) (A B : Option Addr) (c d : Nat) (w : World) (ha : RdE 5 (EX dx) w A c a) (hb : RdE 5 (EX dx) w B d b) :
    Calls Tryz.prog 127 #[.slice A n c, .slice B m d, .func (.func 112) #[] #[], .func (.func 128) #[] #[]] w (SaysP (a = b) w) := by
  have hst := TrX.start dx w ha hb hsa hsb
  rw [hn, hm] at hst
  obtain ⟨W, hW⟩ : ∃ W, (w.alloc (.cells #[.slice A n c, .slice B m d] 225)).alloc (.cells #[.slice (some ⟨w.heap.size, 0, none⟩) 1 1] 226) = W := ⟨_, rfl⟩
  rw [hW] at hst
  have HST := Lib.hid hst
  have HW := Lib.hid hW
  have HWT := Lib.hid (show Tr.wtP [(a, b)] < 9000001 by have := hst.sz; omega)
  have HSM := Lib.hid (show Tr.Same [(a, b)] ↔ a = b by simp [Tr.Same])
  clear hst hW ha hb hn hm hsa hsb
  go_enter Tryz.func127, Tryz.ntmps127
  go_wp2_with fail
  rw [HW.out]
  go_loopg [11] 9000001 (fun g _ wr => ∃ L S v, Hid (TrX dx w wr L S v) ∧ Hid (Tr.wtP S < g) ∧ Hid (Tr.Same S ↔ a = b))
  case atStart => exact ⟨_, _, _, HST, HWT, HSM⟩
  case round =>
    obtain ⟨L, S, v, HT, HG, HS⟩ := hrel
    obtain ⟨Av, cv, rfl⟩ := slLenRX HT.out.row
    obtain ⟨q, hq⟩ : ∃ q, L.reverse.length = q := ⟨_, rfl⟩
    rw [hq] at HT
    have k0 := HT.out.box.cell 0
    have k0 : wr.cell? ⟨w.heap.size + 1, 0, none⟩ = some (.slice Av q cv) := HT.out.box.cell 0
    cases L with
    | nil =>
      have hq0 : q = 0 := hq.symm
      subst hq0
      clear hq
      have hS : S = [] := by
        have := HT.out.stk.len
        exact List.eq_nil_of_length_eq_zero this.symm
      have HEQ := Lib.hid (show a = b from HS.out.1 (by rw [hS]; intro q h; cases h))
      have HBE := Lib.hid HT.out.bel
      clear hS
      go_wp2_with fail
      go_ret
      exact SaysP.mk ⟨fun _ => HEQ.out, fun _ => rfl⟩ HBE.out
    | cons p L2 =>
      have hrev : (p :: L2).reverse = L2.reverse ++ [p] := List.reverse_cons
      have hq1 : q = L2.length + 1 := by rw [← hq]; simp
      have hqp : (0 : Int) < (q : Int) := by omega
      obtain ⟨a1, b1, S2, rfl, hpn, hpm, hra, hrb, hstk⟩ := HT.out.stk.next
      have HPOP := Lib.hid (fun X (hX : Below wr.heap.size wr X) => iPopRX (L := L2.reverse) (x := p) X (HT.out.below hX).box (hrev ▸ (HT.out.below hX).row) HT.out.ne (by have := HT.out.len; rw [hrev] at this; simp at this ⊢; omega))
      have HPN := Lib.hid (And.intro hpn hpm)
      have HRA := Lib.hid hra
      have HRB := Lib.hid hrb
      have HK2 := Lib.hid hstk
      obtain ⟨pA, pn, pc, pB, pm, pd⟩ := p
      dsimp only at HPOP HPN HRA HRB
      clear hq hrev hq1 hpn hpm hra hrb hstk
      go_wp2_with fail
      refine (HPOP.out wr (Below.refl _ _)).mono ?_
      rintro e Y ⟨rfl, v', hbx, hrow, hcg, hob⟩
      have hty : TrX dx w Y L2 S2 v' := ⟨HK2.out, hbx, hrow, by rw [hob]; exact HT.out.ne, by
        have hb := HT.out.bel
        exact ⟨hcg.os.trans hb.os, hcg.tape.trans hb.tape, hcg.output.trans hb.output, Nat.le_trans hb.size hcg.size, fun q hq => (hcg.block q (Nat.lt_of_lt_of_le hq hb.size) (by omega)).trans (hb.block q hq)⟩, by have := HT.out.sz; rw [Tr.wtP] at this; omega⟩
      obtain ⟨X, hX⟩ : ∃ X, Y.alloc (.cells #[.slice pA pn pc, .slice pB pm pd] 225) = X := ⟨_, rfl⟩
      have hbX : Below Y.heap.size Y X := by rw [← hX]; exact belowAlloc _ _
      have BX : Blk X Y.heap.size 225 #[.slice pA pn pc, .slice pB pm pd] := by rw [← hX]; exact Blk.new _ _ _
      have htx := hty.below hbX
      have hzy := Lib.hid (show w.heap.size + 1 < Y.heap.size from hty.box.lt)
      have hobY := Lib.hid (show ∀ g, v'.ownBlock = some g → g ≠ Y.heap.size from fun g hg e => by have := (OwnRX.lt hty.row hg).2; omega)
      have HEF := Lib.hid (iEqFX dx a1 b1 pn pm HPN.out.1.symm HPN.out.2.symm pA pB pc pd X (HRA.out.below (stabX dx) htx.bel) (HRB.out.below (stabX dx) htx.bel))
      have z0 : X.cell? ⟨Y.heap.size, 0, none⟩ = some (.slice pA pn pc) := BX.cell 0
      have z1 : X.cell? ⟨Y.heap.size, 1, none⟩ = some (.slice pB pm pd) := BX.cell 1
      have HTX := Lib.hid htx
      have HX := Lib.hid hX
      have HBX := Lib.hid BX
      clear hbx hrow hcg hob hty hX hbX BX htx
      go_upto_region 5 with fail
      rw [HX.out]
      go_wp2_with fail
      refine HEF.out.mono ?_
      rintro e Z ⟨r, rfl, hr, hbZ⟩
      have HTZ := Lib.hid (HTX.out.below hbZ)
      have HBZ := Lib.hid (HBX.out.below' hbZ)
      cases r
      · have HNO := Lib.hid (show ¬ a = b from fun e => absurd (HS.out.2 e) (Tr.sameNot fun h => absurd (hr.2 (mapVal h)) (by decide)))
        clear hr hbZ z0 z1
        go_wp2_with fail
        go_ret
        exact SaysP.mk ⟨fun h => absurd h (by decide), fun h => absurd h HNO.out⟩ HTZ.out.bel
      · have HV := Lib.hid (valMap (hr.1 rfl))
        have y0 : Z.cell? ⟨Y.heap.size, 0, none⟩ = some (.slice pA pn pc) := HBZ.out.cell 0
        have y1 : Z.cell? ⟨Y.heap.size, 1, none⟩ = some (.slice pB pm pd) := HBZ.out.cell 1
        clear hr hbZ z0 z1
        go_wp2_with fail
        have HOB := Lib.hid (show ∀ g, v'.ownBlock = some g → g ≠ Y.heap.size from hobY.out)
        have HZY := hzy
        have HLE := Lib.hid (show Tr.wtP ((a1, b1) :: S2) ≤ 9000000 from HT.out.sz)
        go_loopw [36] (fun i wy => ∃ (k : Nat) (L' : List PrA) (v2 : Value), k ≤ pn ∧ i = .int .i64 k ∧ Hid (TrX dx w wy L' (Tr.pshK a1 b1 S2 k) v2) ∧ Hid (Blk wy Y.heap.size 225 #[.slice pA pn pc, .slice pB pm pd]) ∧ Hid (∀ g, v2.ownBlock = some g → g ≠ Y.heap.size)) (fun i _ => pn - (intOf i).toNat)
        case atStart => exact ⟨0, L2, v', Nat.zero_le _, rfl, HTZ, HBZ, HOB⟩
        case round =>
          obtain ⟨k, L', v2, hk, rfl, HT2, HB2, HO2⟩ := hrel
          by_cases hlt : k < pn
          · have h1 : k < a1.length := by rw [← HPN.out.1]; exact hlt
            have h2 : k < b1.length := by have := HV.out.1; omega
            cases dx with
            | zero =>
              obtain ⟨_, _, _, _, hx⟩ := HRA.out.one h1
              exact hx.elim
            | succ dx1 =>
            obtain ⟨eb, eo, hA, el1, x0, x1, x2, x3, hs1, v4, x4, A4, c4, rfl, r4⟩ := HRA.out.one h1
            obtain ⟨fb, fo, hB, el2, w0, w1, w2, w3, hs2, v5, w4, B4, d4, rfl, r5⟩ := HRB.out.one h2
            subst hA hB
            have hgo := pshKgo (S := S2) h1 h2 hs1 hs2
            have hbd := wtBound (S := S2) HV.out.1 (k + 1) (by omega)
            obtain ⟨P, hP⟩ : ∃ x, a1[k] = x := ⟨_, rfl⟩
            obtain ⟨Q, hQ⟩ : ∃ x, b1[k] = x := ⟨_, rfl⟩
            rw [hP] at x0 x1 x2 x3 x4 hgo r4
            rw [hQ] at w0 w1 w2 w3 w4 hgo r5
            obtain ⟨n4, hn4⟩ : ∃ n, P.fst.length = n := ⟨_, rfl⟩
            obtain ⟨m4, hm4⟩ : ∃ n, Q.fst.length = n := ⟨_, rfl⟩
            rw [hn4] at x4
            rw [hm4] at w4
            have hbl := HT2.out.bel
            have g0 := (hbl.cell (p := ⟨eb, eo + k * 5, none⟩) el1).trans x0
            have g1 := (hbl.cell (p := ⟨eb, eo + k * 5 + 1, none⟩) el1).trans x1
            have g2 := (hbl.cell (p := ⟨eb, eo + k * 5 + 2, none⟩) el1).trans x2
            have g3 := (hbl.cell (p := ⟨eb, eo + k * 5 + 3, none⟩) el1).trans x3
            have g4 := (hbl.cell (p := ⟨eb, eo + k * 5 + 4, none⟩) el1).trans x4
            have z0 : wr.cell? ⟨Y.heap.size, 0, none⟩ = some (.slice (some ⟨eb, eo, none⟩) pn pc) := HB2.out.cell 0
            have HFB := Lib.hid (And.intro el2 (And.intro w0 (And.intro w1 (And.intro w2 (And.intro w3 w4)))))
            have HR4 := Lib.hid (r4.mono16 (E' := EX (dx1 + 1)) fun _ _ _ h => h.up)
            have HR5 := Lib.hid (r5.mono16 (E' := EX (dx1 + 1)) fun _ _ _ h => h.up)
            have HGO := Lib.hid hgo
            have HBD := Lib.hid (Nat.le_trans hbd HLE.out)
            have HN4 := Lib.hid (And.intro hn4 hm4)
            have HAR := Lib.hid (fun X => iArgs P.val.kind P.val.n P.val.fn P.val.name A4 n4 c4 X)
            have HAR2 := Lib.hid (fun X => iArgs Q.val.kind Q.val.n Q.val.fn Q.val.name B4 m4 d4 X)
            unfold exC at HAR HAR2
            have hpx : pn ≤ 2 ^ 63 - 1 := by have h1 := HRA.out.le; have h2 := HRA.out.max; have h3 := HPN.out.1; unfold maxLen at h2; omega
            have hk0 : (0 : Int) ≤ k := by omega
            have hk1 : (k : Int) < pn := by omega
            have hk2 : (k : Int) < pm := by have := HPN.out; omega
            clear hgo hbd hP hQ hn4 hm4 r4 r5 hbl x0 x1 x2 x3 x4 w0 w1 w2 w3 w4 hs1 hs2 y0 y1
            go_wp2_with fail
            refine (HAR.out _).mono ?_
            rintro e U ⟨rfl, hbU⟩
            have htU := HT2.out.below hbU
            have hbl := htU.bel
            have f0 := (hbl.cell (p := ⟨fb, fo + k * 5, none⟩) HFB.out.1).trans HFB.out.2.1
            have f1 := (hbl.cell (p := ⟨fb, fo + k * 5 + 1, none⟩) HFB.out.1).trans HFB.out.2.2.1
            have f2 := (hbl.cell (p := ⟨fb, fo + k * 5 + 2, none⟩) HFB.out.1).trans HFB.out.2.2.2.1
            have f3 := (hbl.cell (p := ⟨fb, fo + k * 5 + 3, none⟩) HFB.out.1).trans HFB.out.2.2.2.2.1
            have f4 := (hbl.cell (p := ⟨fb, fo + k * 5 + 4, none⟩) HFB.out.1).trans HFB.out.2.2.2.2.2
            have hbxU := HB2.out.below' hbU
            have z1 : U.cell? ⟨Y.heap.size, 1, none⟩ = some (.slice (some ⟨fb, fo, none⟩) pm pd) := hbxU.cell 1
            have HTU := Lib.hid htU
            have HBU := Lib.hid hbxU
            clear g0 g1 g2 g3 g4 z0 htU hbl hbxU hbU
            go_wp2_with fail
            refine (HAR2.out _).mono ?_
            rintro e U2 ⟨rfl, hbU2⟩
            have ht2 := HTU.out.below hbU2
            have HT3 := Lib.hid ht2
            have HB3 := Lib.hid (HBU.out.below' hbU2)
            have HP1 := Lib.hid (iPushRX A4 n4 c4 B4 m4 d4 U2 ht2.box ht2.row ht2.ne ht2.bel.size ht2.len)
            clear f0 f1 f2 f3 f4 z1 ht2 hbU2
            go_wp2_with fail
            refine HP1.out.mono ?_
            rintro e U3 ⟨rfl, v3, hb3, ho3, hc3, hn3⟩
            obtain ⟨L3, ht3⟩ := HT3.out.push HN4.out.1 HN4.out.2 hb3 ho3 hc3 hn3 HR4.out HR5.out (by rw [← HGO.out]; exact HBD.out)
            have HT4 := Lib.hid ht3
            have HB4 := Lib.hid (show Blk U3 Y.heap.size 225 #[.slice (some ⟨eb, eo, none⟩) pn pc, .slice (some ⟨fb, fo, none⟩) pm pd] from (hc3.block _ HB3.out.lt ⟨by have := HZY.out; omega, fun e => HO2.out _ e rfl⟩).trans HB3.out)
            have HO4 := Lib.hid (show ∀ g, v3.ownBlock = some g → g ≠ Y.heap.size from fun g hg e => by
              rcases hn3 g hg with h | h
              · exact HO2.out g h e
              · have := HB3.out.lt; omega)
            have HP2 := Lib.hid (iPushRX none 0 0 none 0 0 U3 ht3.box ht3.row ht3.ne ht3.bel.size ht3.len)
            clear hb3 ho3 hc3 hn3 ht3 HP1
            go_wp2_with fail
            refine HP2.out.mono ?_
            rintro e U4 ⟨rfl, v6, hb4, ho4, hc4, hn4⟩
            obtain ⟨L4, ht4⟩ := HT4.out.push (a := []) (b := []) rfl rfl hb4 ho4 hc4 hn4 RdE.nil RdE.nil (by rw [psh2Nil, ← HGO.out]; exact HBD.out)
            rw [psh2Nil, ← HGO.out] at ht4
            have HT5 := Lib.hid ht4
            have HB5 := Lib.hid (show Blk U4 Y.heap.size 225 #[.slice (some ⟨eb, eo, none⟩) pn pc, .slice (some ⟨fb, fo, none⟩) pm pd] from (hc4.block _ HB4.out.lt ⟨by have := HZY.out; omega, fun e => HO4.out _ e rfl⟩).trans HB4.out)
            have HO5 := Lib.hid (show ∀ g, v6.ownBlock = some g → g ≠ Y.heap.size from fun g hg e => by
              rcases hn4 g hg with h | h
              · exact HO4.out g h e
              · have := HB4.out.lt; omega)
            clear hb4 ho4 hc4 hn4 ht4 HP2
            go_wp2_with fail
            go_roundw
            case rel => exact ⟨k + 1, L4, v6, by omega, by go_num, HT5, HB5, HO5⟩
            case measure => simp [intOf]; omega
          · have hkp : k = a1.length := by rw [← HPN.out.1]; omega
            have HNX := Lib.hid (show Tr.Same (Tr.pshK a1 b1 S2 a1.length) ↔ a = b from (Tr.sameStep HV.out.1 HV.out.2).symm.trans HS.out)
            have HWS := Lib.hid (Tr.wtStep (S := S2) HV.out.1)
            rw [hkp] at HT2
            clear y0 y1 hkp
            go_wp2_with fail
            go_roundg (Tr.wtP (Tr.pshK a1 b1 S2 a1.length) + 1)
            case measure => have := HWS.out; have := HG.out; omega
            case rel => exact ⟨_, _, _, HT2, Lib.hid (by omega), HNX⟩
end Go.Proofs.YtiaendggmamnkaaGreatDoor
