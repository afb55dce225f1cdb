/-
  The specification's levels.
-/
import Derived.Test.YtjioiaeiggjneaaDoorKLvA
import Derived.BigQuiet
import Derived.Deep.RegionWith
import Derived.StillTailTactics
import Derived.Test.YtjioiaeiggjneaaDoorKCnt
import Derived.Test.YtjioiaeiggjneaaDoorKLFw
import Derived.Test.YtjioiaeiggjneaaDoorKRp5M
import Derived.Test.YtjioiaeiggjneaaDoorKRDef
import Derived.Test.YtjioiaeiggjneaaDoorKLinE
import Derived.Test.YtjioiaeiggjneaaDoorKRp5
import Derived.OrdersHeld
import Derived.Deep.RegionHeld
import Derived.Deep.RegionLaw
import Derived.Lib.AppendZeros
import Derived.Test.YtjioiaeiggjneaaDoorKRnk
import Derived.Deep.RegionHeld3
import Derived.Test.YtjioiaeiggjneaaDoorKNth
import Derived.Test.YtjioiaeiggjneaaDoorKLAw
import Derived.Test.YtjioiaeiggjneaaDoorKRLs
namespace Go.Proofs.YtjioiaeiggjneaaDoor
open Go Go.RowKit

theorem results_tct {fn : Func} {t p u : Tmp} {ty : TypeId} (h : fn.results = #[.tmp t, .cell p ty, .tmp u]) (tmps : Array Value) (P : Program) (w : World) :
    (results fn tmps).run P w =
      ((asAddr (tmps.getD p undef)).run P w).andThen fun a w₁ => ((loadVar ty a).run P w₁).andThen fun v w₂ => .ok (.tuple #[tmps.getD t undef, v, tmps.getD u undef]) w₂ := by
  simp only [results, h]
  simp [Sem.run_bind, Result.andThen]
theorem Blk.res3 {W : World} {b : Nat} {T : TypeId} {cs : Array Value} {P : Program} (h : Blk W b T cs) {fn : Func} {t p u : Tmp} {ty : TypeId} (hf : fn.results = #[.tmp t, .cell p ty, .tmp u]) (tmps : Array Value) (hp : tmps.getD p undef = .pointer (some ⟨b, 0, none⟩)) {d : TypeDesc}
    (hu : P.underlying ty = some d) (hd : (match d with | .struct _ | .array _ _ => true | _ => false) = true) (hi : (P.info? ty).map (·.size) = some cs.size) : (results fn tmps).run P W = .ok (.tuple #[tmps.getD t undef, .agg cs, tmps.getD u undef]) W := by
  have hp' : tmps[p]?.getD undef = .pointer (some ⟨b, 0, none⟩) := by simpa using hp
  rw [results_tct hf]
  simp [hp', asAddr, run_loadVar_row W b T ty cs (0, 0) d h hu hd hi]
theorem ownOfBlk {W : World} {base g : Nat} {T : TypeId} {c : Value} (h : Blk W g T #[c]) (hb : base ≤ g) : W.ownsRow base T 1 (.slice (some ⟨g, 0, none⟩) 1 1) 1 [c] :=
  ⟨rfl, .inr ⟨g, 1, _, rfl, hb, h, Nat.le_refl _, by decide, rfl, rfl⟩⟩
/-- Between two levels: the relation's box, the result's, the box and the rows of the level. -/
structure LvS (w V : World) (N : Int) (v a b : Value) (P : List (Nat × Nat)) : Prop where
  g : BoxR V w.heap.size N v
  r : Blk V (w.heap.size + 1) 69 #[.slice none 0 0, .slice none 0 0, .bool false]
  k : Blk V (w.heap.size + 1 + 1 + 1 + 1) 69 #[a, b, .bool false]
  s : OwnU V w.heap.size a (P.map (·.1))
  u : OwnI V w.heap.size b (wysI P)
  d : Below w.heap.size w V
/-- While a level is made: its box is block V.heap.size. -/
structure LvN (V X : World) (a b : Value) (Q : List (Nat × Nat)) : Prop where
  k : Blk X V.heap.size 69 #[a, b, .bool false]
  o : LvO X (V.heap.size + 1) a b Q
  d : Below V.heap.size V X
theorem lvStart (w : World) (N : Int) (v : Value) : LvS w (((((w.alloc (.cells #[.int .i64 N, v] 24)).alloc (.cells #[.slice none 0 0, .slice none 0 0, .bool false] 69)).alloc (.cells #[.int .u64 0] 50)).alloc (.cells #[.int .i64 1] 3)).alloc (.cells #[.slice (some ⟨w.heap.size + 1 + 1, 0, none⟩) 1 1, .slice (some ⟨w.heap.size + 1 + 1 + 1, 0, none⟩) 1 1, .bool false] 69)) N v (.slice (some ⟨w.heap.size + 1 + 1, 0, none⟩) 1 1) (.slice (some ⟨w.heap.size + 1 + 1 + 1, 0, none⟩) 1 1) [(0, 1)] := by
  obtain ⟨W1, h1⟩ : ∃ W1, w.alloc (.cells #[.int .i64 N, v] 24) = W1 := ⟨_, rfl⟩
  have z1 : W1.heap.size = w.heap.size + 1 := by rw [← h1]; simp
  have b1 : BoxR W1 w.heap.size N v := by rw [← h1]; exact BoxR.new w N v
  have d1 : Below w.heap.size w W1 := by rw [← h1]; exact belowAlloc w _
  rw [h1]
  obtain ⟨W2, h2⟩ : ∃ W2, W1.alloc (.cells #[.slice none 0 0, .slice none 0 0, .bool false] 69) = W2 := ⟨_, rfl⟩
  have z2 : W2.heap.size = w.heap.size + 1 + 1 := by rw [← h2, ← z1]; simp
  have b2 : Blk W2 (w.heap.size + 1) 69 #[.slice none 0 0, .slice none 0 0, .bool false] := by rw [← h2, ← z1]; exact Blk.new W1 _ _
  have d2 : Below W1.heap.size W1 W2 := by rw [← h2]; exact belowAlloc W1 _
  rw [h2]
  obtain ⟨W3, h3⟩ : ∃ W3, W2.alloc (.cells #[.int .u64 0] 50) = W3 := ⟨_, rfl⟩
  have z3 : W3.heap.size = w.heap.size + 1 + 1 + 1 := by rw [← h3, ← z2]; simp
  have b3 : Blk W3 (w.heap.size + 1 + 1) 50 #[.int .u64 0] := by rw [← h3, ← z2]; exact Blk.new W2 _ _
  have d3 : Below W2.heap.size W2 W3 := by rw [← h3]; exact belowAlloc W2 _
  rw [h3]
  obtain ⟨W4, h4⟩ : ∃ W4, W3.alloc (.cells #[.int .i64 1] 3) = W4 := ⟨_, rfl⟩
  have z4 : W4.heap.size = w.heap.size + 1 + 1 + 1 + 1 := by rw [← h4, ← z3]; simp
  have b4 : Blk W4 (w.heap.size + 1 + 1 + 1) 3 #[.int .i64 1] := by rw [← h4, ← z3]; exact Blk.new W3 _ _
  have d4 : Below W3.heap.size W3 W4 := by rw [← h4]; exact belowAlloc W3 _
  rw [h4]
  obtain ⟨cs, hcs⟩ : ∃ cs : Array Value, #[.slice (some ⟨w.heap.size + 1 + 1, 0, none⟩) 1 1, .slice (some ⟨w.heap.size + 1 + 1 + 1, 0, none⟩) 1 1, .bool false] = cs := ⟨_, rfl⟩
  rw [hcs]
  obtain ⟨W5, h5⟩ : ∃ W5, W4.alloc (.cells cs 69) = W5 := ⟨_, rfl⟩
  have b5 : Blk W5 (w.heap.size + 1 + 1 + 1 + 1) 69 cs := by rw [← h5, ← z4]; exact Blk.new W4 _ _
  have d5 : Below W4.heap.size W4 W5 := by rw [← h5]; exact belowAlloc W4 _
  rw [h5]
  rw [← hcs] at b5
  exact ⟨(((b1.below d2).below d3).below d4).below d5, ((b2.below' d3).below' d4).below' d5, b5, ownOfBlk ((b3.below' d4).below' d5) (by omega), ownOfBlk (b4.below' d5) (by omega), belowThen (belowThen (belowThen (belowThen d1 d2) d3) d4) d5⟩
theorem OwnU.sl {w : World} {base : Nat} {v : Value} {l : List Nat} (h : OwnU w base v l) : ∃ A q c, v = .slice A q c := let ⟨A, c, e, _⟩ := h.rd; ⟨A, _, c, e⟩
theorem OwnI.sl {w : World} {base : Nat} {v : Value} {l : List Int} (h : OwnI w base v l) : ∃ A q c, v = .slice A q c := let ⟨A, c, e, _⟩ := h.rd; ⟨A, _, c, e⟩
theorem LvN.to {V X : World} {a b : Value} {Q R : List (Nat × Nat)} (h : LvN V X a b Q) (e : Q = R) : LvN V X a b R := e ▸ h
theorem LvN.chg {V X Y : World} {a b : Value} {Q : List (Nat × Nat)} (h : LvN V X a b Q) (hb : Below X.heap.size X Y) : LvN V Y a b Q := ⟨h.k.below' hb, h.o.chg hb, h.d.trans (hb.mono h.d.size)⟩
theorem ownSetB {X : World} {base : Nat} {e T : TypeId} {v : Value} {n g : Nat} {xs : List Value} {cs : Array Value} (h : X.ownsRow base e 1 v n xs) (hk : Blk X g T cs) (hne : e ≠ T) (i : Nat) (u : Value) : (X.setCell ⟨g, i, none⟩ u).ownsRow base e 1 v n xs :=
  ownChg h (Chg.setCell X ⟨g, i, none⟩ u) fun q hq e1 => ownNeBlk h hk hne (by rw [hq, e1])
/-- The level made becomes the level to go on from. -/
theorem lvTurn {w V X : World} {N : Int} {v a b a' b' : Value} {P Q : List (Nat × Nat)} (h : LvS w V N v a b P) (hN : LvN V X a' b' Q) : LvS w (((X.setCell ⟨w.heap.size + 1 + 1 + 1 + 1, 0, none⟩ a').setCell ⟨w.heap.size + 1 + 1 + 1 + 1, 1, none⟩ b').setCell ⟨w.heap.size + 1 + 1 + 1 + 1, 2, none⟩ (.bool false)) N v a' b' Q := by
  have hg : Blk X w.heap.size 24 #[.int .i64 N, v] := h.g.below hN.d
  have hr := h.r.below' hN.d
  have hk := h.k.below' hN.d
  have hs := ownMono hN.o.s (show w.heap.size ≤ V.heap.size + 1 from Nat.le_succ_of_le h.d.size)
  have hu := ownMono hN.o.u (show w.heap.size ≤ V.heap.size + 1 from Nat.le_succ_of_le h.d.size)
  have hd := belowThen h.d hN.d
  refine ⟨((hg.other (by omega) 0 a').other (by omega) 1 b').other (by omega) 2 (.bool false), ((hr.other (by omega) 0 a').other (by omega) 1 b').other (by omega) 2 (.bool false), ((hk.set 0 a').set 1 b').set 2 (.bool false), ?_, ?_, ((hd.setCell (show w.heap.size ≤ w.heap.size + 1 + 1 + 1 + 1 by omega) _).setCell (show w.heap.size ≤ w.heap.size + 1 + 1 + 1 + 1 by omega) _).setCell (show w.heap.size ≤ w.heap.size + 1 + 1 + 1 + 1 by omega) _⟩
  · exact ownSetB (ownSetB (ownSetB hs hk (by decide) 0 a') (hk.set 0 a') (by decide) 1 b') ((hk.set 0 a').set 1 b') (by decide) 2 _
  · exact ownSetB (ownSetB (ownSetB hu hk (by decide) 0 a') (hk.set 0 a') (by decide) 1 b') ((hk.set 0 a').set 1 b') (by decide) 2 _
/-- A level is begun. -/
theorem lvBegin (V : World) : LvN V (V.alloc (.cells #[.slice none 0 0, .slice none 0 0, .bool false] 69)) (.slice none 0 0) (.slice none 0 0) [] := ⟨Blk.new V _ _, ⟨World.ownsRow_nil _ _ _ _, World.ownsRow_nil _ _ _ _⟩, belowAlloc V _⟩
theorem LvN.stored {V X Y : World} {a b a' b' : Value} {Q R : List (Nat × Nat)} (h : LvN V X a b Q) (ho : LvO Y (V.heap.size + 1) a' b' R) (hb : Below (V.heap.size + 1) X Y) : LvN V (((Y.setCell ⟨V.heap.size, 0, none⟩ a').setCell ⟨V.heap.size, 1, none⟩ b').setCell ⟨V.heap.size, 2, none⟩ (.bool false)) a' b' R := by
  have hk := h.k.below hb (Nat.lt_succ_self _)
  refine ⟨((hk.set 0 a').set 1 b').set 2 (.bool false), ⟨?_, ?_⟩, (((h.d.trans (hb.mono (Nat.le_succ _))).setCell (Nat.le_refl _) _).setCell (Nat.le_refl _) _).setCell (Nat.le_refl _) _⟩
  · exact ownSetB (ownSetB (ownSetB ho.s hk (by decide) 0 a') (hk.set 0 a') (by decide) 1 b') ((hk.set 0 a').set 1 b') (by decide) 2 _
  · exact ownSetB (ownSetB (ownSetB ho.u hk (by decide) 0 a') (hk.set 0 a') (by decide) 1 b') ((hk.set 0 a').set 1 b') (by decide) 2 _
set_option maxRecDepth 100000 in
set_option maxHeartbeats 40000000 in
theorem rLevels (N : Nat) (hN : N ≤ 8) (l : Prs) (hok : okR N l = true) (n : Nat) (hn : l.length = n) (A : Option Addr) (c : Nat) (w : World) (ha : Rp w A c l) :
    Calls Tryd.prog 39 #[relV N A n c] w fun e w' => ∃ a b, e = .returned (.tuple #[.int .i64 (lvKeys N (hasP l) (N + 1)).length, lvV a b, .bool true]) ∧ LvO w' w.heap.size a b (lvl N (hasP l) N) ∧ Below w.heap.size w w' := by
  obtain ⟨f, hf⟩ : ∃ f, hasP l = f := ⟨_, rfl⟩
  rw [hf]
  have HL0 := Lib.hid (lvStart w N (.slice A n c))
  have HA := Lib.hid (fun X (hX : Below w.heap.size w X) => ha.below hX)
  have HC := Lib.hid (fun s k hs hk r (hr : canL N f s k = r) X (hX : Below w.heap.size w X) => rCan N l hok n hn A c s k hs hk r (by rw [hf]; exact hr) X (ha.below hX))
  clear ha hok hn hf
  go_enter Tryd.func39, Tryd.ntmps39
  go_wp2_with fail
  obtain ⟨W, hW⟩ : ∃ W, (((((w.alloc (.cells #[.int .i64 N, .slice A n c] 24)).alloc (.cells #[.slice none 0 0, .slice none 0 0, .bool false] 69)).alloc (.cells #[.int .u64 0] 50)).alloc (.cells #[.int .i64 1] 3)).alloc (.cells #[.slice (some ⟨w.heap.size + 1 + 1, 0, none⟩) 1 1, .slice (some ⟨w.heap.size + 1 + 1 + 1, 0, none⟩) 1 1, .bool false] 69)) = W := ⟨_, rfl⟩
  rw [hW] at HL0
  try rw [hW]
  clear hW
  go_loopw [6, 7] (fun t i wr => ∃ (m : Nat) (a b : Value), m ≤ N ∧ i = .int .i64 m ∧ t = .int .i64 (lvKeys N f (m + 1)).length ∧ Hid (LvS w wr N (.slice A n c) a b (lvl N f m))) (fun _ i _ => N - (intOf i).toNat)
  case atStart => exact ⟨0, _, _, by omega, rfl, by simp [lvKeys, lvl], HL0⟩
  case round =>
    obtain ⟨m, a, b, hm, rfl, rfl, HL⟩ := hrel
    obtain ⟨V, hVV⟩ : ∃ V, V = wr := ⟨wr, rfl⟩
    subst hVV
    obtain ⟨P, hP⟩ : ∃ P, lvl N f m = P := ⟨_, rfl⟩
    rw [hP] at HL
    obtain ⟨A1, c1, rfl, hA1, _⟩ := HL.out.s.rd
    obtain ⟨B1, d1, rfl, hB1, _⟩ := HL.out.u.rd
    obtain ⟨p, hp⟩ : ∃ p, P.length = p := ⟨_, rfl⟩
    rw [List.length_map, hp] at HL
    rw [wysLen, hp] at HL
    obtain ⟨x0, x1, y0, y1⟩ := HL.out.g.facts
    have k0 : V.cell? ⟨w.heap.size + 1 + 1 + 1 + 1, 0, none⟩ = some (.slice A1 p c1) := HL.out.k.cell 0
    have k1 : V.cell? ⟨w.heap.size + 1 + 1 + 1 + 1, 1, none⟩ = some (.slice B1 p d1) := HL.out.k.cell 1
    have k2 : V.cell? ⟨w.heap.size + 1 + 1 + 1 + 1, 2, none⟩ = some (.bool false) := HL.out.k.cell 2
    by_cases hlt : m < N
    · have HV := Lib.hid (fun X (hX : Below V.heap.size V X) => And.intro (HL.out.g.below hX).facts (And.intro (show X.cell? ⟨w.heap.size + 1 + 1 + 1 + 1, 0, none⟩ = some (.slice A1 p c1) from (HL.out.k.below' hX).cell 0) (And.intro (show X.cell? ⟨w.heap.size + 1 + 1 + 1 + 1, 1, none⟩ = some (.slice B1 p d1) from (HL.out.k.below' hX).cell 1) (And.intro (hA1.below hX) (hB1.below hX)))))
      have HD := Lib.hid HL.out.d
      have hmA := hA1.max
      have hmB := hB1.max
      have hlA := hA1.le
      have hlB := hB1.le
      unfold maxLen at hmA hmB
      simp only [List.length_map] at hlA hlB
      rw [hp] at hlA
      rw [wysLen, hp] at hlB
      clear hA1 hB1
      go_wp2_with fail
      clear k0 k1 k2 x0 x1 y0 y1
      go_loopw [9] (fun i X => ∃ (j : Nat) (a b : Value), j ≤ p ∧ i = .int .i64 j ∧ Hid (LvN V X a b (lvI N f P j))) (fun i _ => p - (intOf i).toNat)
      case atStart => exact ⟨0, _, _, by omega, rfl, Lib.hid (lvBegin V)⟩
      case round =>
        obtain ⟨j, a, b, hj, rfl, HI⟩ := hrel
        obtain ⟨Y, hYY⟩ : ∃ Y, Y = wr := ⟨wr, rfl⟩
        subst hYY
        obtain ⟨⟨x0, x1, y0, y1⟩, k0, k1, hA2, hB2⟩ := HV.out _ HI.out.d
        by_cases hjp : j < p
        · have hjP : j < P.length := by omega
          have hjl : j < (lvl N f m).length := by rw [hP]; exact hjP
          obtain ⟨adA, rfl, hcA⟩ := uvAt hA2 hjP
          obtain ⟨adB, rfl, hcB⟩ := wyAt hB2 hjP
          have HUV := Lib.hid (fun X (hX : Below V.heap.size V X) => uvAt (HV.out X hX).2.2.2.1 hjP)
          have HWY := Lib.hid (fun X (hX : Below V.heap.size V X) => wyAt (HV.out X hX).2.2.2.2 hjP)
          have HBN := Lib.hid (fun k (hk : k ≤ N) => lvBound (f := f) hN hlt hjl hk)
          have HLE := Lib.hid (fun k (hk : k ≤ N) => lvKLen (f := f) hN hjl hk)
          have HND := Lib.hid (fun k => lvKNodup (N := N) (f := f) (L := lvI N f P j) (s := P[j].1) (u := P[j].2) (lvINodup j) k)
          have HST := Lib.hid (show lvI N f P (j + 1) = lvK N f (lvI N f P j) P[j].1 P[j].2 N by rw [lvI, List.getElem?_eq_getElem hjP])
          have hs8 := lvlLt (f := f) hN (m := m) (p := P[j]) (by rw [hP]; exact List.getElem_mem hjP)
          simp only [hP] at HBN HLE
          obtain ⟨s, hs⟩ : ∃ s, P[j].1 = s := ⟨_, rfl⟩
          obtain ⟨u, hu⟩ : ∃ u, P[j].2 = u := ⟨_, rfl⟩
          rw [hs] at hcA HUV HBN HLE HND HST hs8
          rw [hu] at hcB HWY HBN HLE HND HST
          have hj0 : (0 : Int) ≤ j := by omega
          have hj1 : (j : Int) < p := by omega
          clear hs hu hA2 hB2
          go_wp2_with fail
          clear x0 x1 y0 y1 k0 k1 hcA hcB
          go_loopw [10] (fun i X => ∃ (k : Nat) (a b : Value), k ≤ N ∧ i = .int .i64 k ∧ Hid (LvN V X a b (lvK N f (lvI N f P j) s u k))) (fun i _ => N - (intOf i).toNat)
          case atStart => exact ⟨0, _, _, by omega, rfl, HI⟩
          case round =>
            obtain ⟨k, a, b, hk, rfl, HK⟩ := hrel
            obtain ⟨⟨x0, x1, y0, y1⟩, k0, k1, _, _⟩ := HV.out _ HK.out.d
            obtain ⟨_, e1, hcA⟩ := HUV.out _ HK.out.d
            cases e1
            obtain ⟨_, e1, hcB⟩ := HWY.out _ HK.out.d
            cases e1
            by_cases hkN : k < N
            · have HCL := Lib.hid (HC.out s k (Nat.lt_trans hs8 (by decide)) (by omega) (canL N f s k) rfl wr.drew ((belowThen HD.out HK.out.d).drew))
              have HLK := Lib.hid (show lvK N f (lvI N f P j) s u (k + 1) = if canL N f s k then addP (lvK N f (lvI N f P j) s u k) (addS s k) u else lvK N f (lvI N f P j) s u k by rw [lvK])
              cases hr : canL N f s k with
              | false =>
                rw [hr] at HCL HLK
                go_wp2_with fail
                go_still_tail 7, (by kernel_rfl)
                change wpList _ _ _ _ _ wr.drew
                go_wp2_with (refine HCL.out.mono ?_; rintro e w1 ⟨rfl, b1⟩; have HK1 := Lib.hid ((HK.out.chg ((Below.refl _ wr).drew)).chg b1))
                all_goals go_roundw
                all_goals first
                  | exact ⟨k + 1, a, b, by omega, by go_num, Lib.hid (by rw [HLK.out]; exact HK1.out)⟩
                  | (simp [intOf]; omega)
              | true =>
                rw [hr, if_pos rfl] at HLK
                rw [hr] at HCL
                have HBD := Lib.hid (HBN.out k hk)
                have HLN := Lib.hid (HLE.out k hk)
                have HDN := Lib.hid (HND.out k)
                go_wp2_with fail
                go_still_tail 7, (by kernel_rfl)
                change wpList _ _ _ _ _ wr.drew
                go_wp2_with (refine HCL.out.mono ?_; rintro e w1 ⟨rfl, b1⟩; have HK1 := Lib.hid ((HK.out.chg ((Below.refl _ wr).drew)).chg b1))
                all_goals (
                  clear x0 x1 y0 y1 k0 k1 hcA hcB
                  obtain ⟨⟨x0, x1, y0, y1⟩, k0, k1, _, _⟩ := HV.out _ HK1.out.d
                  obtain ⟨_, e1, hcA⟩ := HUV.out _ HK1.out.d
                  cases e1
                  obtain ⟨_, e1, hcB⟩ := HWY.out _ HK1.out.d
                  cases e1
                  have l0 : w1.cell? ⟨V.heap.size, 0, none⟩ = some a := HK1.out.k.cell 0
                  have l1 : w1.cell? ⟨V.heap.size, 1, none⟩ = some b := HK1.out.k.cell 1
                  have l2 : w1.cell? ⟨V.heap.size, 2, none⟩ = some (.bool false) := HK1.out.k.cell 2
                  have hbo := bitsOr (s := s) (a := k) (by exact Nat.lt_trans hs8 (by decide)) (by omega)
                  have hkw : IntKind.u64.wrap (k : Int) = k := by rw [IntKind.wrap_u64]; omega
                  have HAD := Lib.hid (rAdd (V.heap.size + 1) (lvK N f (lvI N f P j) s u k) _ rfl (Nat.le_trans HLN.out (by decide)) HDN.out (addS s k) u HBD.out a b w1.drew (HK1.out.o.chg ((Below.refl _ w1).drew)) HK1.out.k.lt)
                  unfold lvV at HAD
                  go_wp2_with fail
                  go_still_tail 15, (by kernel_rfl)
                  change wpList _ _ _ _ _ w1.drew
                  go_wp2_with (refine HAD.out.mono ?_; rintro e w2 ⟨a2, b2, rfl, o2, d2⟩; obtain ⟨Aa, qa, ca, rfl⟩ := o2.s.sl; obtain ⟨Ab, qb, cb, rfl⟩ := o2.u.sl; have HK2 := Lib.hid (HK1.out.chg ((Below.refl _ w1).drew)); have m0 : w2.cell? ⟨V.heap.size, 0, none⟩ = some a := (HK2.out.k.below d2 (Nat.lt_succ_self _)).cell 0; have m1 : w2.cell? ⟨V.heap.size, 1, none⟩ = some b := (HK2.out.k.below d2 (Nat.lt_succ_self _)).cell 1; have m2 : w2.cell? ⟨V.heap.size, 2, none⟩ = some (.bool false) := (HK2.out.k.below d2 (Nat.lt_succ_self _)).cell 2; have n0 := (HK2.out.k.below d2 (Nat.lt_succ_self _)).frozen 0; have n1 := (HK2.out.k.below d2 (Nat.lt_succ_self _)).frozen 1; have n2 := (HK2.out.k.below d2 (Nat.lt_succ_self _)).frozen 2; have HK3 := Lib.hid ((HK2.out.stored o2 d2).to HLK.out.symm); clear o2 d2)
                  all_goals go_roundw
                  all_goals first
                    | exact ⟨k + 1, _, _, by omega, by go_num, HK3⟩
                    | (simp [intOf]; omega))
            · obtain rfl : k = N := by omega
              have HK5 := Lib.hid (HK.out.to HST.out.symm)
              have hq := HLE.out k (Nat.le_refl _)
              obtain ⟨A2, c2, ea, hr2, _⟩ := HK.out.o.s.rd
              have hc2 := hr2.le
              have hm2 := hr2.max
              unfold maxLen at hm2
              rw [List.length_map] at ea
              simp only [List.length_map] at hc2
              obtain ⟨q, hqq⟩ : ∃ q, (lvK k f (lvI k f P j) s u k).length = q := ⟨_, rfl⟩
              rw [hqq] at hq hc2 ea
              subst ea
              have htl := lvKeysLen (f := f) hN (m + 1)
              have l0 : wr.cell? ⟨V.heap.size, 0, none⟩ = some (.slice A2 q c2) := HK.out.k.cell 0
              clear hr2
              go_wp2_with fail
              all_goals first
                | (exfalso; omega)
                | go_roundw
              all_goals first
                | exact ⟨j + 1, _, _, by omega, by go_num, HK5⟩
                | (simp [intOf]; omega)
        · obtain rfl : j = p := by omega
          have HQ := Lib.hid (show lvI N f P j = lvl N f (m + 1) by rw [← hp, ← hP]; rfl)
          rw [HQ.out] at HI
          obtain ⟨A2, c2, ea, hr2, _⟩ := HI.out.o.s.rd
          obtain ⟨B2, d2, eb, _, _⟩ := HI.out.o.u.rd
          obtain ⟨q, hqq⟩ : ∃ q, (lvl N f (m + 1)).length = q := ⟨_, rfl⟩
          have hq := lvlLen (f := f) hN (m + 1)
          have hc2 := hr2.le
          have hm2 := hr2.max
          unfold maxLen at hm2
          simp only [List.length_map] at hc2
          rw [List.length_map, hqq] at ea
          rw [wysLen, hqq] at eb
          rw [hqq] at hq hc2
          subst ea
          subst eb
          have htl := lvKeysLen (f := f) hN (m + 1)
          have HT := Lib.hid (lvTurn HL.out HI.out)
          have l0 : Y.cell? ⟨V.heap.size, 0, none⟩ = some (.slice A2 q c2) := HI.out.k.cell 0
          have l1 : Y.cell? ⟨V.heap.size, 1, none⟩ = some (.slice B2 q d2) := HI.out.k.cell 1
          have l2 : Y.cell? ⟨V.heap.size, 2, none⟩ = some (.bool false) := HI.out.k.cell 2
          have k2 : Y.cell? ⟨w.heap.size + 1 + 1 + 1 + 1, 2, none⟩ = some (.bool false) := (HL.out.k.below' HI.out.d).cell 2
          have f0 := (HL.out.k.below' HI.out.d).frozen 0
          have f1 := (HL.out.k.below' HI.out.d).frozen 1
          have f2 := (HL.out.k.below' HI.out.d).frozen 2
          have HTOT := Lib.hid (show ((lvKeys N f (m + 1 + 1)).length : Int) = (lvKeys N f (m + 1)).length + q by rw [lvKeysS, List.length_append, List.length_map, hqq]; simp)
          clear hr2 hqq
          go_wp2_with fail
          all_goals first
            | (exfalso; omega)
            | go_roundw
          all_goals first
            | exact ⟨m + 1, _, _, by omega, by go_num, by rw [HTOT.out], HT⟩
            | (simp [intOf]; omega)
    · obtain rfl : m = N := by omega
      have r0 : V.cell? ⟨w.heap.size + 1, 0, none⟩ = some (.slice none 0 0) := HL.out.r.cell 0
      have r1 : V.cell? ⟨w.heap.size + 1, 1, none⟩ = some (.slice none 0 0) := HL.out.r.cell 1
      have r2 : V.cell? ⟨w.heap.size + 1, 2, none⟩ = some (.bool false) := HL.out.r.cell 2
      have g0 := HL.out.r.frozen 0
      have g1 := HL.out.r.frozen 1
      have g2 := HL.out.r.frozen 2
      go_wp2_with fail
      go_region_with (fail)
      all_goals go_wp2
      have HF := HL.out
      have hr3 := ((HF.r.set 0 (.slice A1 p c1)).set 1 (.slice B1 p d1)).set 2 (.bool false)
      refine bodyPost_ret (Blk.res3 hr3.drew rfl _ rfl Tryd.underlying69 rfl infoLevel) rfl ?_
      refine ⟨_, _, rfl, ?_, ?_⟩
      · rw [hP]
        exact ⟨ownSetB (ownSetB (ownSetB HF.s HF.r (by decide) 0 _) (HF.r.set 0 _) (by decide) 1 _) ((HF.r.set 0 _).set 1 _) (by decide) 2 _, ownSetB (ownSetB (ownSetB HF.u HF.r (by decide) 0 _) (HF.r.set 0 _) (by decide) 1 _) ((HF.r.set 0 _).set 1 _) (by decide) 2 _⟩
      · exact (((HF.d.setCell (Nat.le_succ _) _).setCell (Nat.le_succ _) _).setCell (Nat.le_succ _) _).drew
end Go.Proofs.YtjioiaeiggjneaaDoor

namespace Go.Proofs.YtjioiaeiggjneaaDoor
open Go Go.RowKit

theorem errZ {N : Int} {l : Prs} (hc : acyR N l = true) : errA N l = 0 := by
  have h := acyOk hc
  unfold errA
  rw [h, hc]
  rfl
theorem keysAll {N : Nat} {f : Nat → Nat → Bool} {D : List Nat} (h : VisT N f D) (h0 : 0 ∈ D) : D.length = (lvKeys N f (N + 1)).length := h.len h0 (lvKeysNodup _) fun _ => lvKeysIff
theorem visLe {N : Nat} {f : Nat → Nat → Bool} (hN : N ≤ 8) (D : List Nat) (h : VisT N f D) : D.length ≤ 65536 :=
  Nat.le_trans h.le2 (Nat.le_trans (Nat.pow_le_pow_right (by omega) hN) (by decide))
theorem waysLe8 {N : Nat} {f : Nat → Nat → Bool} (hN : N ≤ 8) (hac : acyT N (tcT N f)) : ways N f N 0 ≤ 16777216 := by
  have h1 := lvlSum (N := N) (f := f) N
  rw [lvlLast hac] at h1
  have h2 : wsm (fun _ => 1) [(fullS N, ways N f N 0)] = ways N f N 0 := by simp [wsm]
  rw [h2] at h1
  exact Nat.le_trans h1 (Nat.le_trans (Nat.pow_le_pow_left hN N) (Nat.le_trans (Nat.pow_le_pow_right (by omega) hN) (by decide)))
set_option maxRecDepth 100000 in
theorem rCountNo (N : Int) (l : Prs) (n : Nat) (hn : l.length = n) (hc : acyR N l = false) (A : Option Addr) (c : Nat) (w : World) (ha : Rp w A c l) :
    Calls Tryd.prog 23 #[relV N A n c] w fun e w' => e = .returned (.tuple #[.int .i64 0, .int .i64 (errA N l)]) ∧ Below w.heap.size w w' := by
  obtain ⟨W, hW⟩ : ∃ W, w.alloc (.cells #[.int .i64 N, .slice A n c] 24) = W := ⟨_, rfl⟩
  have hbW : Below w.heap.size w W := by rw [← hW]; exact belowAlloc w _
  have HB : Hid (BoxR W w.heap.size N (.slice A n c)) := by rw [← hW]; exact Lib.hid (BoxR.new w N _)
  obtain ⟨k0, k1, _, _⟩ := HB.out.facts
  have HV := Lib.hid (rWrong N l n hn A c W (ha.below hbW))
  have hz := (errNz hc).2
  have HBW := Lib.hid hbW
  have HW := Lib.hid hW
  generalize errA N l = r at HV hz ⊢
  clear hbW hW ha hc
  go_enter Tryd.func23, Tryd.ntmps23
  go_wp2_with fail
  rw [HW.out]
  refine HV.out.mono ?_
  rintro e w1 ⟨rfl, b1⟩
  go_wp2
  go_ret2
  exact ⟨rfl, belowThen HBW.out b1⟩
set_option maxRecDepth 100000 in
set_option maxHeartbeats 1000000 in
theorem rCountOk (N : Nat) (hN : N ≤ 8) (l : Prs) (n : Nat) (hn : l.length = n) (hc : acyR N l = true) (A : Option Addr) (c : Nat) (w : World) (ha : Rp w A c l) :
    Calls Tryd.prog 23 #[relV N A n c] w fun e w' => e = .returned (.tuple #[.int .i64 (ways N (hasP l) N 0 : Int), .int .i64 0]) ∧ Below w.heap.size w w' := by
  obtain ⟨W, hW⟩ : ∃ W, w.alloc (.cells #[.int .i64 N, .slice A n c] 24) = W := ⟨_, rfl⟩
  have hbW : Below w.heap.size w W := by rw [← hW]; exact belowAlloc w _
  have HB : Hid (BoxR W w.heap.size N (.slice A n c)) := by rw [← hW]; exact Lib.hid (BoxR.new w N _)
  obtain ⟨k0, k1, _, _⟩ := HB.out.facts
  have HV := Lib.hid (rWrong N l n hn A c W (ha.below hbW))
  have hz := errZ hc
  rw [hz] at HV
  have HLV := Lib.hid (fun X (hX : Below W.heap.size W X) => rLevels N hN l (acyOk hc) n hn A c X ((ha.below hbW).below hX))
  have HK := Lib.hid (fun X (hX : Below W.heap.size W X) => (HB.out.below hX).facts)
  have HBW := Lib.hid hbW
  have HW := Lib.hid hW
  rw [lvlLast (acyQ hc)] at HLV
  obtain ⟨r, hr⟩ : ∃ r, ways N (hasP l) N 0 = r := ⟨_, rfl⟩
  rw [hr] at HLV ⊢
  unfold lvV at HLV
  clear hbW hW ha hc hz hr
  go_enter Tryd.func23, Tryd.ntmps23
  go_wp2_with fail
  rw [HW.out]
  refine HV.out.mono ?_
  rintro e w1 ⟨rfl, b1⟩
  clear k0 k1
  obtain ⟨k0, k1, _, _⟩ := HK.out w1 b1
  go_wp2_with fail
  refine (HLV.out w1 b1).mono ?_
  rintro e w2 ⟨a, b, rfl, o2, b2⟩
  obtain ⟨A2, c2, rfl, hr2, _⟩ := o2.s.rd
  obtain ⟨B2, d2, rfl, hr3, _⟩ := o2.u.rd
  obtain ⟨q, rfl⟩ := ownHead o2.u Nat.one_pos
  have hq := (World.ownsRow.lt o2.u q rfl).2
  obtain ⟨ad, e0, hcc⟩ := wyAt (k := 0) hr3 Nat.one_pos
  cases e0
  have hcc : w2.cell? ⟨q, 0, none⟩ = some (.int .i64 (r : Int)) := hcc
  have q1 := hr3.le
  have q2 := hr3.max
  unfold maxLen at q2
  have q3 : (wysI [(fullS N, r)]).length = 1 := rfl
  have q4 : ([(fullS N, r)].map fun p : Nat × Nat => p.1).length = 1 := rfl
  rw [q3] at q1 ⊢
  rw [q4]
  have HX := Lib.hid (belowThen HBW.out (belowThen b1 b2))
  clear o2 hr2 hr3 b1 b2
  go_wp2
  go_ret2
  exact ⟨rfl, HX.out.alloc HX.out.size _⟩
end Go.Proofs.YtjioiaeiggjneaaDoor

namespace Go.Proofs.YtjioiaeiggjneaaDoor
open Go

/-- The pairs that put a, number i of the prefix x, ahead of the numbers below n. -/
def afR (x : List Int) (a : Int) (i : Nat) : Nat → Prs
  | 0 => []
  | n + 1 => afR x a i n ++ if posI x n < 0 ∨ (i : Int) < posI x n then [(a, (n : Int))] else []
/-- All pairs, those of the first i numbers of the prefix added. -/
def afA (l : Prs) (x : List Int) (N : Nat) : Nat → Prs
  | 0 => l
  | i + 1 => afA l x N i ++ afR x (x[i]?.getD 0) i N
theorem afRLen {x : List Int} {a : Int} {i : Nat} : ∀ n, (afR x a i n).length ≤ n
  | 0 => Nat.le_refl _
  | n + 1 => by
    have := afRLen (x := x) (a := a) (i := i) n
    rw [afR, List.length_append]
    split <;> simp <;> omega
theorem afALen {l : Prs} {x : List Int} {N : Nat} : ∀ i, (afA l x N i).length ≤ l.length + i * N
  | 0 => by simp [afA]
  | i + 1 => by
    have := afALen (l := l) (x := x) (N := N) i
    have := afRLen (x := x) (a := x[i]?.getD 0) (i := i) N
    rw [afA, List.length_append, Nat.add_mul]
    omega
theorem afRMem {x : List Int} {a : Int} {i : Nat} {p : Int × Int} : ∀ n, p ∈ afR x a i n ↔ p.1 = a ∧ ∃ m, m < n ∧ p.2 = (m : Int) ∧ (posI x m < 0 ∨ (i : Int) < posI x m)
  | 0 => by
    rw [afR]
    exact ⟨fun h => (by cases h), fun ⟨_, m, h, _⟩ => absurd h (Nat.not_lt_zero _)⟩
  | n + 1 => by
    have ih := afRMem (x := x) (a := a) (i := i) (p := p) n
    rw [afR, List.mem_append, ih]
    constructor
    · rintro (⟨h1, m, h2, h3⟩ | h)
      · exact ⟨h1, m, by omega, h3⟩
      · split at h
        · rename_i hc
          rw [List.mem_singleton] at h
          subst h
          exact ⟨rfl, n, by omega, rfl, hc⟩
        · cases h
    · rintro ⟨h1, m, h2, h3, h4⟩
      by_cases e : m = n
      · subst e
        right
        rw [if_pos h4, List.mem_singleton]
        exact Prod.ext h1 h3
      · exact .inl ⟨h1, m, by omega, h3, h4⟩
theorem afAMem {l : Prs} {x : List Int} {N : Nat} {p : Int × Int} : ∀ k, p ∈ afA l x N k ↔ p ∈ l ∨ ∃ i, i < k ∧ p.1 = x[i]?.getD 0 ∧ ∃ m, m < N ∧ p.2 = (m : Int) ∧ (posI x m < 0 ∨ (i : Int) < posI x m)
  | 0 => by
    rw [afA]
    exact ⟨.inl, fun h => h.elim id fun ⟨_, h, _⟩ => absurd h (Nat.not_lt_zero _)⟩
  | k + 1 => by
    rw [afA, List.mem_append, afAMem k, afRMem]
    constructor
    · rintro ((h | ⟨i, h1, h2⟩) | h)
      · exact .inl h
      · exact .inr ⟨i, by omega, h2⟩
      · exact .inr ⟨k, by omega, h⟩
    · rintro (h | ⟨i, h1, h2⟩)
      · exact .inl (.inl h)
      · by_cases e : i = k
        · subst e; exact .inr h2
        · exact .inl (.inr ⟨i, by omega, h2⟩)
theorem nIAt {pre : List Nat} {i : Nat} : (nI pre)[i]? = pre[i]?.map Int.ofNat := by unfold nI; exact List.getElem?_map ..
theorem posAfter {pre : List Nat} {b i : Nat} : (posI (nI pre) b < 0 ∨ (i : Int) < posI (nI pre) b) ↔ ∀ j : Nat, j ≤ i → pre[j]? ≠ some b := by
  rcases posSpec (nI pre) (b : Int) with ⟨h1, h2⟩ | ⟨k, hk, h1, h2, h3⟩
  · rw [h2]
    refine ⟨fun _ j _ e => h1 ?_, fun _ => .inl (by omega)⟩
    have : (nI pre)[j]? = some (b : Int) := by rw [nIAt, e]; rfl
    exact List.mem_of_getElem? this
  · rw [h1]
    constructor
    · rintro (h | h) j hj e
      · omega
      · have hx : (nI pre)[j]? = some (b : Int) := by rw [nIAt, e]; rfl
        obtain ⟨hj2, hx2⟩ := List.getElem?_eq_some_iff.1 hx
        exact h3 j hj2 (by omega) hx2
    · intro h
      right
      refine Decidable.byContradiction fun hn => h k (by omega) ?_
      have hx : (nI pre)[k]? = some (b : Int) := by rw [List.getElem?_eq_getElem hk, h2]
      rw [nIAt] at hx
      cases e : pre[k]? with
      | none => rw [e] at hx; cases hx
      | some y =>
        rw [e] at hx
        have : (y : Int) = b := by simpa using hx
        have : y = b := by omega
        rw [this]
/-- Which pairs there are. -/
theorem afHas {l : Prs} {pre : List Nat} {N a b : Nat} : hasP (afA l (nI pre) N pre.length) a b = true ↔ hasP l a b = true ∨ ∃ i : Nat, pre[i]? = some a ∧ b < N ∧ ∀ j : Nat, j ≤ i → pre[j]? ≠ some b := by
  unfold hasP
  rw [decide_eq_true_iff, decide_eq_true_iff, afAMem]
  refine or_congr_right ⟨?_, ?_⟩
  · rintro ⟨i, hi, h1, m, h2, h3, h4⟩
    have hm : m = b := by have : (b : Int) = m := h3; omega
    subst hm
    refine ⟨i, ?_, h2, posAfter.1 h4⟩
    rw [nIAt, List.getElem?_eq_getElem hi] at h1
    have : a = pre[i] := by have : (a : Int) = (pre[i] : Int) := h1; omega
    rw [List.getElem?_eq_getElem hi, this]
  · rintro ⟨i, hi, hb, h⟩
    refine ⟨i, (List.getElem?_eq_some_iff.1 hi).1, ?_, b, hb, rfl, posAfter.2 h⟩
    rw [nIAt, hi]
    rfl
theorem takeAt {pre : List Nat} {x i : Nat} : x ∈ pre.take i ↔ ∃ j : Nat, j < i ∧ pre[j]? = some x := by
  rw [List.mem_iff_getElem?]
  constructor
  · rintro ⟨j, h⟩
    rw [List.getElem?_take] at h
    split at h
    · rename_i hj; exact ⟨j, hj, h⟩
    · cases h
  · rintro ⟨j, hj, h⟩
    exact ⟨j, by rw [List.getElem?_take, if_pos hj, h]⟩
theorem okLAt {N : Nat} {f : Nat → Nat → Bool} : ∀ {pre : List Nat} {s : Nat}, okL N f s pre = true → ∀ (i a : Nat), pre[i]? = some a → a < N ∧ canL N f ((pre.take i).foldl addS s) a = true
  | [], _, _, i, a, h => by simp at h
  | x :: t, s, h, i, a, hi => by
    rw [okL, Bool.and_eq_true, Bool.and_eq_true, decide_eq_true_iff] at h
    cases i with
    | zero =>
      have : x = a := by simpa using hi
      subst this
      exact h.1
    | succ i => exact okLAt h.2 i a (by simpa using hi)
/-- A prefix of an extension. -/
structure PfL (N : Nat) (f : Nat → Nat → Bool) (pre : List Nat) : Prop where
  lt : ∀ (i a : Nat), pre[i]? = some a → a < N
  no : ∀ (i j a : Nat), pre[i]? = some a → pre[j]? = some a → i = j
  pr : ∀ (i a p : Nat), pre[i]? = some a → p < N → f p a = true → ∃ j : Nat, j < i ∧ pre[j]? = some p
theorem pfOf {N : Nat} {f : Nat → Nat → Bool} {pre : List Nat} (h : okL N f 0 pre = true) : PfL N f pre := by
  have key := okLAt h
  have hno : ∀ (i j a : Nat), pre[i]? = some a → pre[j]? = some a → ¬ i < j := fun i j a hi hj hij => by
    have := (canIff.1 (key j a hj).2).1
    rw [foldBit, Nat.zero_testBit, Bool.false_or, decide_eq_false_iff_not] at this
    exact this (takeAt.2 ⟨i, hij, hi⟩)
  refine ⟨fun i a hi => (key i a hi).1, fun i j a hi hj => ?_, fun i a p hi hp hf => ?_⟩
  · have := hno i j a hi hj
    have := hno j i a hj hi
    omega
  · have := (canIff.1 (key i a hi).2).2 p hp hf
    rw [foldBit, Nat.zero_testBit, Bool.false_or, decide_eq_true_iff] at this
    exact takeAt.1 this
theorem oneF {c : Nat} : ∀ N, (List.range N).filter (fun a => decide (a = c)) = if c < N then [c] else []
  | 0 => rfl
  | N + 1 => by
    rw [List.range_succ, List.filter_append, oneF N, List.filter_cons, List.filter_nil]
    by_cases e : N = c
    · subst e
      simp
    · rw [decide_eq_false e, if_neg (show ¬ (false = true) by simp), List.append_nil]
      by_cases h : c < N
      · rw [if_pos h, if_pos (by omega)]
      · rw [if_neg h, if_neg (by omega)]
section
variable {N : Nat} {l : Prs} {pre : List Nat}
/-- Within the prefix its next number alone can follow. -/
theorem afNext (h : PfL N (hasP l) pre) {i a : Nat} (hi : pre[i]? = some a) : nxtL N (hasP (afA l (nI pre) N pre.length)) (maskL (pre.take i)) = [a] := by
  have e : nxtL N (hasP (afA l (nI pre) N pre.length)) (maskL (pre.take i)) = (List.range N).filter (fun b => decide (b = a)) := by
    unfold nxtL
    refine List.filter_congr fun b hb => ?_
    have hbN := List.mem_range.1 hb
    rw [Bool.eq_iff_iff, canIff, maskBit, decide_eq_false_iff_not, decide_eq_true_iff]
    constructor
    · rintro ⟨h1, h2⟩
      refine Decidable.byContradiction fun hne => ?_
      have h3 := h2 a (h.lt i a hi) (afHas.2 (.inr ⟨i, hi, hbN, fun j hj ej => ?_⟩))
      · rw [maskBit, decide_eq_true_iff] at h3
        obtain ⟨j, hj, ej⟩ := takeAt.1 h3
        have := h.no i j a hi ej
        omega
      · by_cases e : j = i
        · subst e
          rw [hi] at ej
          exact hne (Option.some.inj ej).symm
        · exact h1 (takeAt.2 ⟨j, by omega, ej⟩)
    · rintro rfl
      refine ⟨fun hm => ?_, fun p hp hf => ?_⟩
      · obtain ⟨j, hj, ej⟩ := takeAt.1 hm
        have := h.no i j b hi ej
        omega
      · rw [maskBit, decide_eq_true_iff]
        refine takeAt.2 ?_
        rcases afHas.1 hf with hf | ⟨k, hk, _, hno⟩
        · exact h.pr i b p hi hp hf
        · refine ⟨k, ?_, hk⟩
          refine Decidable.byContradiction fun hn => hno i (by omega) hi
  rw [e, oneF, if_pos (h.lt i a hi)]
theorem pfLen (h : PfL N (hasP l) pre) : pre.length ≤ N := by
  have hn : pre.Nodup := by
    unfold List.Nodup
    rw [List.pairwise_iff_getElem]
    intro i j hi hj hij e
    have := h.no i j pre[i] (List.getElem?_eq_getElem hi) (by rw [List.getElem?_eq_getElem hj, e])
    omega
  refine nodupLe hn fun x hx => ?_
  obtain ⟨i, hi, rfl⟩ := List.getElem_of_mem hx
  exact h.lt i _ (List.getElem?_eq_getElem hi)
theorem afWays (h : PfL N (hasP l) pre) : ∀ d i, i + d = pre.length → ways N (hasP (afA l (nI pre) N pre.length)) (N - i) (maskL (pre.take i)) = ways N (hasP (afA l (nI pre) N pre.length)) (N - pre.length) (maskL pre)
  | 0, i, e => by
    obtain rfl : i = pre.length := by omega
    rw [List.take_length]
  | d + 1, i, e => by
    have hlen := pfLen h
    have hi : i < pre.length := by omega
    have hg := List.getElem?_eq_getElem hi
    rw [← afWays h d (i + 1) (by omega), show N - i = N - (i + 1) + 1 by omega, waysSucc, afNext h hg, List.take_succ_eq_append_getElem hi, maskApp]
    simp
/-- Behind the prefix the pairs that were added say nothing. -/
theorem afCan {s a : Nat} (hs : ∀ x ∈ pre, s.testBit x = true) (_ha : a < N) : canL N (hasP (afA l (nI pre) N pre.length)) s a = canL N (hasP l) s a := by
  rw [Bool.eq_iff_iff, canIff, canIff]
  refine and_congr_right fun h0 => ⟨fun h p hp hf => h p hp (afHas.2 (.inl hf)), fun h p hp hf => ?_⟩
  rcases afHas.1 hf with hf | ⟨i, hi, _⟩
  · exact h p hp hf
  · exact hs p (List.mem_of_getElem? hi)
theorem afTop : ∀ (k : Nat) {s : Nat}, (∀ x ∈ pre, s.testBit x = true) → ways N (hasP (afA l (nI pre) N pre.length)) k s = ways N (hasP l) k s
  | 0, _, _ => rfl
  | k + 1, s, hs => by
    have e : nxtL N (hasP (afA l (nI pre) N pre.length)) s = nxtL N (hasP l) s := List.filter_congr fun a ha => afCan hs (List.mem_range.1 ha)
    rw [waysSucc, waysSucc, e]
    congr 1
    refine List.map_congr_left fun a _ => afTop k fun x hx => ?_
    rw [addSBit, hs x hx]
    rfl
theorem afCyc (h : PfL N (hasP l) pre) (hac : acyT N (tcT N (hasP l))) : acyT N (tcT N (hasP (afA l (nI pre) N pre.length))) := by
  intro c hc
  refine Decidable.byContradiction fun hne => ?_
  have hne : tcT N (hasP (afA l (nI pre) N pre.length)) c c = true := by simpa using hne
  have key := tcLeast (n := N) (f := hasP (afA l (nI pre) N pre.length)) (g := fun a b => @decide ((∃ i j : Nat, i < j ∧ pre[i]? = some a ∧ pre[j]? = some b) ∨ (a ∈ pre ∧ b ∉ pre) ∨ (a ∉ pre ∧ b ∉ pre ∧ tcT N (hasP l) a b = true)) (Classical.propDecidable _)) (fun a b ha hb hf => ?_) (fun a b d ha hb hd h1 h2 => ?_) hc hc hne
  · have key := @of_decide_eq_true _ (Classical.propDecidable _) key
    rcases key with ⟨i, j, hij, hi, hj⟩ | ⟨h1, h2⟩ | ⟨_, _, h1⟩
    · have := h.no i j c hi hj; omega
    · exact h2 h1
    · rw [hac c hc] at h1; cases h1
  · refine @decide_eq_true _ (Classical.propDecidable _) ?_
    rcases afHas.1 hf with hf | ⟨i, hi, _, hno⟩
    · by_cases hbp : b ∈ pre
      · obtain ⟨j, hj⟩ := List.mem_iff_getElem?.1 hbp
        obtain ⟨i, hi, e⟩ := h.pr j b a hj ha hf
        exact .inl ⟨i, j, hi, e, hj⟩
      · by_cases hap : a ∈ pre
        · exact .inr (.inl ⟨hap, hbp⟩)
        · exact .inr (.inr ⟨hap, hbp, tcOne hf⟩)
    · by_cases hbp : b ∈ pre
      · obtain ⟨j, hj⟩ := List.mem_iff_getElem?.1 hbp
        exact .inl ⟨i, j, Nat.lt_of_not_le fun hji => hno j hji hj, hi, hj⟩
      · exact .inr (.inl ⟨List.mem_of_getElem? hi, hbp⟩)
  · have h1 := @of_decide_eq_true _ (Classical.propDecidable _) h1
    have h2 := @of_decide_eq_true _ (Classical.propDecidable _) h2
    refine @decide_eq_true _ (Classical.propDecidable _) ?_
    rcases h1 with ⟨i, j, hij, hi, hj⟩ | ⟨k1, k2⟩ | ⟨k1, k2, k3⟩
    · rcases h2 with ⟨i', j', hij', hi', hj'⟩ | ⟨_, m2⟩ | ⟨m1, _, _⟩
      · have := h.no j i' b hj hi'
        exact .inl ⟨i, j', by omega, hi, hj'⟩
      · exact .inr (.inl ⟨List.mem_of_getElem? hi, m2⟩)
      · exact absurd (List.mem_of_getElem? hj) m1
    · rcases h2 with ⟨i', _, _, hi', _⟩ | ⟨m1, _⟩ | ⟨_, m2, _⟩
      · exact absurd (List.mem_of_getElem? hi') k2
      · exact absurd m1 k2
      · exact .inr (.inl ⟨k1, m2⟩)
    · rcases h2 with ⟨i', _, _, hi', _⟩ | ⟨m1, _⟩ | ⟨_, m2, m3⟩
      · exact absurd (List.mem_of_getElem? hi') k2
      · exact absurd m1 k2
      · exact .inr (.inr ⟨k1, m2, tcTrans hb k3 m3⟩)
end
/-- The relation that forces a prefix is acyclic, and its extensions are those that begin with the prefix. -/
theorem afCount {N : Nat} {l : Prs} {pre : List Nat} (hc : acyR N l = true) (ho : okL N (hasP l) 0 pre = true) :
    acyR N (afA l (nI pre) N pre.length) = true ∧ ways N (hasP (afA l (nI pre) N pre.length)) N 0 = ways N (hasP l) (N - pre.length) (maskL pre) := by
  have h := pfOf ho
  unfold acyR at hc ⊢
  rw [Bool.and_eq_true] at hc
  obtain ⟨h1, h2⟩ := hc
  refine ⟨?_, ?_⟩
  · rw [Bool.and_eq_true]
    refine ⟨?_, acyIff.2 (afCyc h (acyIff.1 h2))⟩
    unfold okR at h1 ⊢
    have h1 := of_decide_eq_true h1
    refine decide_eq_true ⟨h1.1, h1.2.1, fun p hp => ?_⟩
    rcases (afAMem _).1 hp with hp | ⟨i, hi, e, m, hm, e2, _⟩
    · exact h1.2.2 p hp
    · rw [nIAt, List.getElem?_eq_getElem hi] at e
      have := h.lt i _ (List.getElem?_eq_getElem hi)
      have e : p.1 = (pre[i] : Int) := e
      omega
  · have := afWays h pre.length 0 (by omega)
    rw [List.take_zero] at this
    have e : maskL [] = 0 := rfl
    rw [e, Nat.sub_zero] at this
    rw [this]
    exact afTop _ fun x hx => by rw [maskBit, decide_eq_true hx]
end Go.Proofs.YtjioiaeiggjneaaDoor

namespace Go.Proofs.YtjioiaeiggjneaaDoor
open Go Go.RowKit

/-! ### Rows of pairs -/
theorem ownPNew (w : World) (base : Nat) (h : base ≤ w.heap.size) : OwnP (w.alloc (.cells #[] 35)) base (.slice (some ⟨w.heap.size, 0, none⟩) 0 0) [] :=
  ⟨rfl, .inr ⟨w.heap.size, 0, #[], rfl, h, heap_alloc_new w _, Nat.le_refl _, Nat.zero_le _, rfl, rfl⟩⟩
theorem runAppB (w : World) (base : Nat) (ty : TypeId) (v : Value) (l : Prs) (hown : OwnP w base v l) (A : Option Addr) (m c : Nat) (news : Prs) (hm : news.length = m) (hr : Rp w A c news) (hb : (l.length + m) * 16 ≤ 140737488355328) (hbase : base ≤ w.heap.size) :
    ∃ v' w', (Builtin.append_ #[22, 22] ty #[v, .slice A m c]).run Tryd.prog w = .ok v' w' ∧ OwnP w' base v' (l ++ news) ∧ w.grownBy w' v.ownBlock := by
  obtain ⟨i0, hi, hz0, hz1, hz2⟩ := info_parts infoPair
  have ht := Tryd.underlying22
  rcases A with _ | a
  · have hn : news = [] := by
      rcases Nat.eq_zero_or_pos news.length with h0 | h0
      · exact List.eq_nil_of_length_eq_zero h0
      · obtain ⟨b, off, h, _⟩ := hr.at_ h0
        cases h
    subst hn
    subst hm
    refine ⟨v, w, ?_, by simpa using hown, World.grownBy.refl w _⟩
    rcases hown.2 with ⟨rfl, h0⟩ | ⟨g, cap, cur, rfl, _, _, hnc, _⟩
    · simp [Builtin.append_, run_underlying ht, sizeOf, typeInfo, hi, Builtin.lenOf, Builtin.firstCells]
    · simp [Builtin.append_, run_underlying ht, sizeOf, typeInfo, hi, Builtin.lenOf, Builtin.firstCells, hnc, storeCells]
  · have hcells : ∀ j u, (ct news)[j]? = some u → w.cell? (a.add j) = some u := by
      rcases Nat.eq_zero_or_pos news.length with h0 | h0
      · obtain rfl := List.eq_nil_of_length_eq_zero h0
        intro j u hu
        simp [ct] at hu
      · obtain ⟨b, off, h, _⟩ := hr.at_ h0
        injection h with h
        subst h
        exact ctCells hr rfl
    obtain ⟨v', w', hrun, o1, g1, _, _⟩ := run_append_own_at (P := Tryd.prog) w base 22 ty 35 i0 _ 2 16 ht hi hz0 hz1 hz2 rfl (by decide) v l.length (ct l) hown a m c (ct news) (by rw [ctLen, hm]) hcells (ctOne _) (by unfold maxLen; omega) hb hbase
    refine ⟨v', w', hrun, ?_, g1⟩
    unfold OwnP
    rw [List.length_append, ctApp, hm]
    exact o1
theorem BoxR.grown {X X2 : World} {g base : Nat} {N : Int} {v u : Value} {l : Prs} (h : BoxR X g N v) (ho : OwnP X base u l) (hg : X.grownBy X2 u.ownBlock) : BoxR X2 g N v := by
  have h' : X.heap[g]? = some (.cells #[.int .i64 N, v] 24 (0, 0)) := h
  refine (hg.block g (Array.getElem?_eq_some_iff.1 h').1 fun hh => ?_).trans h'
  rcases ho.2 with ⟨h2, _⟩ | ⟨b, cap, cur', h2, _, hb, _⟩
  · rw [h2] at hh; simp [Value.ownBlock] at hh
  · rw [h2] at hh
    simp [Value.ownBlock] at hh
    subst hh
    rw [hb] at h'
    injection h' with hq
    injection hq with _ ht
    exact absurd ht (by decide)
theorem OwnP.boxed {X : World} {g base : Nat} {N N' : Int} {v u u' : Value} {l : Prs} (h : OwnP X base u l) (hB : BoxR X g N' v) : OwnP ((X.setCell ⟨g, 0, none⟩ (.int .i64 N)).setCell ⟨g, 1, none⟩ u') base u l := by
  have h' : X.heap[g]? = some (.cells #[.int .i64 N', v] 24 (0, 0)) := hB
  refine h.chg (F := fun k => k ≠ g) ⟨rfl, rfl, rfl, by rw [World.size_setCell, World.size_setCell]; exact Nat.le_refl _, fun k _ hk => (heap_setCell_other _ ⟨g, 1, none⟩ k _ hk).trans (heap_setCell_other _ ⟨g, 0, none⟩ k _ hk)⟩ fun b hb e => ?_
  subst e
  rcases h.2 with ⟨h2, _⟩ | ⟨b', cap, cur', h2, _, hbb, _⟩
  · rw [h2] at hb; simp [Value.ownBlock] at hb
  · rw [h2] at hb
    simp [Value.ownBlock] at hb
    subst hb
    rw [hbb] at h'
    injection h' with hq
    injection hq with _ ht
    exact absurd ht (by decide)
theorem OwnP.rdAt {X : World} {base n c : Nat} {A : Option Addr} {l : Prs} (h : OwnP X base (.slice A n c) l) : Rp X A c l := by
  obtain ⟨A3, c3, e3, hr, _⟩ := h.rd
  injection e3 with e1 _ e2
  subst e1; subst e2
  exact hr
theorem OwnP.boxed1 {X : World} {g base : Nat} {N' : Int} {v u u' : Value} {l : Prs} (h : OwnP X base u l) (hB : BoxR X g N' v) : OwnP (X.setCell ⟨g, 1, none⟩ u') base u l := by
  have h' : X.heap[g]? = some (.cells #[.int .i64 N', v] 24 (0, 0)) := hB
  refine h.chg (F := fun k => k ≠ g) ⟨rfl, rfl, rfl, by rw [World.size_setCell]; exact Nat.le_refl _, fun k _ hk => heap_setCell_other _ ⟨g, 1, none⟩ k _ hk⟩ fun b hb e => ?_
  subst e
  rcases h.2 with ⟨h2, _⟩ | ⟨b', cap, cur', h2, _, hbb, _⟩
  · rw [h2] at hb; simp [Value.ownBlock] at hb
  · rw [h2] at hb
    simp [Value.ownBlock] at hb
    subst hb
    rw [hbb] at h'
    injection h' with hq
    injection hq with _ ht
    exact absurd ht (by decide)
theorem stepPG (w : World) {ops : Array Oper} {o : Oper} {a : Act} {K : Act → World → Prop} {Q : Exit → Act → World → Prop} {E : Prop} (hgd : o.guard = none) (s x : Operand)
    (ho : o.op = .call { callee := .builtin .append, args := #[s, x], argTypes := #[22, 22] })
    (base : Nat) (v : Value) (l : Prs) (hs : a.eval s = v) (hown : OwnP w base v l) (A : Option Addr) (m c : Nat) (news : Prs)
    (hx : a.eval x = .slice A m c) (hm : news.length = m) (hr : Rp w A c news) (hb : (l.length + m) * 16 ≤ 140737488355328) (hbase : base ≤ w.heap.size)
    (h : ∀ A k c w', Hid (OwnP w' base (.slice A k c) (l ++ news)) → Hid ((l ++ news).length = k) → w.grownBy w' v.ownBlock → K (a.put o.dst (.slice A k c)) w') :
    if Region.wanted o (yielded ops a.tmps) = true then Oper.wp Tryd.prog o a w K Q else E := by
  have hw : Region.wanted o (yielded ops a.tmps) = true := by simp [Region.wanted, hgd]
  rw [if_pos hw]
  obtain ⟨v', w', hrun, h2, h3⟩ := runAppB w base o.type v l hown A m c news hm hr hb hbase
  unfold Oper.wp execOp
  simp only [ho, resolve, invoke, builtin, Sem.run_bind, Sem.run_pure, Result.andThen_ok, List.map_toArray, List.map_cons, List.map_nil, hs, hx, hrun]
  obtain ⟨A', c', rfl, _, _⟩ := h2.rd
  exact h A' _ c' w' (Lib.hid h2) (Lib.hid rfl) h3
/-- What lies in memory while after works: the new relation, its box and its row. -/
structure AfSt (W : World) (g N : Nat) (L : Prs) (X : World) : Prop where
  ex : ∃ A q c, BoxR X g N (.slice A q c) ∧ OwnP X W.heap.size (.slice A q c) L ∧ L.length = q
  bel : Below W.heap.size W X
theorem AfSt.below {W X Y : World} {g N : Nat} {L : Prs} (h : AfSt W g N L X) (hb : Below X.heap.size X Y) : AfSt W g N L Y := by
  obtain ⟨⟨A, q, c, h1, h2, h3⟩, h4⟩ := h
  exact ⟨⟨A, q, c, h1.below hb, h2.below hb, h3⟩, belowThen h4 hb⟩
theorem AfSt.to {W X : World} {g N : Nat} {L M : Prs} (h : AfSt W g N L X) (e : L = M) : AfSt W g N M X := e ▸ h
set_option maxRecDepth 100000 in
set_option maxHeartbeats 8000000 in
theorem rAfter (N : Nat) (hN : N ≤ 8) (l : Prs) (n : Nat) (hn : l.length = n) (hs : n ≤ 60) (A : Option Addr) (c : Nat) (x : List Int) (m : Nat) (hm : x.length = m) (hm8 : m ≤ 8) (B : Option Addr) (d : Nat) (w : World) (ha : Rp w A c l) (ho : Rd w B d x) :
    Calls Tryd.prog 25 #[relV N A n c, .slice B m d] w (GivesR N (afA l x N m) w) := by
  obtain ⟨W, hW, hB0, hB1, hbW, hzW⟩ := twoBoxes w N 0 (.slice A n c) (.slice none 0 0)
  have HB := Lib.hid hB0
  have HB1 := Lib.hid hB1
  have HKS := Lib.hid (fun X (hX : Below W.heap.size W X) => (⟨hX, (HB.out.below hX).facts.1, (HB.out.below hX).facts.2.1⟩ : Below W.heap.size W X ∧ X.cell? ⟨w.heap.size, 0, none⟩ = some (.int .i64 N) ∧ X.cell? ⟨w.heap.size, 1, none⟩ = some (.slice A n c)))
  have HAP := Lib.hid (fun X (hX : Below W.heap.size W X) ty v (ho : OwnP X W.heap.size v []) => runAppB X W.heap.size ty v [] ho A n c l hn ((ha.below hbW).below hX) (by simp only [List.length_nil]; omega) hX.size)
  have HP := Lib.hid (fun y X (hX : Below W.heap.size W X) => rPos x m hm y B d X ((ho.below hbW).below hX))
  have HOX := Lib.hid (fun X (hX : Below W.heap.size W X) => (ho.below hbW).below hX)
  have hle := ho.le
  have hmx := ho.max
  rw [hm] at hle
  unfold maxLen at hmx
  have HM := Lib.hid hm
  have HBW := Lib.hid hbW
  have HZW := Lib.hid hzW
  have HWE := Lib.hid hW
  have hS : Below W.heap.size W W.drew := (Below.refl _ W).drew
  clear hbW hW ha ho hB0 hB1 hm hzW
  go_enter Tryd.func25, Tryd.ntmps25
  go_wp2_with fail
  rw [HWE.out]
  refine Code.wp_mono (Q := fun e s X => ∃ A0 A' c' g, e = .normal ∧ s = ⟨#[.agg #[.int .i64 (N : Int), .slice A n c], .slice B m d, .pointer (some ⟨w.heap.size, 0, none⟩), undef, .pointer (some ⟨w.heap.size + 1, 0, none⟩), .pointer (some ⟨g, 0, none⟩), undef, undef, undef, .pointer (some ⟨w.heap.size, 0, none⟩), .int .i64 (N : Int), .slice A0 0 0, .pointer (some ⟨w.heap.size, 1, none⟩), .slice A n c, .slice A' n c', .agg #[.int .i64 (N : Int), .slice A' n c'], undef, undef, undef, undef, undef, undef, undef, undef, undef, undef, undef, undef, undef, undef, undef, undef, undef, undef, undef, undef, undef, undef, undef, undef, undef, undef, undef, undef, undef, undef, undef, undef, undef, undef], []⟩ ∧ W.heap.size ≤ g ∧ Below W.heap.size W X ∧ BoxR X g N (.slice A' n c') ∧ OwnP X W.heap.size (.slice A' n c') l) ?_ ?_
  · rintro e s X ⟨A0, A', c', g, rfl, rfl, glo, hb, hB, hO⟩
    have HST0 : Hid (AfSt W g N (afA l x N 0) X) := Lib.hid ⟨⟨A', n, c', hB, hO, hn⟩, hb⟩
    clear hb hB hO hS HAP
    go_wp2_with fail
    go_loopw [6] (fun v wr => ∃ i : Nat, i ≤ m ∧ v = .int .i64 i ∧ Hid (AfSt W g N (afA l x N i) wr)) (fun v _ => m - (intOf v).toNat)
    case atStart => exact ⟨0, Nat.zero_le _, rfl, HST0⟩
    case round =>
      clear HST0
      obtain ⟨i, hi, rfl, HS⟩ := hrel
      by_cases hlt : i < m
      · have hil : i < x.length := by rw [HM.out]; exact hlt
        obtain ⟨y, hy⟩ : ∃ y, x[i] = y := ⟨_, rfl⟩
        have HA0 : Hid (AfSt W g N (afA l x N i ++ afR x y i 0) wr) := Lib.hid (HS.out.to (by rw [afR, List.append_nil]))
        have HYE := Lib.hid (show afA l x N i ++ afR x y i N = afA l x N (i + 1) by rw [afA, List.getElem?_eq_getElem hil, hy]; rfl)
        have HY := Lib.hid hy
        clear HS hy
        go_wp2_with fail
        go_loopw [7] (fun v X => ∃ j : Nat, j ≤ N ∧ v = .int .i64 j ∧ Hid (AfSt W g N (afA l x N i ++ afR x y i j) X)) (fun v _ => N - (intOf v).toNat)
        case atStart => exact ⟨0, Nat.zero_le _, rfl, HA0⟩
        case round =>
          clear HA0
          obtain ⟨j, hj, rfl, HS⟩ := hrel
          obtain ⟨_, k0, k1⟩ := HKS.out wr HS.out.bel
          by_cases hlj : j < N
          · obtain ⟨q, hq⟩ : ∃ q, posI x (j : Int) = q := ⟨_, rfl⟩
            have HRS := Lib.hid (show afR x y i (j + 1) = afR x y i j ++ if q < 0 ∨ (i : Int) < q then [(y, (j : Int))] else [] by rw [afR, hq])
            have hcl := HP.out (j : Int) wr HS.out.bel
            rw [hq] at hcl
            have HCL := Lib.hid hcl
            clear hq hcl
            go_wp2_with fail
            refine HCL.out.mono ?_
            rintro e w1 ⟨rfl, b1⟩
            have HS1 := Lib.hid (HS.out.below b1)
            clear HS k0 k1 b1
            by_cases hc : q < 0 ∨ (i : Int) < q
            · rw [if_pos hc] at HRS
              obtain ⟨⟨A1, k1, c1, hB1, hO1, hl1⟩, hb1⟩ := HS1.out
              have hxr := HOX.out w1 hb1
              obtain ⟨ad, eB, had, hcx⟩ := hxr.one hil
              rw [HY.out] at hcx
              subst eB
              have hLn : (afA l x N i ++ afR x y i j).length ≤ 200 := by
                have e1 := afALen (l := l) (x := x) (N := N) i
                have e2 := afRLen (x := x) (a := y) (i := i) j
                have e3 : i * N ≤ 8 * 8 := Nat.mul_le_mul (by omega) hN
                rw [List.length_append]
                omega
              obtain ⟨L, hL⟩ : ∃ L, afA l x N i ++ afR x y i j = L := ⟨_, rfl⟩
              have HLE := Lib.hid hL
              rw [hL] at hO1 hl1 hLn
              obtain ⟨Y, hY⟩ : ∃ Y, (w1.alloc (.cells #[.int .i64 y, .int .i64 (j : Int)] 35)).drew = Y := ⟨_, rfl⟩
              have bY : Below w1.heap.size w1 Y := by rw [← hY]; exact belowDrewN (belowAlloc w1 _) 1
              have hBY := hB1.below bY
              have hOY := hO1.below bY
              have HRY : Hid (Rp Y (some ⟨w1.heap.size, 0, none⟩) 1 [(y, (j : Int))]) := by rw [← hY]; exact Lib.hid ((cellPair w1 y j _).drewN 1)
              obtain ⟨x0, x1, x2, x3⟩ := hB1.facts
              obtain ⟨z0, z1, z2, z3⟩ := hBY.facts
              have hcY : Y.cell? (ad.add i) = some (.int .i64 y) := (bY.cell (p := ad.add i) (by rw [addBlock]; exact had)).trans hcx
              have hbY := belowThen hb1 bY
              obtain ⟨_, k0, k1'⟩ := HKS.out w1 hb1
              obtain ⟨_, e0, e1⟩ := HKS.out Y hbY
              have hi0 : (0 : Int) ≤ i := by omega
              have hi1 : (i : Int) < m := by omega
              have HBY := Lib.hid hBY
              have HOY := Lib.hid hOY
              have HBB := Lib.hid hbY
              have hzY : W.heap.size ≤ Y.heap.size := hbY.size
              clear hB1 hO1 hBY hOY hxr HS1 hL hbY hb1
              go_wp2_with fail
              all_goals (try go_wp2)
              all_goals first
                | (exfalso; omega)
                | skip
              all_goals go_region_law
                (first
                  | (refine stepPG _ (by rfl) (.tmp 39) (.tmp 46) (by rfl) W.heap.size _ _ (by rfl) HOY.out (some ⟨w1.heap.size, 0, none⟩) 1 1 [(y, (j : Int))] (by rfl) rfl HRY.out (by omega) hzY ?_; intro A2 k2 c2 w2 HO2 HK2 g2; have HB2 : Hid (BoxR w2 g N (.slice A1 k1 c1)) := Lib.hid (HBY.out.grown HOY.out g2); obtain ⟨y0, y1, y2, y3⟩ := HB2.out.facts; have HBX2 := Lib.hid ((HBB.out).grown g2 hzY fun q hq => (OwnP.lt HOY.out hq).1)))
              all_goals (
                have HFN : Hid (AfSt W g N (afA l x N i ++ afR x y i (j + 1)) (w2.setCell ⟨g, 1, none⟩ (.slice A2 k2 c2))) := Lib.hid (by
                  refine ⟨⟨A2, k2, c2, HB2.out.stored1 _, ?_, ?_⟩, HBX2.out.setCell glo _⟩
                  · rw [HRS.out, ← List.append_assoc, HLE.out]; exact HO2.out.boxed1 HB2.out
                  · rw [HRS.out, ← List.append_assoc, HLE.out]; exact HK2.out)
                go_wp2
                go_roundw
                (case rel => exact ⟨j + 1, by omega, by go_num, HFN⟩)
                (case measure => simp [intOf]; omega))
            · rw [if_neg hc, List.append_nil] at HRS
              have HFN : Hid (AfSt W g N (afA l x N i ++ afR x y i (j + 1)) w1) := Lib.hid (HS1.out.to (by rw [HRS.out]))
              obtain ⟨_, k0, k1⟩ := HKS.out w1 HS1.out.bel
              go_wp2_with fail
              all_goals (try go_wp2)
              all_goals first
                | (exfalso; omega)
                | go_roundw
              all_goals first
                | exact ⟨j + 1, by omega, by go_num, HFN⟩
                | (simp [intOf]; omega)
          · obtain rfl : j = N := by omega
            have HFN : Hid (AfSt W g j (afA l x j (i + 1)) wr) := Lib.hid (HS.out.to HYE.out)
            go_wp2
            go_roundw
            case rel => exact ⟨i + 1, by omega, by go_num, HFN⟩
            case measure => simp [intOf]; omega
      · obtain rfl : i = m := by omega
        obtain ⟨⟨A1, k1, c1, hB1, hO1, hl1⟩, hb1⟩ := HS.out
        have HR3 := Lib.hid hO1.rdAt
        have HBg := Lib.hid hB1
        obtain ⟨x0, x1, x2, x3⟩ := hB1.facts
        have HB5 := Lib.hid (HB1.out.below hb1)
        obtain ⟨d0, d1, d2, d3⟩ := HB5.out.facts
        have HBB := Lib.hid (belowThen HBW.out hb1)
        have HL1 := Lib.hid hl1
        have hz := HZW.out
        clear hB1 hO1 hb1 hl1 HS
        go_wp2
        refine bodyPost_ret (ResR (HB5.out.stored _ _) rfl _ rfl) rfl ?_
        refine ⟨A1, c1, by rw [HL1.out], HR3.out.stored HB5.out _ _, (HBB.out.setCell (Nat.le_succ _) _).setCell (Nat.le_succ _) _⟩
  refine wp_region_held_drew (S := (fun w' => Below W.heap.size W w' ∧ w'.cell? ⟨w.heap.size, 0, none⟩ = some (.int .i64 N) ∧ w'.cell? ⟨w.heap.size, 1, none⟩ = some (.slice A n c))) (by kernel_rfl) (HKS.out _ hS) (fun hHeld => ?_)
  refine wpAnyH_take (i := 0) (oi := ⟨some 9, _, _, _, _, _⟩) (v := ?v0_1) rfl (by kernel_rfl) (by kernel_rfl) (by kernel_rfl) (fun _ _ _ h => by obtain ⟨_, _, _, _, h, _⟩ := h; cases h) (Or.inl ⟨by rfl, ?h0_1⟩) (by assumption) ?r0_1
  case h0_1 => (intro w hSw; (try dsimp only at hSw); go_simp; try with_reducible rfl)
  (try simp only [Act.put, List.setIfInBounds_toArray, List.set_cons_zero, List.set_cons_succ])
  refine wpAnyH_take (i := 1) (oi := ⟨some 10, _, _, _, _, _⟩) (v := ?v1_2) rfl (by kernel_rfl) (by kernel_rfl) (by kernel_rfl) (fun _ _ _ h => by obtain ⟨_, _, _, _, h, _⟩ := h; cases h) (Or.inl ⟨by rfl, ?h1_2⟩) (by assumption) ?r1_2
  case h1_2 => (intro w hSw; (try dsimp only at hSw); go_simp; try with_reducible rfl)
  (try simp only [Act.put, List.setIfInBounds_toArray, List.set_cons_zero, List.set_cons_succ])
  refine wpAnyH_take (i := 3) (oi := ⟨some 12, _, _, _, _, _⟩) (v := ?v3_3) rfl (by kernel_rfl) (by kernel_rfl) (by kernel_rfl) (fun _ _ _ h => by obtain ⟨_, _, _, _, h, _⟩ := h; cases h) (Or.inl ⟨by rfl, ?h3_3⟩) (by assumption) ?r3_3
  case h3_3 => (intro w hSw; (try dsimp only at hSw); go_simp; try with_reducible rfl)
  (try simp only [Act.put, List.setIfInBounds_toArray, List.set_cons_zero, List.set_cons_succ])
  refine wpAnyH_take (i := 4) (oi := ⟨some 13, _, _, _, _, _⟩) (v := ?v4_4) rfl (by kernel_rfl) (by kernel_rfl) (by kernel_rfl) (fun _ _ _ h => by obtain ⟨_, _, _, _, h, _⟩ := h; cases h) (Or.inl ⟨by rfl, ?h4_4⟩) (by assumption) ?r4_4
  case h4_4 => (intro w hSw; (try dsimp only at hSw); go_simp; try with_reducible rfl)
  (try simp only [Act.put, List.setIfInBounds_toArray, List.set_cons_zero, List.set_cons_succ])
  refine wpAnyH_ready (rs := [2, 7]) (by kernel_rfl) (by simp) ?_
  refine AllReadyH.cons (o := ⟨some 11, _, _, _, _, _⟩) rfl (fun K hK => ?_) (AllReadyH.cons (o := ⟨some 5, _, _, _, _, _⟩) rfl (fun K hK => ?_) (AllReadyH.nil))
  · obtain ⟨Xa, hXa⟩ : ∃ Xa, World.alloc W.drew (.cells #[] 35) = Xa := ⟨_, rfl⟩
    have sXa : Below (World.heap W.drew).size W.drew Xa := by rw [← hXa]; exact belowAlloc _ _
    have bXa := belowThen hS sXa
    have oXa : OwnP Xa W.heap.size (.slice (some ⟨(World.heap W).size, 0, none⟩) 0 0) [] := by rw [← hXa]; exact ownPNew _ _ (hS).size
    go_simp
    try rw [hXa]
    refine hK.out _ _ (HKS.out _ bXa) (fun hHeld => ?_)
    clear hK K
    clear hXa
    (try simp only [Act.put, List.setIfInBounds_toArray, List.set_cons_zero, List.set_cons_succ])
    refine wpAnyH_ready (rs := [5, 7]) (by kernel_rfl) (by simp) ?_
    refine AllReadyH.cons (o := ⟨some 14, _, _, _, _, _⟩) rfl (fun K hK => ?_) (AllReadyH.cons (o := ⟨some 5, _, _, _, _, _⟩) rfl (fun K hK => ?_) (AllReadyH.nil))
    · obtain ⟨vb, Xb, hrun, hown, hgr2⟩ := HAP.out Xa bXa _ _ oXa
      obtain ⟨A', c', rfl, hrp, _⟩ := hown.rd
      have bXb : Below W.heap.size W Xb := (bXa).grown hgr2 (bXa).size fun q hq => (OwnP.lt oXa hq).1
      refine Lib.wp_append_run _ (.tmp 11) (.tmp 13) 22 22 rfl _ _ rfl rfl _ _ hrun ?_
      refine hK.out _ _ (HKS.out _ bXb) (fun hHeld => ?_)
      clear hK K
      (try simp only [Act.put, List.setIfInBounds_toArray, List.set_cons_zero, List.set_cons_succ])
      simp only [List.nil_append] at hown hrp
      rw [hn] at hown
      simp only [List.nil_append, hn]
      refine wpAnyH_take (i := 6) (oi := ⟨some 15, _, _, _, _, _⟩) (v := ?v6_5) rfl (by kernel_rfl) (by kernel_rfl) (by kernel_rfl) (fun _ _ _ h => by obtain ⟨_, _, _, _, h, _⟩ := h; cases h) (Or.inl ⟨by rfl, ?h6_5⟩) (by assumption) ?r6_5
      case h6_5 => (intro w hSw; (try dsimp only at hSw); go_simp; try with_reducible rfl)
      (try simp only [Act.put, List.setIfInBounds_toArray, List.set_cons_zero, List.set_cons_succ])
      refine wpAnyH_ready (rs := [7]) (by kernel_rfl) (by simp) ?_
      refine AllReadyH.cons (o := ⟨some 5, _, _, _, _, _⟩) rfl (fun K hK => ?_) (AllReadyH.nil)
      · obtain ⟨Y, hY⟩ : ∃ Y, World.alloc Xb (.cells #[.int .i64 0, .slice none 0 0] 24) = Y := ⟨_, rfl⟩
        have sY : Below (World.heap Xb).size Xb Y := by rw [← hY]; exact belowAlloc _ _
        have bY := belowThen bXb sY
        have G0 : BoxR Y (World.heap Xb).size 0 (.slice none 0 0) := by rw [← hY]; exact BoxR.new _ _ _
        have glo : W.heap.size ≤ (World.heap Xb).size := (bXb).size
        go_simp
        try rw [hY]
        refine hK.out _ _ (HKS.out _ bY) (fun hHeld => ?_)
        clear hK K
        clear hY
        (try simp only [Act.put, List.setIfInBounds_toArray, List.set_cons_zero, List.set_cons_succ])
        have GL := G0
        have hO := (OwnP.below hown sY)
        refine wpAnyH_ready (rs := [8]) (by kernel_rfl) (by simp) ?_
        refine AllReadyH.cons (o := ⟨none, _, _, _, _, _⟩) rfl (fun K hK => ?_) (AllReadyH.nil)
        · obtain ⟨x1, x2, z1, z2⟩ := GL.facts
          go_simp
          refine hK.out _ _ (HKS.out _ ((bY.setCell glo _).setCell glo _)) (fun hHeld => ?_)
          clear hK K
          (try simp only [Act.put, List.setIfInBounds_toArray, List.set_cons_zero, List.set_cons_succ])
          refine wpAnyH_done (by kernel_rfl) ?_ _
          exact ⟨_, A', c', _, rfl, rfl, glo, (bY.setCell glo _).setCell glo _, GL.stored _ _, hO.boxed GL⟩
    · obtain ⟨Y, hY⟩ : ∃ Y, World.alloc Xa (.cells #[.int .i64 0, .slice none 0 0] 24) = Y := ⟨_, rfl⟩
      have sY : Below (World.heap Xa).size Xa Y := by rw [← hY]; exact belowAlloc _ _
      have bY := belowThen bXa sY
      have G0 : BoxR Y (World.heap Xa).size 0 (.slice none 0 0) := by rw [← hY]; exact BoxR.new _ _ _
      have glo : W.heap.size ≤ (World.heap Xa).size := (bXa).size
      go_simp
      try rw [hY]
      refine hK.out _ _ (HKS.out _ bY) (fun hHeld => ?_)
      clear hK K
      clear hY
      (try simp only [Act.put, List.setIfInBounds_toArray, List.set_cons_zero, List.set_cons_succ])
      refine wpAnyH_ready (rs := [5]) (by kernel_rfl) (by simp) ?_
      refine AllReadyH.cons (o := ⟨some 14, _, _, _, _, _⟩) rfl (fun K hK => ?_) (AllReadyH.nil)
      · obtain ⟨vb, Xb, hrun, hown, hgr2⟩ := HAP.out Y bY _ _ (OwnP.below oXa sY)
        obtain ⟨A', c', rfl, hrp, _⟩ := hown.rd
        have bXb : Below W.heap.size W Xb := (bY).grown hgr2 (bY).size fun q hq => (OwnP.lt (OwnP.below oXa sY) hq).1
        refine Lib.wp_append_run _ (.tmp 11) (.tmp 13) 22 22 rfl _ _ rfl rfl _ _ hrun ?_
        have G1 := BoxR.grown G0 (OwnP.below oXa sY) hgr2
        refine hK.out _ _ (HKS.out _ bXb) (fun hHeld => ?_)
        clear hK K
        (try simp only [Act.put, List.setIfInBounds_toArray, List.set_cons_zero, List.set_cons_succ])
        simp only [List.nil_append] at hown hrp
        rw [hn] at hown
        simp only [List.nil_append, hn]
        refine wpAnyH_take (i := 6) (oi := ⟨some 15, _, _, _, _, _⟩) (v := ?v6_6) rfl (by kernel_rfl) (by kernel_rfl) (by kernel_rfl) (fun _ _ _ h => by obtain ⟨_, _, _, _, h, _⟩ := h; cases h) (Or.inl ⟨by rfl, ?h6_6⟩) (by assumption) ?r6_6
        case h6_6 => (intro w hSw; (try dsimp only at hSw); go_simp; try with_reducible rfl)
        (try simp only [Act.put, List.setIfInBounds_toArray, List.set_cons_zero, List.set_cons_succ])
        have GL := G1
        have hO := hown
        refine wpAnyH_ready (rs := [8]) (by kernel_rfl) (by simp) ?_
        refine AllReadyH.cons (o := ⟨none, _, _, _, _, _⟩) rfl (fun K hK => ?_) (AllReadyH.nil)
        · obtain ⟨x1, x2, z1, z2⟩ := GL.facts
          go_simp
          refine hK.out _ _ (HKS.out _ ((bXb.setCell glo _).setCell glo _)) (fun hHeld => ?_)
          clear hK K
          (try simp only [Act.put, List.setIfInBounds_toArray, List.set_cons_zero, List.set_cons_succ])
          refine wpAnyH_done (by kernel_rfl) ?_ _
          exact ⟨_, A', c', _, rfl, rfl, glo, (bXb.setCell glo _).setCell glo _, GL.stored _ _, hO.boxed GL⟩
  · obtain ⟨Y, hY⟩ : ∃ Y, World.alloc W.drew (.cells #[.int .i64 0, .slice none 0 0] 24) = Y := ⟨_, rfl⟩
    have sY : Below (World.heap W.drew).size W.drew Y := by rw [← hY]; exact belowAlloc _ _
    have bY := belowThen hS sY
    have G0 : BoxR Y (World.heap W).size 0 (.slice none 0 0) := by rw [← hY]; exact BoxR.new _ _ _
    have glo : W.heap.size ≤ (World.heap W).size := (hS).size
    go_simp
    try rw [hY]
    refine hK.out _ _ (HKS.out _ bY) (fun hHeld => ?_)
    clear hK K
    clear hY
    (try simp only [Act.put, List.setIfInBounds_toArray, List.set_cons_zero, List.set_cons_succ])
    refine wpAnyH_ready (rs := [2]) (by kernel_rfl) (by simp) ?_
    refine AllReadyH.cons (o := ⟨some 11, _, _, _, _, _⟩) rfl (fun K hK => ?_) (AllReadyH.nil)
    · obtain ⟨Xa, hXa⟩ : ∃ Xa, World.alloc Y (.cells #[] 35) = Xa := ⟨_, rfl⟩
      have sXa : Below (World.heap Y).size Y Xa := by rw [← hXa]; exact belowAlloc _ _
      have bXa := belowThen bY sXa
      have oXa : OwnP Xa W.heap.size (.slice (some ⟨(World.heap Y).size, 0, none⟩) 0 0) [] := by rw [← hXa]; exact ownPNew _ _ (bY).size
      go_simp
      try rw [hXa]
      refine hK.out _ _ (HKS.out _ bXa) (fun hHeld => ?_)
      clear hK K
      clear hXa
      (try simp only [Act.put, List.setIfInBounds_toArray, List.set_cons_zero, List.set_cons_succ])
      refine wpAnyH_ready (rs := [5]) (by kernel_rfl) (by simp) ?_
      refine AllReadyH.cons (o := ⟨some 14, _, _, _, _, _⟩) rfl (fun K hK => ?_) (AllReadyH.nil)
      · obtain ⟨vb, Xb, hrun, hown, hgr2⟩ := HAP.out Xa bXa _ _ oXa
        obtain ⟨A', c', rfl, hrp, _⟩ := hown.rd
        have bXb : Below W.heap.size W Xb := (bXa).grown hgr2 (bXa).size fun q hq => (OwnP.lt oXa hq).1
        refine Lib.wp_append_run _ (.tmp 11) (.tmp 13) 22 22 rfl _ _ rfl rfl _ _ hrun ?_
        have G1 := BoxR.grown (BoxR.below G0 sXa) oXa hgr2
        refine hK.out _ _ (HKS.out _ bXb) (fun hHeld => ?_)
        clear hK K
        (try simp only [Act.put, List.setIfInBounds_toArray, List.set_cons_zero, List.set_cons_succ])
        simp only [List.nil_append] at hown hrp
        rw [hn] at hown
        simp only [List.nil_append, hn]
        refine wpAnyH_take (i := 6) (oi := ⟨some 15, _, _, _, _, _⟩) (v := ?v6_7) rfl (by kernel_rfl) (by kernel_rfl) (by kernel_rfl) (fun _ _ _ h => by obtain ⟨_, _, _, _, h, _⟩ := h; cases h) (Or.inl ⟨by rfl, ?h6_7⟩) (by assumption) ?r6_7
        case h6_7 => (intro w hSw; (try dsimp only at hSw); go_simp; try with_reducible rfl)
        (try simp only [Act.put, List.setIfInBounds_toArray, List.set_cons_zero, List.set_cons_succ])
        have GL := G1
        have hO := hown
        refine wpAnyH_ready (rs := [8]) (by kernel_rfl) (by simp) ?_
        refine AllReadyH.cons (o := ⟨none, _, _, _, _, _⟩) rfl (fun K hK => ?_) (AllReadyH.nil)
        · obtain ⟨x1, x2, z1, z2⟩ := GL.facts
          go_simp
          refine hK.out _ _ (HKS.out _ ((bXb.setCell glo _).setCell glo _)) (fun hHeld => ?_)
          clear hK K
          (try simp only [Act.put, List.setIfInBounds_toArray, List.set_cons_zero, List.set_cons_succ])
          refine wpAnyH_done (by kernel_rfl) ?_ _
          exact ⟨_, A', c', _, rfl, rfl, glo, (bXb.setCell glo _).setCell glo _, GL.stored _ _, hO.boxed GL⟩
end Go.Proofs.YtjioiaeiggjneaaDoor

namespace Go.Proofs.YtjioiaeiggjneaaDoor
open Go Go.RowKit

theorem nxtLen {N : Nat} {f : Nat → Nat → Bool} {s : Nat} : (nxtL N f s).length ≤ N := by
  unfold nxtL
  exact Nat.le_trans (List.length_filter_le _ _) (by simp)
theorem okLApp {N : Nat} {f : Nat → Nat → Bool} {b : Nat} : ∀ {l : List Nat} {s : Nat}, okL N f s l = true → b ∈ nxtL N f (l.foldl addS s) → okL N f s (l ++ [b]) = true
  | [], s, _, hb => by
    obtain ⟨h1, h2⟩ := nxtMem.1 hb
    have h2 : canL N f s b = true := h2
    show (decide (b < N) && canL N f s b && true) = true
    rw [decide_eq_true h1, h2]
    rfl
  | a :: l, s, h, hb => by
    rw [okL, Bool.and_eq_true] at h
    rw [List.cons_append, okL, h.1, okLApp h.2 hb]
    rfl
theorem okLTake {N : Nat} {f : Nat → Nat → Bool} : ∀ {l : List Nat} {s : Nat} (k : Nat), okL N f s l = true → okL N f s (l.take k) = true
  | [], s, k, h => by simp [okL]
  | a :: l, s, 0, h => by simp [okL]
  | a :: l, s, k + 1, h => by
    rw [okL, Bool.and_eq_true] at h
    rw [List.take_succ_cons, okL, h.1, okLTake k h.2]
    rfl
theorem natsTakeE {o : List Int} {k : Nat} : nats (o.take k) = (nats o).take k := by unfold nats; exact List.map_take
theorem nINats {N : Nat} {f : Nat → Nat → Bool} {o : List Int} {s : Nat} (h : okI N f s o = true) (k : Nat) : nI (nats (o.take k)) = o.take k := by
  rw [natsTakeE]
  unfold nI
  rw [List.map_take]
  congr 1
  exact (okNats h).2.symm
theorem natsSucc {o : List Int} {k a : Nat} (hk : k < o.length) (ha : o[k] = (a : Int)) : nats (o.take (k + 1)) = nats (o.take k) ++ [a] := by
  rw [List.take_succ_eq_append_getElem hk]
  unfold nats
  rw [List.map_append, ha]
  rfl
set_option maxRecDepth 100000 in
theorem cutIH (A : Option Addr) (n c k : Nat) (hk : k ≤ c) (W : World) : (Instr.sliceAt 25 (.slice A n c) none (some (.int .i64 (k : Int))) none).run Tryd.prog W = .ok (.slice A k c) W := by
  rw [run_sliceAt_slice (h := Tryd.underlying25), run_slice_h (ht := Tryd.underlying25) (h0 := by omega) (h2 := by omega)]
  have : (sizeOf (Tryd.prog.elem 25)).run Tryd.prog W = .ok 1 W := by kernel_rfl
  rw [this]
  simp [Result.andThen, sliced]
  intro _
  cases A <;> rfl
/-- Count of the relation that forces a prefix. -/
theorem rCntOf {N : Nat} (hN : N ≤ 8) {l : Prs} (hc : acyR N l = true) {pre : List Nat} (hok : okL N (hasP l) 0 pre = true) {v : Nat} (hv : ways N (hasP l) (N - pre.length) (maskL pre) = v) (q : Nat) (hq : (afA l (nI pre) N pre.length).length = q) (A : Option Addr) (c : Nat) (w : World) (ha : Rp w A c (afA l (nI pre) N pre.length)) :
    Calls Tryd.prog 23 #[relV N A q c] w fun e w' => e = .returned (.tuple #[.int .i64 (v : Int), .int .i64 0]) ∧ Below w.heap.size w w' := by
  obtain ⟨h1, h2⟩ := afCount hc hok
  have h := rCountOk N hN _ q hq h1 A c w ha
  rw [h2, hv] at h
  exact h
set_option maxRecDepth 100000 in
theorem rRankNo (N : Int) (l : Prs) (n : Nat) (hn : l.length = n) (hc : acyR N l = false) (A : Option Addr) (c : Nat) (B : Option Addr) (m d : Nat) (w : World) (ha : Rp w A c l) :
    Calls Tryd.prog 7 #[relV N A n c, .slice B m d] w fun e w' => e = .returned (.tuple #[.int .i64 0, .int .i64 (errA N l)]) ∧ Below w.heap.size w w' := by
  obtain ⟨W, hW⟩ : ∃ W, w.alloc (.cells #[.int .i64 N, .slice A n c] 24) = W := ⟨_, rfl⟩
  have hbW : Below w.heap.size w W := by rw [← hW]; exact belowAlloc w _
  have HB : Hid (BoxR W w.heap.size N (.slice A n c)) := by rw [← hW]; exact Lib.hid (BoxR.new w N _)
  obtain ⟨k0, k1, _, _⟩ := HB.out.facts
  have HV := Lib.hid (rWrong N l n hn A c W (ha.below hbW))
  have hz := (errNz hc).2
  have HBW := Lib.hid hbW
  have HW := Lib.hid hW
  generalize errA N l = r at HV hz ⊢
  clear hbW hW ha hc
  go_enter Tryd.func7, Tryd.ntmps7
  go_wp2_with fail
  rw [HW.out]
  refine HV.out.mono ?_
  rintro e w1 ⟨rfl, b1⟩
  go_wp2
  go_ret2
  exact ⟨rfl, belowThen HBW.out b1⟩
set_option maxRecDepth 100000 in
set_option maxHeartbeats 1000000 in
theorem rRankNone (N : Int) (l : Prs) (n : Nat) (hn : l.length = n) (hc : acyR N l = true) (o : List Int) (m : Nat) (hm : o.length = m) (hal : isB N l o = false) (A : Option Addr) (c : Nat) (B : Option Addr) (d : Nat) (w : World) (ha : Rp w A c l) (ho : Rd w B d o) :
    Calls Tryd.prog 7 #[relV N A n c, .slice B m d] w fun e w' => e = .returned (.tuple #[.int .i64 0, .int .i64 5]) ∧ Below w.heap.size w w' := by
  obtain ⟨W, hW⟩ : ∃ W, w.alloc (.cells #[.int .i64 N, .slice A n c] 24) = W := ⟨_, rfl⟩
  have hbW : Below w.heap.size w W := by rw [← hW]; exact belowAlloc w _
  have HB : Hid (BoxR W w.heap.size N (.slice A n c)) := by rw [← hW]; exact Lib.hid (BoxR.new w N _)
  obtain ⟨k0, k1, _, _⟩ := HB.out.facts
  have HK := Lib.hid (fun X (hX : Below W.heap.size W X) => (HB.out.below hX).facts)
  have HV := Lib.hid (rWrong N l n hn A c W (ha.below hbW))
  rw [errZ hc] at HV
  have HI := Lib.hid (fun X (hX : Below W.heap.size W X) => rIs N l n hn A c o m hm B d X ((ha.below hbW).below hX) ((ho.below hbW).below hX))
  rw [isEq, hal] at HI
  have HBW := Lib.hid hbW
  have HW := Lib.hid hW
  clear hbW hW ha ho hc hal
  go_enter Tryd.func7, Tryd.ntmps7
  go_wp2_with fail
  rw [HW.out]
  refine HV.out.mono ?_
  rintro e w1 ⟨rfl, b1⟩
  clear k0 k1
  obtain ⟨k0, k1, _, _⟩ := HK.out w1 b1
  go_wp2_with fail
  refine (HI.out w1 b1).mono ?_
  rintro e w2 ⟨rfl, b2⟩
  have HX := Lib.hid (belowThen HBW.out (belowThen b1 b2))
  clear b1 b2
  go_wp2
  go_ret2
  exact ⟨rfl, HX.out⟩
set_option maxRecDepth 100000 in
set_option maxHeartbeats 8000000 in
theorem rRankOk (N : Nat) (hN : N ≤ 8) (l : Prs) (n : Nat) (hn : l.length = n) (hs : n ≤ 60) (hc : acyR N l = true) (o : List Int) (hm : o.length = N) (hal : okI N (hasP l) 0 o = true) (A : Option Addr) (c : Nat) (B : Option Addr) (d : Nat) (w : World) (ha : Rp w A c l) (ho : Rd w B d o) :
    Calls Tryd.prog 7 #[relV N A n c, .slice B N d] w fun e w' => e = .returned (.tuple #[.int .i64 (rnk N (hasP l) N 0 (nats o) : Int), .int .i64 0]) ∧ Below w.heap.size w w' := by
  obtain ⟨W, hW⟩ : ∃ W, w.alloc (.cells #[.int .i64 N, .slice A n c] 24) = W := ⟨_, rfl⟩
  have hbW : Below w.heap.size w W := by rw [← hW]; exact belowAlloc w _
  have HB : Hid (BoxR W w.heap.size N (.slice A n c)) := by rw [← hW]; exact Lib.hid (BoxR.new w N _)
  obtain ⟨k0, k1, _, _⟩ := HB.out.facts
  have HK := Lib.hid (fun X (hX : Below W.heap.size W X) => (HB.out.below hX).facts)
  have HV := Lib.hid (rWrong N l n hn A c W (ha.below hbW))
  rw [errZ hc] at HV
  have HI := Lib.hid (fun X (hX : Below W.heap.size W X) => rIs N l n hn A c o N hm B d X ((ha.below hbW).below hX) ((ho.below hbW).below hX))
  have hisB : isB N l o = true := by
    unfold isB allowB
    rw [acyOk hc, Int.toNat_natCast, decide_eq_true hm, hal]
    rfl
  rw [isEq, hisB] at HI
  have HC := Lib.hid (fun X (hX : Below W.heap.size W X) => rCountOk N hN l n hn hc A c X ((ha.below hbW).below hX))
  have HNX := Lib.hid (fun (k : Nat) (hk : k ≤ N) X (hX : Below W.heap.size W X) => by
    have h := rNext N (by omega) l n hn A c (o.take k) k (by rw [List.length_take, hm]; omega) B d X ((ha.below hbW).below hX) (((ho.below hbW).below hX).take k (by omega))
    rw [← nINats hal k, nxEq (acyOk hc)] at h
    exact h)
  have HAF := Lib.hid (fun (x : List Int) (m : Nat) (hm : x.length = m) (hm8 : m ≤ 8) B d X (hX : Below W.heap.size W X) (hr : Rd X B d x) => rAfter N hN l n hn hs A c x m hm hm8 B d X ((ha.below hbW).below hX) hr)
  have HRO := Lib.hid (fun X (hX : Below W.heap.size W X) => (ho.below hbW).below hX)
  have hle := ho.le
  have hmx := ho.max
  rw [hm] at hle
  unfold maxLen at hmx
  have hokL := (okNats hal).1
  have hlt0 := rkLt (show (nats o).length = N by unfold nats; rw [List.length_map, hm]) hokL
  have hbig := Nat.lt_of_lt_of_le hlt0 (waysLe8 hN (acyQ hc))
  have HOKL := Lib.hid hokL
  have HCY := Lib.hid hc
  have HOI := Lib.hid hal
  have HM := Lib.hid hm
  obtain ⟨wt, hwt⟩ : ∃ wt, ways N (hasP l) N 0 = wt := ⟨_, rfl⟩
  rw [hwt] at HC
  have HBG := Lib.hid hbig
  have HBW := Lib.hid hbW
  have HWE := Lib.hid hW
  have HST := Lib.hid (rkStart hal)
  obtain ⟨R, hR⟩ : ∃ R, rnk N (hasP l) N 0 (nats o) = R := ⟨_, rfl⟩
  rw [hR]
  have HR := Lib.hid hR
  clear hbW hW ha ho hc hal hisB hokL hlt0 hbig hwt hR hm
  go_enter Tryd.func7, Tryd.ntmps7
  go_wp2_with fail
  rw [HWE.out]
  refine HV.out.mono ?_
  rintro e w1 ⟨rfl, b1⟩
  clear k0 k1
  obtain ⟨k0, k1, _, _⟩ := HK.out w1 b1
  go_wp2_with fail
  refine (HI.out w1 b1).mono ?_
  rintro e w2 ⟨rfl, b2⟩
  have B2 := belowThen b1 b2
  clear k0 k1
  obtain ⟨k0, k1, _, _⟩ := HK.out w2 B2
  go_wp2_with fail
  refine (HC.out w2 B2).mono ?_
  rintro e w3 ⟨rfl, b3⟩
  have B3 := belowThen B2 b3
  clear k0 k1 b1 b2 B2 b3
  go_wp2_with fail
  go_loopw [9, 10] (fun r i wr => ∃ k r' : Nat, k ≤ N ∧ r = .int .i64 r' ∧ i = .int .i64 k ∧ Hid (RkTo N (hasP l) o k (maskL (nats (o.take k))) r') ∧ Hid (Below W.heap.size W wr)) (fun _ i _ => N - (intOf i).toNat)
  case atStart => exact ⟨0, 0, Nat.zero_le _, rfl, rfl, HST, Lib.hid B3⟩
  case round =>
    clear HST B3
    obtain ⟨k, r, hk, rfl, rfl, HT, HBR⟩ := hrel
    obtain ⟨k0, k1, _, _⟩ := HK.out wr HBR.out
    by_cases hlt : k < N
    · have hko : k < o.length := by rw [HM.out]; exact hlt
      obtain ⟨a, hoa, ham, haok⟩ := rkGet HT.out hko
      obtain ⟨nL, hnL⟩ : ∃ nL, nxtL N (hasP l) (maskL (nats (o.take k))) = nL := ⟨_, rfl⟩
      have hC1 := HNX.out k hk
      rw [hnL] at hC1
      have hsrt := nxtSorted N (hasP l) (maskL (nats (o.take k)))
      have hlen := nxtLen (N := N) (f := hasP l) (s := maskL (nats (o.take k)))
      rw [hnL] at hsrt hlen ham
      have HAM := Lib.hid ham
      have HOA := Lib.hid hoa
      have HAOK := Lib.hid haok
      have HSRT := Lib.hid hsrt
      have HNL := Lib.hid hnL
      obtain ⟨q, hq⟩ : ∃ q, nL.length = q := ⟨_, rfl⟩
      rw [hq] at hlen
      have HQ := Lib.hid hq
      have hcut := cutIH B N d k (by omega)
      have C1 := Lib.hid (fun X (hX : Below wr.heap.size wr X) => hC1 X (belowThen HBR.out hX))
      have HS := Lib.hid (fun X (hX : Below wr.heap.size wr X) => (⟨hX, (HK.out X (belowThen HBR.out hX)).1, (HK.out X (belowThen HBR.out hX)).2.1⟩ : Below wr.heap.size wr X ∧ X.cell? ⟨w.heap.size, 0, none⟩ = some (.int .i64 N) ∧ X.cell? ⟨w.heap.size, 1, none⟩ = some (.slice A n c)))
      have HS0 := HS.out wr.drew ((Below.refl _ wr).drew)
      have hk0 : (0 : Int) ≤ k := by omega
      have hk1 : (k : Int) < N := by omega
      clear hC1 hsrt ham hoa haok hnL hq k0 k1
      go_wp2_with fail
      go_region_held3 (fun X => Below wr.heap.size wr X ∧ X.cell? ⟨w.heap.size, 0, none⟩ = some (.int .i64 N) ∧ X.cell? ⟨w.heap.size, 1, none⟩ = some (.slice A n c)) (first | assumption | exact HS.out _ (by assumption)) (first
        | (go_at_call 24; refine (C1.out _ (‹Below wr.heap.size wr _ ∧ _›).1).mono ?_; rintro e u1 ⟨v8, rfl, o8, y1⟩; have q1 := belowThen (‹Below wr.heap.size wr _ ∧ _›).1 y1; clear C1))
      obtain ⟨A8, c8, rfl, r8, _⟩ := o8.rd
      have hl8 : (nI nL).length = q := by unfold nI; rw [List.length_map, HQ.out]
      rw [hl8]
      have hle8 := r8.le
      have hmx8 := r8.max
      rw [hl8] at hle8
      unfold maxLen at hmx8
      have H8 := Lib.hid r8
      have HB1 := Lib.hid (belowThen HBR.out q1)
      clear o8 r8 y1 q1 hl8 HBR HS HS0
      go_wp2_with fail
      go_loopw [9, 12] (fun r' i wr => ∃ (j rj : Nat), j ≤ q ∧ r' = .int .i64 rj ∧ i = .int .i64 j ∧ Hid (RkIn N (hasP l) k (maskL (nats (o.take k))) r a (nL.take j) rj) ∧ Hid (∀ b ∈ nL.take j, b < a) ∧ Hid (Below u1.heap.size u1 wr)) (fun _ i _ => q - (intOf i).toNat)
      case atStart => exact ⟨0, r, Nat.zero_le _, rfl, rfl, Lib.hid rkIn0, Lib.hid (fun _ h => by cases h), Lib.hid (Below.refl _ _)⟩
      case round =>
        obtain ⟨j, rj, hj, rfl, rfl, HIN, HLT, HBI⟩ := hrel
        by_cases hjq : j < q
        · have hjl : j < nL.length := by rw [HQ.out]; exact hjq
          obtain ⟨b, hb⟩ : ∃ b, nL[j] = b := ⟨_, rfl⟩
          have hsp : nL = nL.take j ++ b :: nL.drop (j + 1) := by
            rw [← hb, ← List.drop_eq_getElem_cons hjl, List.take_append_drop]
          obtain ⟨ad, eA, hbk, hcx⟩ := (H8.out.below HBI.out).one (k := j) (by unfold nI; rw [List.length_map]; exact hjl)
          have enx : (nI nL)[j]'(by unfold nI; rw [List.length_map]; exact hjl) = (b : Int) := by
            show (nL.map Int.ofNat)[j]'_ = _
            rw [List.getElem_map, hb]
            rfl
          rw [enx] at hcx
          have HBJ := Lib.hid (belowThen HB1.out HBI.out)
          obtain ⟨ad2, eB, hbk2, hcy⟩ := (HRO.out wr HBJ.out).one hko
          rw [HOA.out] at hcy
          subst eA
          subst eB
          have hj0 : (0 : Int) ≤ j := by omega
          have hj1 : (j : Int) < q := by omega
          have HSP := Lib.hid hsp
          have HBE := Lib.hid hb
          have HC2 := Lib.hid (fun X (hX : Below wr.heap.size wr X) => (hX.cell (p := ad.add j) (by rw [addBlock]; exact hbk)).trans hcx)
          have d1 : decide ((j : Int) < (q : Int)) = true := decide_eq_true hj1
          clear hsp hb enx
          by_cases hba : b < a
          · have d2 : decide ((b : Int) < (a : Int)) = true := decide_eq_true (by omega)
            obtain ⟨v, hv⟩ : ∃ v, ways N (hasP l) (N - (k + 1)) (addS (maskL (nats (o.take k))) b) = v := ⟨_, rfl⟩
            have hmiss := rkMiss HT.out hko hlt HOA.out (show b ≠ a by omega) (HNL.out.trans HSP.out) HIN.out
            rw [hv] at hmiss
            have hbnd : rj + v ≤ 16777216 := Nat.le_trans hmiss.2 (Nat.le_of_lt HBG.out)
            have hwrap : IntKind.i64.wrap ((rj : Int) + (v : Int)) = ((rj + v : Nat) : Int) := by rw [IntKind.wrap_i64]; omega
            have HIN2 := Lib.hid hmiss.1
            have hlen1 : (nats (o.take k)).length = k := by unfold nats; rw [List.length_map, List.length_take, HM.out]; omega
            have hlen2 : (nats (o.take k) ++ [b]).length = k + 1 := by rw [List.length_append, hlen1]; rfl
            have hokb : okL N (hasP l) 0 (nats (o.take k) ++ [b]) = true := by
              refine okLApp (by rw [natsTakeE]; exact okLTake k HOKL.out) ?_
              have : (nats (o.take k)).foldl addS 0 = maskL (nats (o.take k)) := rfl
              rw [this, HNL.out, HSP.out]
              simp
            have hway : ways N (hasP l) (N - (nats (o.take k) ++ [b]).length) (maskL (nats (o.take k) ++ [b])) = v := by rw [hlen2, maskApp]; exact hv
            have hpre : nI (nats (o.take k) ++ [b]) = o.take k ++ [(b : Int)] := by
              have h := nINats HOI.out k
              unfold nI at h ⊢
              rw [List.map_append, h]
              rfl
            have HCN := Lib.hid (fun (qq : Nat) (hq : (afA l (o.take k ++ [(b : Int)]) N (k + 1)).length = qq) A' c' X (hr : Rp X A' c' (afA l (o.take k ++ [(b : Int)]) N (k + 1))) => by
              have h := rCntOf hN HCY.out hokb hway qq
              rw [hpre, hlen2] at h
              exact h hq A' c' X hr)
            have hlok : (o.take k).length = k := by rw [List.length_take, HM.out]; omega
            have hl5 : (o.take k ++ [(b : Int)]).length = k + 1 := by rw [List.length_append, hlok]; rfl
            have HA5 := Lib.hid (fun B' d' X (hX : Below W.heap.size W X) (hr : Rd X B' d' (o.take k ++ [(b : Int)])) => HAF.out (o.take k ++ [(b : Int)]) (k + 1) hl5 (by omega) B' d' X hX hr)
            have hN5 : ([] : List Int).length + (o.take k).length ≤ 1000000 := by rw [hlok]; simp; omega
            clear hmiss hv hokb hway hpre hlen1 hlen2
            go_wp2_with fail
            go_quiet (fail)
            obtain ⟨X5, hX5⟩ : ∃ X5, wr.drewN nq = X5 := ⟨_, rfl⟩
            have hb5 : Below wr.heap.size wr X5 := by rw [← hX5]; exact belowDrewN (Below.refl _ wr) nq
            rw [hX5]
            clear hX5
            obtain ⟨Y0, hY0⟩ : ∃ Y0, X5.alloc (.cells #[] 3) = Y0 := ⟨_, rfl⟩
            have hb0' : Below wr.heap.size wr Y0 := by rw [← hY0]; exact belowThen hb5 (belowAlloc _ _)
            have HY0 : Hid (OwnI Y0 wr.heap.size (.slice (some ⟨X5.heap.size, 0, none⟩) 0 0) []) := by rw [← hY0]; exact Lib.hid (OwnI.made X5 wr.heap.size hb5.size)
            have HRp0 := Lib.hid ((HRO.out Y0 (belowThen HBJ.out hb0')).take k (by rw [HM.out]; omega))
            have HB0' := Lib.hid hb0'
            have hz0 := hb0'.size
            clear hb0' hb5 hcx hcy
            go_wp2_with (at_builtin; first
              | (refine appI Y0 rfl (.tmp 61) (.tmp 64) rfl wr.heap.size _ [] rfl HY0.out (some ad2) k d (o.take k) rfl hlok.symm HRp0.out hN5 hz0 ?_; intro v4 w4 o4 _ b4; have o4' : OwnI w4 wr.heap.size v4 (o.take k) := (by simpa using o4); obtain ⟨A4, c4, rfl, _, _⟩ := o4'.rd; rw [hlok] at o4'; have HO4 := Lib.hid o4'; have HB4 := Lib.hid (HB0'.out.trans b4); have hz4 := HB4.out.size; have hc4 := HC2.out _ HB4.out; clear o4 o4' b4)
              | (refine appI _ rfl (.tmp 66) (.tmp 71) rfl wr.heap.size _ (o.take k) rfl (HO4.out.alloc _) (some ⟨_, 0, none⟩) 1 1 [(b : Int)] rfl rfl (litI _ _) (by rw [hlok, List.length_singleton]; omega) (by simp; omega) ?_; intro v5 w5 o5 _ b5; obtain ⟨A5, c5, rfl, r5, _⟩ := o5.rd; rw [hl5]; have HR5 := Lib.hid r5; have HB5 := Lib.hid (stepA HB4.out b5); obtain ⟨kk0, kk1, _, _⟩ := HK.out w5 (belowThen HBJ.out HB5.out); clear o5 b5 r5))
            refine (HA5.out A5 c5 w5 (belowThen HBJ.out HB5.out) HR5.out).mono ?_
            rintro e w6 ⟨A6, c6, rfl, r6, b6⟩
            obtain ⟨q6, hq6⟩ : ∃ q6, (afA l (o.take k ++ [(b : Int)]) N (k + 1)).length = q6 := ⟨_, rfl⟩
            rw [hq6]
            have HR6 := Lib.hid r6
            have HQ6 := Lib.hid hq6
            have HB6 := Lib.hid (belowThen HB5.out b6)
            clear r6 hq6 b6 kk0 kk1
            go_wp2_with fail
            refine (HCN.out q6 HQ6.out A6 c6 w6 HR6.out).mono ?_
            rintro e w7 ⟨rfl, b7⟩
            have HB7 := Lib.hid (belowThen HBI.out (belowThen HB6.out b7))
            clear b7
            have HIN3 : Hid (RkIn N (hasP l) k (maskL (nats (o.take k))) r a (nL.take (j + 1)) (rj + v)) := Lib.hid (by
              have h := HIN2.out
              rw [← HBE.out, ← List.take_succ_eq_append_getElem hjl] at h
              exact h)
            have HLT3 : Hid (∀ x ∈ nL.take (j + 1), x < a) := Lib.hid (fun x hx => by
              rw [List.take_succ_eq_append_getElem hjl, HBE.out, List.mem_append, List.mem_singleton] at hx
              rcases hx with hx | rfl
              · exact HLT.out x hx
              · exact hba)
            go_wp2_with fail
            go_roundw
            case rel => exact ⟨j + 1, rj + v, hjq, by go_num, by go_num, HIN3, HLT3, HB7⟩
            case measure => simp [intOf]; omega
          · have d2 : decide ((b : Int) < (a : Int)) = false := decide_eq_false (by omega)
            have hba2 : b = a := by
              have hin : a ∈ nL.take j ++ b :: nL.drop (j + 1) := by rw [← HSP.out]; exact HAM.out
              rcases List.mem_append.1 hin with h | h
              · exact absurd h HIN.out.no
              · rcases List.mem_cons.1 h with h | h
                · exact h.symm
                · have hs := HSRT.out
                  rw [HSP.out, List.pairwise_append] at hs
                  have := (List.pairwise_cons.1 hs.2.1).1 a h
                  omega
            subst hba2
            have HNX2 := Lib.hid (rkHit HT.out hko hlt HOA.out (by rw [HNL.out]; exact HAM.out) HAOK.out (HNL.out.trans HSP.out) HIN.out)
            have hmk : addS (maskL (nats (o.take k))) b = maskL (nats (o.take (k + 1))) := by rw [natsSucc hko HOA.out, maskApp]
            rw [hmk] at HNX2
            clear hmk
            have HBD := Lib.hid (fun n => belowThen HBJ.out (belowDrewN (Below.refl _ wr) n))
            go_wp2_with fail
            go_quiet (fail)
            go_wp2_with fail
            go_roundw
            case rel => exact ⟨k + 1, rj, hlt, rfl, by go_num, HNX2, Lib.hid (HBD.out _)⟩
            case measure => simp [intOf]; omega
        · exfalso
          have hj2 : j = q := by omega
          have h := HIN.out.no
          rw [hj2, ← HQ.out, List.take_length] at h
          exact h HAM.out
    · have hkN : k = N := by omega
      have HD := Lib.hid (rkDone HT.out (by rw [HM.out]; omega))
      have HF := Lib.hid (belowThen HBW.out HBR.out)
      rw [HR.out] at HD
      clear HT HBR
      go_wp2
      go_ret2
      rw [HD.out]
      exact ⟨rfl, HF.out⟩
end Go.Proofs.YtjioiaeiggjneaaDoor

/-
  The specification's Nth.
-/
namespace Go.Proofs.YtjioiaeiggjneaaDoor
open Go Go.RowKit

/-- How long a slice is. -/
def lenN : Value → Nat
  | .slice _ n _ => n
  | _ => 0
theorem wrapN {a b : Nat} (h : a ≤ 16777216) (hb : b ≤ a) : IntKind.i64.wrap ((a : Int) - (b : Int)) = ((a - b : Nat) : Int) := by
  rw [IntKind.wrap_i64]; omega
theorem nthOk {N : Nat} {f : Nat → Nat → Bool} {i0 k s i : Nat} {pre : List Nat} (_h : NtTo N f i0 k s i pre) (ho : okL N f 0 pre = true) (hs : s = maskL pre) {b : Nat} (hb : b ∈ nxtL N f s) : okL N f 0 (pre ++ [b]) = true := by
  refine okLApp ho ?_
  have : pre.foldl addS 0 = s := hs.symm
  rw [this]
  exact hb
set_option maxRecDepth 100000 in
theorem rNthNo (N : Int) (l : Prs) (n : Nat) (hn : l.length = n) (hc : acyR N l = false) (A : Option Addr) (c : Nat) (i : Int) (w : World) (ha : Rp w A c l) :
    Calls Tryd.prog 9 #[relV N A n c, .int .i64 i] w fun e w' => e = .returned (.tuple #[.slice none 0 0, .int .i64 (errA N l)]) ∧ Below w.heap.size w w' := by
  obtain ⟨W, hW⟩ : ∃ W, w.alloc (.cells #[.int .i64 N, .slice A n c] 24) = W := ⟨_, rfl⟩
  have hbW : Below w.heap.size w W := by rw [← hW]; exact belowAlloc w _
  have HB : Hid (BoxR W w.heap.size N (.slice A n c)) := by rw [← hW]; exact Lib.hid (BoxR.new w N _)
  obtain ⟨k0, k1, _, _⟩ := HB.out.facts
  have HV := Lib.hid (rCountNo N l n hn hc A c W (ha.below hbW))
  have hz := (errNz hc).2
  have HBW := Lib.hid hbW
  have HW := Lib.hid hW
  generalize errA N l = r at HV hz ⊢
  clear hbW hW ha hc
  go_enter Tryd.func9, Tryd.ntmps9
  go_wp2_with fail
  rw [HW.out]
  refine HV.out.mono ?_
  rintro e w1 ⟨rfl, b1⟩
  go_wp2
  go_ret2
  exact ⟨rfl, belowThen HBW.out b1⟩
set_option maxRecDepth 100000 in
set_option maxHeartbeats 1000000 in
theorem rNthOut (N : Nat) (hN : N ≤ 8) (l : Prs) (n : Nat) (hn : l.length = n) (hc : acyR N l = true) (A : Option Addr) (c : Nat) (i : Int) (hi : i < 0 ∨ (ways N (hasP l) N 0 : Int) ≤ i) (w : World) (ha : Rp w A c l) :
    Calls Tryd.prog 9 #[relV N A n c, .int .i64 i] w fun e w' => e = .returned (.tuple #[.slice none 0 0, .int .i64 2]) ∧ Below w.heap.size w w' := by
  obtain ⟨W, hW⟩ : ∃ W, w.alloc (.cells #[.int .i64 N, .slice A n c] 24) = W := ⟨_, rfl⟩
  have hbW : Below w.heap.size w W := by rw [← hW]; exact belowAlloc w _
  have HB : Hid (BoxR W w.heap.size N (.slice A n c)) := by rw [← hW]; exact Lib.hid (BoxR.new w N _)
  obtain ⟨k0, k1, _, _⟩ := HB.out.facts
  have HV := Lib.hid (rCountOk N hN l n hn hc A c W (ha.below hbW))
  have HBW := Lib.hid hbW
  have HW := Lib.hid hW
  generalize ways N (hasP l) N 0 = wt at HV hi
  clear hbW hW ha hc
  by_cases h0 : i < 0
  · clear hi
    go_enter Tryd.func9, Tryd.ntmps9
    go_wp2_with fail
    rw [HW.out]
    refine HV.out.mono ?_
    rintro e w1 ⟨rfl, b1⟩
    have HX := Lib.hid (belowThen HBW.out b1)
    go_wp2
    all_goals first
      | (exfalso; omega)
      | (go_ret2; exact ⟨rfl, HX.out⟩)
  · have h1 : (wt : Int) ≤ i := by omega
    clear hi
    go_enter Tryd.func9, Tryd.ntmps9
    go_wp2_with fail
    rw [HW.out]
    refine HV.out.mono ?_
    rintro e w1 ⟨rfl, b1⟩
    have HX := Lib.hid (belowThen HBW.out b1)
    go_wp2
    all_goals first
      | (exfalso; omega)
      | (go_ret2; exact ⟨rfl, HX.out⟩)
set_option maxRecDepth 100000 in
set_option maxHeartbeats 8000000 in
theorem rNthOk (N : Nat) (hN : N ≤ 8) (l : Prs) (n : Nat) (hn : l.length = n) (hs : n ≤ 60) (hc : acyR N l = true) (A : Option Addr) (c : Nat) (j0 : Nat) (hj : j0 < ways N (hasP l) N 0) (w : World) (ha : Rp w A c l) :
    Calls Tryd.prog 9 #[relV N A n c, .int .i64 (j0 : Int)] w fun e w' => ∃ A' c', e = .returned (.tuple #[.slice A' N c', .int .i64 0]) ∧ Rd w' A' c' (nI (nthL N (hasP l) N 0 j0)) ∧ (nthL N (hasP l) N 0 j0).length = N ∧ Below w.heap.size w w' := by
  obtain ⟨W, hW⟩ : ∃ W, w.alloc (.cells #[.int .i64 N, .slice A n c] 24) = W := ⟨_, rfl⟩
  have hbW : Below w.heap.size w W := by rw [← hW]; exact belowAlloc w _
  have HB : Hid (BoxR W w.heap.size N (.slice A n c)) := by rw [← hW]; exact Lib.hid (BoxR.new w N _)
  obtain ⟨k0, k1, kf0, _⟩ := HB.out.facts
  have HK := Lib.hid (fun X (hX : Below W.heap.size W X) => (HB.out.below hX).facts)
  have HC := Lib.hid (fun X (hX : Below W.heap.size W X) => rCountOk N hN l n hn hc A c X ((ha.below hbW).below hX))
  have HNX := Lib.hid (fun (pre : List Nat) (k : Nat) (hk : pre.length = k) B d X (hX : Below W.heap.size W X) (hr : Rd X B d (nI pre)) => by
    have h := rNext N (by omega) l n hn A c (nI pre) k (by unfold nI; rw [List.length_map, hk]) B d X ((ha.below hbW).below hX) hr
    rw [nxEq (acyOk hc)] at h
    exact h)
  have HAF := Lib.hid (fun (x : List Int) (m : Nat) (hm : x.length = m) (hm8 : m ≤ 8) B d X (hX : Below W.heap.size W X) (hr : Rd X B d x) => rAfter N hN l n hn hs A c x m hm hm8 B d X ((ha.below hbW).below hX) hr)
  have hbig := Nat.le_of_lt (Nat.lt_of_lt_of_le hj (waysLe8 hN (acyQ hc)))
  have HST := Lib.hid (ntStart hj)
  have HCY := Lib.hid hc
  obtain ⟨wt, hwt⟩ : ∃ wt, ways N (hasP l) N 0 = wt := ⟨_, rfl⟩
  rw [hwt] at HC hj
  have hj1 : (j0 : Int) < wt := by omega
  have d01 : decide ((j0 : Int) < 0) = false := decide_eq_false (by omega)
  have d02 : decide (wt ≤ j0) = false := decide_eq_false (by omega)
  have d03 : decide ((wt : Int) ≤ (j0 : Int)) = false := decide_eq_false (by omega)
  have HBW := Lib.hid hbW
  have HWE := Lib.hid hW
  clear hbW hW ha hc hwt
  go_enter Tryd.func9, Tryd.ntmps9
  go_wp2_with fail
  rw [HWE.out]
  refine (HC.out W (Below.refl _ _)).mono ?_
  rintro e w1 ⟨rfl, b1⟩
  obtain ⟨V, hV⟩ : ∃ V, w1.alloc (.cells #[] 3) = V := ⟨_, rfl⟩
  have hbV : Below w1.heap.size w1 V := by rw [← hV]; exact belowAlloc w1 _
  have HR0 : Hid (Rd V (some ⟨w1.heap.size, 0, none⟩) 0 (nI [])) := by
    rw [← hV]
    obtain ⟨A0, c0, e, h, _⟩ := (OwnI.made w1 w1.heap.size (Nat.le_refl _)).rd
    cases e
    exact Lib.hid h
  have HBV := Lib.hid (belowThen b1 hbV)
  clear k0 k1 kf0
  obtain ⟨k0, k1, _, _⟩ := HK.out V HBV.out
  clear b1 hbV
  go_wp2_with fail
  all_goals first
    | (exfalso; omega)
    | skip
  try rw [hV]
  clear hV k0 k1
  go_loopw [1, 8] (fun iv v wr => ∃ (k i : Nat) (pre : List Nat), k ≤ N ∧ iv = .int .i64 i ∧ i ≤ 16777216 ∧ Hid (NtTo N (hasP l) j0 k (maskL pre) i pre) ∧ Hid (okL N (hasP l) 0 pre = true) ∧ (∃ A8 c8, v = .slice A8 k c8 ∧ Hid (Rd wr A8 c8 (nI pre))) ∧ Hid (Below W.heap.size W wr)) (fun _ v _ => N - lenN v)
  case atStart => exact ⟨0, j0, [], Nat.zero_le _, rfl, hbig, HST, Lib.hid rfl, ⟨_, _, rfl, HR0⟩, HBV⟩
  case round =>
    clear HST HR0 HBV
    obtain ⟨k, i, pre, hk, rfl, hib, HT, HOK, ⟨A8, c8, rfl, HR⟩, HBR⟩ := hrel
    obtain ⟨k0, k1, _, _⟩ := HK.out wr HBR.out
    have hpl := HT.out.len
    have hle8 := HR.out.le
    have hmx8 := HR.out.max
    have hpl2 : (nI pre).length = k := by unfold nI; rw [List.length_map, hpl]
    rw [hpl2] at hle8
    unfold maxLen at hmx8
    by_cases hlt : k < N
    · obtain ⟨nL, hnL⟩ : ∃ nL, nxtL N (hasP l) (maskL pre) = nL := ⟨_, rfl⟩
      have hC1 := HNX.out pre k hpl A8 c8 wr HBR.out HR.out
      rw [hnL] at hC1
      have C1 := Lib.hid hC1
      have HNL := Lib.hid hnL
      have hlen := nxtLen (N := N) (f := hasP l) (s := maskL pre)
      rw [hnL] at hlen
      have HNT := Lib.hid (ntIn0 HT.out hlt)
      rw [hnL] at HNT
      obtain ⟨q, hq⟩ : ∃ q, nL.length = q := ⟨_, rfl⟩
      rw [hq] at hlen
      have HQ := Lib.hid hq
      have hk0 : (0 : Int) ≤ k := by omega
      have hk1 : (k : Int) < N := by omega
      clear hC1 hnL hq
      go_wp2_with fail
      refine C1.out.mono ?_
      rintro e u1 ⟨v9, rfl, o9, y1⟩
      obtain ⟨A9, c9, rfl, r9, _⟩ := o9.rd
      have hl9 : (nI nL).length = q := by unfold nI; rw [List.length_map, HQ.out]
      rw [hl9]
      have hle9 := r9.le
      have hmx9 := r9.max
      rw [hl9] at hle9
      unfold maxLen at hmx9
      have H9 := Lib.hid r9
      have HB1 := Lib.hid (belowThen HBR.out y1)
      have HR1 := Lib.hid (HR.out.below y1)
      clear o9 r9 y1 hl9 HBR HR k0 k1
      go_wp2_with fail
      go_loopw [1, 8, 10] (fun iv v jv wr => ∃ (j i' : Nat), j ≤ q ∧ iv = .int .i64 i' ∧ i' ≤ 16777216 ∧ v = .slice A8 k c8 ∧ jv = .int .i64 j ∧ Hid (NtIn N (hasP l) k (maskL pre) i (nL.drop j) i') ∧ Hid (Below u1.heap.size u1 wr)) (fun _ _ jv _ => q - (intOf jv).toNat)
      case atStart => exact ⟨0, i, Nat.zero_le _, rfl, hib, rfl, rfl, HNT, Lib.hid (Below.refl _ _)⟩
      case round =>
        clear HNT
        obtain ⟨j, i', hj, rfl, hib', rfl, rfl, HIN, HBI⟩ := hrel
        by_cases hjq : j < q
        · have hjl : j < nL.length := by rw [HQ.out]; exact hjq
          obtain ⟨b, hb⟩ : ∃ b, nL[j] = b := ⟨_, rfl⟩
          have hsp : nL.drop j = b :: nL.drop (j + 1) := by rw [← hb, ← List.drop_eq_getElem_cons hjl]
          have hbm : b ∈ nL := by rw [← hb]; exact List.getElem_mem hjl
          obtain ⟨ad, eA, hbk, hcx⟩ := (H9.out.below HBI.out).one (k := j) (by unfold nI; rw [List.length_map]; exact hjl)
          have enx : (nI nL)[j]'(by unfold nI; rw [List.length_map]; exact hjl) = (b : Int) := by
            show (nL.map Int.ofNat)[j]'_ = _
            rw [List.getElem_map, hb]
            rfl
          rw [enx] at hcx
          have HBJ := Lib.hid (belowThen HB1.out HBI.out)
          subst eA
          have hj0 : (0 : Int) ≤ j := by omega
          have hj1 : (j : Int) < q := by omega
          have HC2 := Lib.hid (fun X (hX : Below wr.heap.size wr X) => (hX.cell (p := ad.add j) (by rw [addBlock]; exact hbk)).trans hcx)
          rw [hsp] at HIN
          have HBM := Lib.hid (show b ∈ nxtL N (hasP l) (maskL pre) by rw [HNL.out]; exact hbm)
          have hokb := nthOk HT.out HOK.out rfl HBM.out
          have HOKB := Lib.hid hokb
          obtain ⟨v, hv⟩ : ∃ v, ways N (hasP l) (N - (k + 1)) (addS (maskL pre) b) = v := ⟨_, rfl⟩
          have HVE := Lib.hid hv
          have hlen2 : (pre ++ [b]).length = k + 1 := by rw [List.length_append, hpl]; rfl
          have hway : ways N (hasP l) (N - (pre ++ [b]).length) (maskL (pre ++ [b])) = v := by rw [hlen2, maskApp]; exact hv
          have hpre : nI (pre ++ [b]) = nI pre ++ [(b : Int)] := by
            unfold nI
            rw [List.map_append]
            rfl
          have HPE := Lib.hid hpre
          have HCN := Lib.hid (fun (qq : Nat) (hq : (afA l (nI pre ++ [(b : Int)]) N (k + 1)).length = qq) A' c' X (hr : Rp X A' c' (afA l (nI pre ++ [(b : Int)]) N (k + 1))) => by
            have h := rCntOf hN HCY.out hokb hway qq
            rw [hpre, hlen2] at h
            exact h hq A' c' X hr)
          have hl5 : (nI pre ++ [(b : Int)]).length = k + 1 := by rw [List.length_append, hpl2]; rfl
          have HA5 := Lib.hid (fun B' d' X (hX : Below W.heap.size W X) (hr : Rd X B' d' (nI pre ++ [(b : Int)])) => HAF.out (nI pre ++ [(b : Int)]) (k + 1) hl5 (by omega) B' d' X hX hr)
          obtain ⟨Y0, hY0⟩ : ∃ Y0, wr.alloc (.cells #[] 3) = Y0 := ⟨_, rfl⟩
          have hb0' : Below wr.heap.size wr Y0 := by rw [← hY0]; exact belowAlloc _ _
          have HY0 : Hid (OwnI Y0 wr.heap.size (.slice (some ⟨wr.heap.size, 0, none⟩) 0 0) []) := by rw [← hY0]; exact Lib.hid (OwnI.made wr wr.heap.size (Nat.le_refl _))
          have HRp0 := Lib.hid ((HR1.out.below HBI.out).below hb0')
          have HRN := Lib.hid (fun X (hX : Below wr.heap.size wr X) => (HR1.out.below HBI.out).below hX)
          have HB0' := Lib.hid hb0'
          have hz0 := hb0'.size
          have hN5 : ([] : List Int).length + (nI pre).length ≤ 1000000 := by rw [hpl2]; simp; omega
          clear hv hokb hway hpre hb0' hlen2 hsp hb enx hbm hcx
          go_wp2_with (at_builtin; first
            | (refine appI Y0 rfl (.tmp 44) (.tmp 45) rfl wr.heap.size _ [] rfl HY0.out A8 k c8 (nI pre) rfl hpl2.symm HRp0.out hN5 hz0 ?_; intro v4 w4 o4 _ b4; have o4' : OwnI w4 wr.heap.size v4 (nI pre) := (by simpa using o4); obtain ⟨A4, c4, rfl, _, _⟩ := o4'.rd; rw [hpl2] at o4'; have HO4 := Lib.hid o4'; have HB4 := Lib.hid (HB0'.out.trans b4); have hz4 := HB4.out.size; have hc4 := HC2.out _ HB4.out; clear o4 o4' b4)
            | (refine appI _ rfl (.tmp 47) (.tmp 52) rfl wr.heap.size _ (nI pre) rfl (HO4.out.alloc _) (some ⟨_, 0, none⟩) 1 1 [(b : Int)] rfl rfl (litI _ _) (by rw [hpl2, List.length_singleton]; omega) (by simp; omega) ?_; intro v5 w5 o5 _ b5; obtain ⟨A5, c5, rfl, r5, _⟩ := o5.rd; rw [hl5]; have HR5 := Lib.hid r5; have HB5 := Lib.hid (stepA HB4.out b5); obtain ⟨kk0, kk1, _, _⟩ := HK.out w5 (belowThen HBJ.out HB5.out); clear o5 b5 r5))
          refine (HA5.out A5 c5 w5 (belowThen HBJ.out HB5.out) HR5.out).mono ?_
          rintro e w6 ⟨A6, c6, rfl, r6, b6⟩
          obtain ⟨q6, hq6⟩ : ∃ q6, (afA l (nI pre ++ [(b : Int)]) N (k + 1)).length = q6 := ⟨_, rfl⟩
          rw [hq6]
          have HR6 := Lib.hid r6
          have HQ6 := Lib.hid hq6
          have HR56 := Lib.hid (HR5.out.below b6)
          have HB6 := Lib.hid (belowThen HB5.out b6)
          clear r6 hq6 b6 kk0 kk1
          go_wp2_with fail
          refine (HCN.out q6 HQ6.out A6 c6 w6 HR6.out).mono ?_
          rintro e w7 ⟨rfl, b7⟩
          have HR57 := Lib.hid (HR56.out.below b7)
          have HB7 := Lib.hid (belowThen HBI.out (belowThen HB6.out b7))
          clear b7 HR56
          by_cases hiv : i' < v
          · have hiv2 : (i' : Int) < v := by omega
            have HNX2 := Lib.hid (ntHit HT.out hlt HBM.out HIN.out (by rw [HVE.out]; exact hiv))
            rw [← maskApp] at HNX2
            rw [← HPE.out] at HR57
            have HB8 := Lib.hid (belowThen HB1.out HB7.out)
            go_wp2_with fail
            all_goals first
              | (exfalso; omega)
              | go_roundw
            case rel => exact ⟨k + 1, i', pre ++ [b], hlt, rfl, hib', HNX2, HOKB, ⟨_, _, rfl, HR57⟩, HB8⟩
            case measure => simp [lenN]; omega
          · have hiv2 : ¬ ((i' : Int) < v) := by omega
            have HIN2 := Lib.hid (ntMiss HIN.out (by rw [HVE.out]; exact hiv))
            rw [HVE.out] at HIN2
            have hwrap := wrapN (b := v) hib' (by omega)
            go_wp2_with fail
            all_goals first
              | (exfalso; omega)
              | go_roundw
            case rel => exact ⟨j + 1, i' - v, hjq, by go_num, by omega, rfl, by go_num, HIN2, HB7⟩
            case measure => simp [intOf]; omega
        · exfalso
          have hj2 : j = q := by omega
          have h := HIN.out
          rw [hj2, ← HQ.out, List.drop_length] at h
          exact ntEnd h
    · have hkN : k = N := by omega
      subst hkN
      have HD := Lib.hid (ntDone HT.out)
      have HF := Lib.hid (belowThen HBW.out HBR.out)
      have HL := Lib.hid hpl
      clear HT HBR
      go_wp2
      go_ret2
      exact ⟨A8, c8, rfl, by rw [← HD.out]; exact HR.out, by rw [← HD.out]; exact HL.out, HF.out⟩
end Go.Proofs.YtjioiaeiggjneaaDoor

/-
  The law LinextPlaces.
-/
namespace Go.Proofs.YtjioiaeiggjneaaDoor
open Go Go.RowKit

/-- A call gives a list and an error. -/
def GivesP5 (L : List Int) (q : Nat) (E : Int) (w : World) (e : Ending) (w' : World) : Prop := ∃ A c, e = .returned (.tuple #[.slice A q c, .int .i64 E]) ∧ Rd w' A c L ∧ Below w.heap.size w w'
theorem rankBoth (N : Int) (hN : N ≤ 6) (l : Prs) (n : Nat) (hn : l.length = n) (hs : n ≤ 60) (o : List Int) (m : Nat) (hm : o.length = m) (A : Option Addr) (c : Nat) (B : Option Addr) (d : Nat) (w : World) (ha : Rp w A c l) (hT : Tbl w) (ho : Rd w B d o) : ∃ (R E : Int),
    (∀ X, Below w.heap.size w X → Calls Tryd.prog 6 #[relV N A n c, .slice B m d] X fun e w' => e = .returned (.tuple #[.int .i64 R, .int .i64 E]) ∧ Below X.heap.size X w') ∧
    (∀ X, Below w.heap.size w X → Calls Tryd.prog 7 #[relV N A n c, .slice B m d] X fun e w' => e = .returned (.tuple #[.int .i64 R, .int .i64 E]) ∧ Below X.heap.size X w') := by
  cases hc : acyR N l with
  | false => exact ⟨0, errA N l, fun X hX => iRankNo N l n hn (by omega) hc A c B m d X (ha.below hX), fun X hX => rRankNo N l n hn hc A c B m d X (ha.below hX)⟩
  | true =>
    have h0 : 0 ≤ N := by
      have := acyOk hc
      unfold okR at this
      exact (of_decide_eq_true this).1
    obtain ⟨k, rfl⟩ : ∃ k : Nat, N = k := ⟨N.toNat, by omega⟩
    have hk : k ≤ 8 := by omega
    cases hal : allowB k (hasP l) o with
    | false =>
      have hB : isB k l o = false := by
        unfold isB
        rw [Int.toNat_natCast, hal, Bool.and_false]
      exact ⟨0, 5, fun X hX => iRankNone k (by omega) l n hn (by omega) hc o m hm hal A c B d X (ha.below hX) (hT.below hX) (ho.below hX), fun X hX => rRankNone k l n hn hc o m hm hB A c B d X (ha.below hX) (ho.below hX)⟩
    | true =>
      have hw := Nat.le_trans (waysLe8 hk (acyQ hc)) (show (16777216 : Nat) ≤ 9223372036854775807 by decide)
      refine ⟨(rnk k (hasP l) k 0 (nats o) : Int), 0, fun X hX => iRankOk k (by omega) l n hn (by omega) hc (visLe hk) hw o m hm hal A c B d X (ha.below hX) (hT.below hX) (ho.below hX), fun X hX => ?_⟩
      unfold allowB at hal
      rw [Bool.and_eq_true, decide_eq_true_iff] at hal
      obtain ⟨h1, h2⟩ := hal
      obtain rfl : m = k := by omega
      exact rRankOk m hk l n hn hs hc o h1 h2 A c B d X (ha.below hX) (ho.below hX)
theorem nthBoth (N : Int) (hN : N ≤ 6) (l : Prs) (n : Nat) (hn : l.length = n) (hs : n ≤ 60) (i : Int) (A : Option Addr) (c : Nat) (w : World) (ha : Rp w A c l) (hT : Tbl w) : ∃ (L : List Int) (q : Nat) (E : Int), L.length = q ∧
    (∀ X, Below w.heap.size w X → Calls Tryd.prog 8 #[relV N A n c, .int .i64 i] X (GivesP5 L q E X)) ∧
    (∀ X, Below w.heap.size w X → Calls Tryd.prog 9 #[relV N A n c, .int .i64 i] X (GivesP5 L q E X)) := by
  cases hc : acyR N l with
  | false =>
    refine ⟨[], 0, errA N l, rfl, fun X hX => (iNthNo N l n hn (by omega) hc A c i X (ha.below hX)).mono ?_, fun X hX => (rNthNo N l n hn hc A c i X (ha.below hX)).mono ?_⟩
    · rintro e w' ⟨rfl, hb⟩
      exact ⟨none, 0, rfl, Rd.nil, hb⟩
    · rintro e w' ⟨rfl, hb⟩
      exact ⟨none, 0, rfl, Rd.nil, hb⟩
  | true =>
    have h0 : 0 ≤ N := by
      have := acyOk hc
      unfold okR at this
      exact (of_decide_eq_true this).1
    obtain ⟨k, rfl⟩ : ∃ k : Nat, N = k := ⟨N.toNat, by omega⟩
    have hk : k ≤ 8 := by omega
    have hw := Nat.le_trans (waysLe8 hk (acyQ hc)) (show (16777216 : Nat) ≤ 9223372036854775807 by decide)
    by_cases hi : i < 0 ∨ (ways k (hasP l) k 0 : Int) ≤ i
    · refine ⟨[], 0, 2, rfl, fun X hX => (iNthOut k (by omega) l n hn (by omega) hc (visLe hk) hw A c i hi X (ha.below hX) (hT.below hX)).mono ?_, fun X hX => (rNthOut k hk l n hn hc A c i hi X (ha.below hX)).mono ?_⟩
      · rintro e w' ⟨rfl, hb⟩
        exact ⟨none, 0, rfl, Rd.nil, hb⟩
      · rintro e w' ⟨rfl, hb⟩
        exact ⟨none, 0, rfl, Rd.nil, hb⟩
    · obtain ⟨j, rfl⟩ : ∃ j : Nat, i = j := ⟨i.toNat, by omega⟩
      have hj : j < ways k (hasP l) k 0 := by omega
      by_cases hlen : (nthL k (hasP l) k 0 j).length = k
      · refine ⟨nI (nthL k (hasP l) k 0 j), k, 0, by unfold nI; rw [List.length_map, hlen], fun X hX => (iNthOk k (by omega) l n hn (by omega) hc (visLe hk) hw A c j hj X (ha.below hX) (hT.below hX)).mono ?_, fun X hX => (rNthOk k hk l n hn hs hc A c j hj X (ha.below hX)).mono ?_⟩
        · rintro e w' ⟨v, rfl, ho, hb⟩
          obtain ⟨A1, c1, rfl, hr, _⟩ := OwnI.rd ho
          exact ⟨A1, c1, by rw [List.length_map, hlen], hr, hb⟩
        · rintro e w' ⟨A1, c1, rfl, hr, _, hb⟩
          exact ⟨A1, c1, rfl, hr, hb⟩
      · exfalso
        have hm2 : j < (exts k (hasP l) k 0).length := by unfold ways at hj; exact hj
        have h2 := List.getElem?_eq_getElem hm2
        have h3 := nthGet h2
        have h4 := (extsMem.1 (List.getElem_mem hm2)).1
        rw [h3] at hlen
        exact hlen h4
set_option maxRecDepth 100000 in
set_option maxHeartbeats 8000000 in
theorem lawPlaces (N : Int) (l : Prs) (n : Nat) (hn : l.length = n) (o : List Int) (m : Nat) (hm : o.length = m) (i : Int) (A : Option Addr) (c : Nat) (B : Option Addr) (d : Nat) (w : World) (ha : Rp w A c l) (ho : Rd w B d o) (hT : Tbl w) :
    Calls Tryd.prog 3 #[relV N A n c, .slice B m d, .int .i64 i] w fun e w' => e = .returned (.bool true) ∧ Below w.heap.size w w' := by
  obtain ⟨W, hW⟩ : ∃ W, w.alloc (.cells #[.int .i64 N, .slice A n c] 24) = W := ⟨_, rfl⟩
  have hbW : Below w.heap.size w W := by rw [← hW]; exact belowAlloc w _
  have HB : Hid (BoxR W w.heap.size N (.slice A n c)) := by rw [← hW]; exact Lib.hid (BoxR.new w N _)
  obtain ⟨k0, k1, _, _⟩ := HB.out.facts
  have HK := Lib.hid (fun X (hX : Below W.heap.size W X) => (HB.out.below hX).facts)
  have HAW := Lib.hid (fun X (hX : Below W.heap.size W X) => awOk X ((hT.below hbW).below hX))
  have HFW := Lib.hid (lFew N n 6 A c W)
  have hle := ho.le
  have hmx := ho.max
  rw [hm] at hle
  unfold maxLen at hmx
  have haW := ha.below hbW
  have hoW := ho.below hbW
  have hTW := hT.below hbW
  have HBW := Lib.hid hbW
  have HW := Lib.hid hW
  clear hbW hW ha ho hT
  cases hf : fewB N n 6 with
  | false =>
    rw [hf] at HFW
    clear hf
    go_enter Tryd.func3, Tryd.ntmps3
    go_wp2_with fail
    rw [HW.out]
    refine HFW.out.mono ?_
    rintro e w1 ⟨rfl, b1⟩
    go_wp2_with fail
    refine (HAW.out w1 b1).mono ?_
    rintro e w2 ⟨rfl, b2⟩
    go_wp2
    go_ret
    exact ⟨rfl, belowThen HBW.out (belowThen b1 b2)⟩
  | true =>
    rw [hf] at HFW
    unfold fewB at hf
    simp only [Bool.and_eq_true, decide_eq_true_eq] at hf
    by_cases h30 : 30 < m
    · have h31 : decide ((30 : Int) < m) = true := decide_eq_true (by omega)
      clear hf
      go_enter Tryd.func3, Tryd.ntmps3
      go_wp2_with fail
      rw [HW.out]
      refine HFW.out.mono ?_
      rintro e w1 ⟨rfl, b1⟩
      go_wp2_with fail
      all_goals first
        | (exfalso; omega)
        | skip
      refine (HAW.out w1 b1).mono ?_
      rintro e w2 ⟨rfl, b2⟩
      go_wp2
      go_ret
      exact ⟨rfl, belowThen HBW.out (belowThen b1 b2)⟩
    · have h31 : decide ((30 : Int) < m) = false := decide_eq_false (by omega)
      obtain ⟨R, E, hR1, hR2⟩ := rankBoth N hf.1 l n hn (by omega) o m hm A c B d W haW hTW hoW
      obtain ⟨L, q, F, hq, hF1, hF2⟩ := nthBoth N hf.1 l n hn (by omega) i A c W haW hTW
      have HR1 := Lib.hid hR1
      have HR2 := Lib.hid hR2
      have HF1 := Lib.hid hF1
      have HF2 := Lib.hid hF2
      have HQ := Lib.hid hq
      clear hf hq hF1 hF2 hR1 hR2 haW hTW hoW
      go_enter Tryd.func3, Tryd.ntmps3
      go_wp2_with fail
      rw [HW.out]
      refine HFW.out.mono ?_
      rintro e w1 ⟨rfl, b1⟩
      clear k0 k1
      obtain ⟨k0, k1, _, _⟩ := HK.out w1 b1
      go_wp2_with fail
      all_goals first
        | (exfalso; omega)
        | skip
      refine (HR1.out w1 b1).mono ?_
      rintro e w2 ⟨rfl, b2⟩
      have B2 := belowThen b1 b2
      clear k0 k1
      obtain ⟨k0, k1, _, _⟩ := HK.out w2 B2
      go_wp2_with fail
      refine (HR2.out w2 B2).mono ?_
      rintro e w3 ⟨rfl, b3⟩
      have B3 := belowThen B2 b3
      clear k0 k1
      obtain ⟨k0, k1, _, _⟩ := HK.out w3 B3
      go_wp2_with fail
      refine (HF1.out w3 B3).mono ?_
      rintro e w4 ⟨A1, c1, rfl, r1, b4⟩
      have B4 := belowThen B3 b4
      clear k0 k1
      obtain ⟨k0, k1, _, _⟩ := HK.out w4 B4
      go_wp2_with fail
      refine (HF2.out w4 B4).mono ?_
      rintro e w5 ⟨A2, c2, rfl, r2, b5⟩
      have B5 := belowThen B4 b5
      have HQ1 := Lib.hid (r1.below b5)
      have HQ2 := Lib.hid r2
      clear k0 k1 r1 r2
      go_wp2_with fail
      refine (HAW.out w5 B5).mono ?_
      rintro e w6 ⟨rfl, b6⟩
      have B6 := belowThen B5 b6
      go_wp2_with fail
      refine (intsEq L q q HQ.out HQ.out A1 A2 c1 c2 w6 (HQ1.out.below b6) (HQ2.out.below b6)).mono ?_
      rintro e w7 ⟨rfl, b7⟩
      have B7 := belowThen B6 b7
      go_wp2
      go_ret
      exact ⟨rfl, belowThen HBW.out B7⟩
end Go.Proofs.YtjioiaeiggjneaaDoor
