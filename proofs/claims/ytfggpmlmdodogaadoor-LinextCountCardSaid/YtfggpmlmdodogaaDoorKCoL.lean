/-
  The specification's levels.
-/
import Derived.Test.YtfggpmlmdodogaaDoorKLvA
import Derived.BigQuiet
import Derived.Deep.RegionWith
import Derived.StillTailTactics
import Derived.Test.YtfggpmlmdodogaaDoorKCnt
import Derived.Test.YtfggpmlmdodogaaDoorKLFw
import Derived.Test.YtfggpmlmdodogaaDoorKLkLaid
import Derived.Test.YtfggpmlmdodogaaDoorCards
import Derived.SevenTiedAt
import Derived.ShutString
import Derived.ChangeMaps5
import Derived.Carry
namespace Go.Proofs.YtfggpmlmdodogaaDoor
open Go Go.RowKit

theorem results_tct {fn : Func} {t p u : Tmp} {ty : TypeId} (h : fn.results = #[.tmp t, .cell p ty, .tmp u]) (tmps : Array Value) (P : Program) (w : World) :
    (results fn tmps).run P w =
      ((asAddr (tmps.getD p undef)).run P w).andThen fun a w₁ => ((loadVar ty a).run P w₁).andThen fun v w₂ => .ok (.tuple #[tmps.getD t undef, v, tmps.getD u undef]) w₂ := by
  simp only [results, h]
  simp [Sem.run_bind, Result.andThen]
theorem Blk.res3 {W : World} {b : Nat} {T : TypeId} {cs : Array Value} {P : Program} (h : Blk W b T cs) {fn : Func} {t p u : Tmp} {ty : TypeId} (hf : fn.results = #[.tmp t, .cell p ty, .tmp u]) (tmps : Array Value) (hp : tmps.getD p undef = .pointer (some ⟨b, 0, none⟩)) {d : TypeDesc}
    (hu : P.underlying ty = some d) (hd : (match d with | .struct _ | .array _ _ => true | _ => false) = true) (hi : (P.info? ty).map (·.size) = some cs.size) : (results fn tmps).run P W = .ok (.tuple #[tmps.getD t undef, .agg cs, tmps.getD u undef]) W := by
  have hp' : tmps[p]?.getD undef = .pointer (some ⟨b, 0, none⟩) := by simpa using hp
  rw [results_tct hf]
  simp [hp', asAddr, run_loadVar_row W b T ty cs (0, 0) d h hu hd hi]
theorem ownOfBlk {W : World} {base g : Nat} {T : TypeId} {c : Value} (h : Blk W g T #[c]) (hb : base ≤ g) : W.ownsRow base T 1 (.slice (some ⟨g, 0, none⟩) 1 1) 1 [c] :=
  ⟨rfl, .inr ⟨g, 1, _, rfl, hb, h, Nat.le_refl _, by decide, rfl, rfl⟩⟩
/-- Between two levels: the relation's box, the result's, the box and the rows of the level. -/
structure LvS (w V : World) (N : Int) (v a b : Value) (P : List (Nat × Nat)) : Prop where
  g : BoxR V w.heap.size N v
  r : Blk V (w.heap.size + 1) 53 #[.slice none 0 0, .slice none 0 0, .bool false]
  k : Blk V (w.heap.size + 1 + 1 + 1 + 1) 53 #[a, b, .bool false]
  s : OwnU V w.heap.size a (P.map (·.1))
  u : OwnI V w.heap.size b (wysI P)
  d : Below w.heap.size w V
/-- While a level is made: its box is block V.heap.size. -/
structure LvN (V X : World) (a b : Value) (Q : List (Nat × Nat)) : Prop where
  k : Blk X V.heap.size 53 #[a, b, .bool false]
  o : LvO X (V.heap.size + 1) a b Q
  d : Below V.heap.size V X
theorem lvStart (w : World) (N : Int) (v : Value) : LvS w (((((w.alloc (.cells #[.int .i64 N, v] 24)).alloc (.cells #[.slice none 0 0, .slice none 0 0, .bool false] 53)).alloc (.cells #[.int .u64 0] 56)).alloc (.cells #[.int .i64 1] 3)).alloc (.cells #[.slice (some ⟨w.heap.size + 1 + 1, 0, none⟩) 1 1, .slice (some ⟨w.heap.size + 1 + 1 + 1, 0, none⟩) 1 1, .bool false] 53)) N v (.slice (some ⟨w.heap.size + 1 + 1, 0, none⟩) 1 1) (.slice (some ⟨w.heap.size + 1 + 1 + 1, 0, none⟩) 1 1) [(0, 1)] := by
  obtain ⟨W1, h1⟩ : ∃ W1, w.alloc (.cells #[.int .i64 N, v] 24) = W1 := ⟨_, rfl⟩
  have z1 : W1.heap.size = w.heap.size + 1 := by rw [← h1]; simp
  have b1 : BoxR W1 w.heap.size N v := by rw [← h1]; exact BoxR.new w N v
  have d1 : Below w.heap.size w W1 := by rw [← h1]; exact belowAlloc w _
  rw [h1]
  obtain ⟨W2, h2⟩ : ∃ W2, W1.alloc (.cells #[.slice none 0 0, .slice none 0 0, .bool false] 53) = W2 := ⟨_, rfl⟩
  have z2 : W2.heap.size = w.heap.size + 1 + 1 := by rw [← h2, ← z1]; simp
  have b2 : Blk W2 (w.heap.size + 1) 53 #[.slice none 0 0, .slice none 0 0, .bool false] := by rw [← h2, ← z1]; exact Blk.new W1 _ _
  have d2 : Below W1.heap.size W1 W2 := by rw [← h2]; exact belowAlloc W1 _
  rw [h2]
  obtain ⟨W3, h3⟩ : ∃ W3, W2.alloc (.cells #[.int .u64 0] 56) = W3 := ⟨_, rfl⟩
  have z3 : W3.heap.size = w.heap.size + 1 + 1 + 1 := by rw [← h3, ← z2]; simp
  have b3 : Blk W3 (w.heap.size + 1 + 1) 56 #[.int .u64 0] := by rw [← h3, ← z2]; exact Blk.new W2 _ _
  have d3 : Below W2.heap.size W2 W3 := by rw [← h3]; exact belowAlloc W2 _
  rw [h3]
  obtain ⟨W4, h4⟩ : ∃ W4, W3.alloc (.cells #[.int .i64 1] 3) = W4 := ⟨_, rfl⟩
  have z4 : W4.heap.size = w.heap.size + 1 + 1 + 1 + 1 := by rw [← h4, ← z3]; simp
  have b4 : Blk W4 (w.heap.size + 1 + 1 + 1) 3 #[.int .i64 1] := by rw [← h4, ← z3]; exact Blk.new W3 _ _
  have d4 : Below W3.heap.size W3 W4 := by rw [← h4]; exact belowAlloc W3 _
  rw [h4]
  obtain ⟨cs, hcs⟩ : ∃ cs : Array Value, #[.slice (some ⟨w.heap.size + 1 + 1, 0, none⟩) 1 1, .slice (some ⟨w.heap.size + 1 + 1 + 1, 0, none⟩) 1 1, .bool false] = cs := ⟨_, rfl⟩
  rw [hcs]
  obtain ⟨W5, h5⟩ : ∃ W5, W4.alloc (.cells cs 53) = W5 := ⟨_, rfl⟩
  have b5 : Blk W5 (w.heap.size + 1 + 1 + 1 + 1) 53 cs := by rw [← h5, ← z4]; exact Blk.new W4 _ _
  have d5 : Below W4.heap.size W4 W5 := by rw [← h5]; exact belowAlloc W4 _
  rw [h5]
  rw [← hcs] at b5
  exact ⟨(((b1.below d2).below d3).below d4).below d5, ((b2.below' d3).below' d4).below' d5, b5, ownOfBlk ((b3.below' d4).below' d5) (by omega), ownOfBlk (b4.below' d5) (by omega), belowThen (belowThen (belowThen (belowThen d1 d2) d3) d4) d5⟩
theorem OwnU.sl {w : World} {base : Nat} {v : Value} {l : List Nat} (h : OwnU w base v l) : ∃ A q c, v = .slice A q c := let ⟨A, c, e, _⟩ := h.rd; ⟨A, _, c, e⟩
theorem OwnI.sl {w : World} {base : Nat} {v : Value} {l : List Int} (h : OwnI w base v l) : ∃ A q c, v = .slice A q c := let ⟨A, c, e, _⟩ := h.rd; ⟨A, _, c, e⟩
theorem LvN.to {V X : World} {a b : Value} {Q R : List (Nat × Nat)} (h : LvN V X a b Q) (e : Q = R) : LvN V X a b R := e ▸ h
theorem LvN.chg {V X Y : World} {a b : Value} {Q : List (Nat × Nat)} (h : LvN V X a b Q) (hb : Below X.heap.size X Y) : LvN V Y a b Q := ⟨h.k.below' hb, h.o.chg hb, h.d.trans (hb.mono h.d.size)⟩
theorem ownSetB {X : World} {base : Nat} {e T : TypeId} {v : Value} {n g : Nat} {xs : List Value} {cs : Array Value} (h : X.ownsRow base e 1 v n xs) (hk : Blk X g T cs) (hne : e ≠ T) (i : Nat) (u : Value) : (X.setCell ⟨g, i, none⟩ u).ownsRow base e 1 v n xs :=
  ownChg h (Chg.setCell X ⟨g, i, none⟩ u) fun q hq e1 => ownNeBlk h hk hne (by rw [hq, e1])
/-- The level made becomes the level to go on from. -/
theorem lvTurn {w V X : World} {N : Int} {v a b a' b' : Value} {P Q : List (Nat × Nat)} (h : LvS w V N v a b P) (hN : LvN V X a' b' Q) : LvS w (((X.setCell ⟨w.heap.size + 1 + 1 + 1 + 1, 0, none⟩ a').setCell ⟨w.heap.size + 1 + 1 + 1 + 1, 1, none⟩ b').setCell ⟨w.heap.size + 1 + 1 + 1 + 1, 2, none⟩ (.bool false)) N v a' b' Q := by
  have hg : Blk X w.heap.size 24 #[.int .i64 N, v] := h.g.below hN.d
  have hr := h.r.below' hN.d
  have hk := h.k.below' hN.d
  have hs := ownMono hN.o.s (show w.heap.size ≤ V.heap.size + 1 from Nat.le_succ_of_le h.d.size)
  have hu := ownMono hN.o.u (show w.heap.size ≤ V.heap.size + 1 from Nat.le_succ_of_le h.d.size)
  have hd := belowThen h.d hN.d
  refine ⟨((hg.other (by omega) 0 a').other (by omega) 1 b').other (by omega) 2 (.bool false), ((hr.other (by omega) 0 a').other (by omega) 1 b').other (by omega) 2 (.bool false), ((hk.set 0 a').set 1 b').set 2 (.bool false), ?_, ?_, ((hd.setCell (show w.heap.size ≤ w.heap.size + 1 + 1 + 1 + 1 by omega) _).setCell (show w.heap.size ≤ w.heap.size + 1 + 1 + 1 + 1 by omega) _).setCell (show w.heap.size ≤ w.heap.size + 1 + 1 + 1 + 1 by omega) _⟩
  · exact ownSetB (ownSetB (ownSetB hs hk (by decide) 0 a') (hk.set 0 a') (by decide) 1 b') ((hk.set 0 a').set 1 b') (by decide) 2 _
  · exact ownSetB (ownSetB (ownSetB hu hk (by decide) 0 a') (hk.set 0 a') (by decide) 1 b') ((hk.set 0 a').set 1 b') (by decide) 2 _
/-- A level is begun. -/
theorem lvBegin (V : World) : LvN V (V.alloc (.cells #[.slice none 0 0, .slice none 0 0, .bool false] 53)) (.slice none 0 0) (.slice none 0 0) [] := ⟨Blk.new V _ _, ⟨World.ownsRow_nil _ _ _ _, World.ownsRow_nil _ _ _ _⟩, belowAlloc V _⟩
theorem LvN.stored {V X Y : World} {a b a' b' : Value} {Q R : List (Nat × Nat)} (h : LvN V X a b Q) (ho : LvO Y (V.heap.size + 1) a' b' R) (hb : Below (V.heap.size + 1) X Y) : LvN V (((Y.setCell ⟨V.heap.size, 0, none⟩ a').setCell ⟨V.heap.size, 1, none⟩ b').setCell ⟨V.heap.size, 2, none⟩ (.bool false)) a' b' R := by
  have hk := h.k.below hb (Nat.lt_succ_self _)
  refine ⟨((hk.set 0 a').set 1 b').set 2 (.bool false), ⟨?_, ?_⟩, (((h.d.trans (hb.mono (Nat.le_succ _))).setCell (Nat.le_refl _) _).setCell (Nat.le_refl _) _).setCell (Nat.le_refl _) _⟩
  · exact ownSetB (ownSetB (ownSetB ho.s hk (by decide) 0 a') (hk.set 0 a') (by decide) 1 b') ((hk.set 0 a').set 1 b') (by decide) 2 _
  · exact ownSetB (ownSetB (ownSetB ho.u hk (by decide) 0 a') (hk.set 0 a') (by decide) 1 b') ((hk.set 0 a').set 1 b') (by decide) 2 _
set_option maxRecDepth 100000 in
set_option maxHeartbeats 40000000 in
theorem rLevels (N : Nat) (hN : N ≤ 8) (l : Prs) (hok : okR N l = true) (n : Nat) (hn : l.length = n) (A : Option Addr) (c : Nat) (w : World) (ha : Rp w A c l) :
    Calls Tryd.prog 22 #[relV N A n c] w fun e w' => ∃ a b, e = .returned (.tuple #[.int .i64 (lvKeys N (hasP l) (N + 1)).length, lvV a b, .bool true]) ∧ LvO w' w.heap.size a b (lvl N (hasP l) N) ∧ Below w.heap.size w w' := by
  obtain ⟨f, hf⟩ : ∃ f, hasP l = f := ⟨_, rfl⟩
  rw [hf]
  have HL0 := Lib.hid (lvStart w N (.slice A n c))
  have HA := Lib.hid (fun X (hX : Below w.heap.size w X) => ha.below hX)
  have HC := Lib.hid (fun s k hs hk r (hr : canL N f s k = r) X (hX : Below w.heap.size w X) => rCan N l hok n hn A c s k hs hk r (by rw [hf]; exact hr) X (ha.below hX))
  clear ha hok hn hf
  go_enter Tryd.func22, Tryd.ntmps22
  go_wp2_with fail
  obtain ⟨W, hW⟩ : ∃ W, (((((w.alloc (.cells #[.int .i64 N, .slice A n c] 24)).alloc (.cells #[.slice none 0 0, .slice none 0 0, .bool false] 53)).alloc (.cells #[.int .u64 0] 56)).alloc (.cells #[.int .i64 1] 3)).alloc (.cells #[.slice (some ⟨w.heap.size + 1 + 1, 0, none⟩) 1 1, .slice (some ⟨w.heap.size + 1 + 1 + 1, 0, none⟩) 1 1, .bool false] 53)) = W := ⟨_, rfl⟩
  rw [hW] at HL0
  try rw [hW]
  clear hW
  go_loopw [6, 7] (fun t i wr => ∃ (m : Nat) (a b : Value), m ≤ N ∧ i = .int .i64 m ∧ t = .int .i64 (lvKeys N f (m + 1)).length ∧ Hid (LvS w wr N (.slice A n c) a b (lvl N f m))) (fun _ i _ => N - (intOf i).toNat)
  case atStart => exact ⟨0, _, _, by omega, rfl, by simp [lvKeys, lvl], HL0⟩
  case round =>
    obtain ⟨m, a, b, hm, rfl, rfl, HL⟩ := hrel
    obtain ⟨V, hVV⟩ : ∃ V, V = wr := ⟨wr, rfl⟩
    subst hVV
    obtain ⟨P, hP⟩ : ∃ P, lvl N f m = P := ⟨_, rfl⟩
    rw [hP] at HL
    obtain ⟨A1, c1, rfl, hA1, _⟩ := HL.out.s.rd
    obtain ⟨B1, d1, rfl, hB1, _⟩ := HL.out.u.rd
    obtain ⟨p, hp⟩ : ∃ p, P.length = p := ⟨_, rfl⟩
    rw [List.length_map, hp] at HL
    rw [wysLen, hp] at HL
    obtain ⟨x0, x1, y0, y1⟩ := HL.out.g.facts
    have k0 : V.cell? ⟨w.heap.size + 1 + 1 + 1 + 1, 0, none⟩ = some (.slice A1 p c1) := HL.out.k.cell 0
    have k1 : V.cell? ⟨w.heap.size + 1 + 1 + 1 + 1, 1, none⟩ = some (.slice B1 p d1) := HL.out.k.cell 1
    have k2 : V.cell? ⟨w.heap.size + 1 + 1 + 1 + 1, 2, none⟩ = some (.bool false) := HL.out.k.cell 2
    by_cases hlt : m < N
    · have HV := Lib.hid (fun X (hX : Below V.heap.size V X) => And.intro (HL.out.g.below hX).facts (And.intro (show X.cell? ⟨w.heap.size + 1 + 1 + 1 + 1, 0, none⟩ = some (.slice A1 p c1) from (HL.out.k.below' hX).cell 0) (And.intro (show X.cell? ⟨w.heap.size + 1 + 1 + 1 + 1, 1, none⟩ = some (.slice B1 p d1) from (HL.out.k.below' hX).cell 1) (And.intro (hA1.below hX) (hB1.below hX)))))
      have HD := Lib.hid HL.out.d
      have hmA := hA1.max
      have hmB := hB1.max
      have hlA := hA1.le
      have hlB := hB1.le
      unfold maxLen at hmA hmB
      simp only [List.length_map] at hlA hlB
      rw [hp] at hlA
      rw [wysLen, hp] at hlB
      clear hA1 hB1
      go_wp2_with fail
      clear k0 k1 k2 x0 x1 y0 y1
      go_loopw [9] (fun i X => ∃ (j : Nat) (a b : Value), j ≤ p ∧ i = .int .i64 j ∧ Hid (LvN V X a b (lvI N f P j))) (fun i _ => p - (intOf i).toNat)
      case atStart => exact ⟨0, _, _, by omega, rfl, Lib.hid (lvBegin V)⟩
      case round =>
        obtain ⟨j, a, b, hj, rfl, HI⟩ := hrel
        obtain ⟨Y, hYY⟩ : ∃ Y, Y = wr := ⟨wr, rfl⟩
        subst hYY
        obtain ⟨⟨x0, x1, y0, y1⟩, k0, k1, hA2, hB2⟩ := HV.out _ HI.out.d
        by_cases hjp : j < p
        · have hjP : j < P.length := by omega
          have hjl : j < (lvl N f m).length := by rw [hP]; exact hjP
          obtain ⟨adA, rfl, hcA⟩ := uvAt hA2 hjP
          obtain ⟨adB, rfl, hcB⟩ := wyAt hB2 hjP
          have HUV := Lib.hid (fun X (hX : Below V.heap.size V X) => uvAt (HV.out X hX).2.2.2.1 hjP)
          have HWY := Lib.hid (fun X (hX : Below V.heap.size V X) => wyAt (HV.out X hX).2.2.2.2 hjP)
          have HBN := Lib.hid (fun k (hk : k ≤ N) => lvBound (f := f) hN hlt hjl hk)
          have HLE := Lib.hid (fun k (hk : k ≤ N) => lvKLen (f := f) hN hjl hk)
          have HND := Lib.hid (fun k => lvKNodup (N := N) (f := f) (L := lvI N f P j) (s := P[j].1) (u := P[j].2) (lvINodup j) k)
          have HST := Lib.hid (show lvI N f P (j + 1) = lvK N f (lvI N f P j) P[j].1 P[j].2 N by rw [lvI, List.getElem?_eq_getElem hjP])
          have hs8 := lvlLt (f := f) hN (m := m) (p := P[j]) (by rw [hP]; exact List.getElem_mem hjP)
          simp only [hP] at HBN HLE
          obtain ⟨s, hs⟩ : ∃ s, P[j].1 = s := ⟨_, rfl⟩
          obtain ⟨u, hu⟩ : ∃ u, P[j].2 = u := ⟨_, rfl⟩
          rw [hs] at hcA HUV HBN HLE HND HST hs8
          rw [hu] at hcB HWY HBN HLE HND HST
          have hj0 : (0 : Int) ≤ j := by omega
          have hj1 : (j : Int) < p := by omega
          clear hs hu hA2 hB2
          go_wp2_with fail
          clear x0 x1 y0 y1 k0 k1 hcA hcB
          go_loopw [10] (fun i X => ∃ (k : Nat) (a b : Value), k ≤ N ∧ i = .int .i64 k ∧ Hid (LvN V X a b (lvK N f (lvI N f P j) s u k))) (fun i _ => N - (intOf i).toNat)
          case atStart => exact ⟨0, _, _, by omega, rfl, HI⟩
          case round =>
            obtain ⟨k, a, b, hk, rfl, HK⟩ := hrel
            obtain ⟨⟨x0, x1, y0, y1⟩, k0, k1, _, _⟩ := HV.out _ HK.out.d
            obtain ⟨_, e1, hcA⟩ := HUV.out _ HK.out.d
            cases e1
            obtain ⟨_, e1, hcB⟩ := HWY.out _ HK.out.d
            cases e1
            by_cases hkN : k < N
            · have HCL := Lib.hid (HC.out s k (Nat.lt_trans hs8 (by decide)) (by omega) (canL N f s k) rfl wr.drew ((belowThen HD.out HK.out.d).drew))
              have HLK := Lib.hid (show lvK N f (lvI N f P j) s u (k + 1) = if canL N f s k then addP (lvK N f (lvI N f P j) s u k) (addS s k) u else lvK N f (lvI N f P j) s u k by rw [lvK])
              cases hr : canL N f s k with
              | false =>
                rw [hr] at HCL HLK
                go_wp2_with fail
                go_still_tail 7, (by kernel_rfl)
                change wpList _ _ _ _ _ wr.drew
                go_wp2_with (refine HCL.out.mono ?_; rintro e w1 ⟨rfl, b1⟩; have HK1 := Lib.hid ((HK.out.chg ((Below.refl _ wr).drew)).chg b1))
                all_goals go_roundw
                all_goals first
                  | exact ⟨k + 1, a, b, by omega, by go_num, Lib.hid (by rw [HLK.out]; exact HK1.out)⟩
                  | (simp [intOf]; omega)
              | true =>
                rw [hr, if_pos rfl] at HLK
                rw [hr] at HCL
                have HBD := Lib.hid (HBN.out k hk)
                have HLN := Lib.hid (HLE.out k hk)
                have HDN := Lib.hid (HND.out k)
                go_wp2_with fail
                go_still_tail 7, (by kernel_rfl)
                change wpList _ _ _ _ _ wr.drew
                go_wp2_with (refine HCL.out.mono ?_; rintro e w1 ⟨rfl, b1⟩; have HK1 := Lib.hid ((HK.out.chg ((Below.refl _ wr).drew)).chg b1))
                all_goals (
                  clear x0 x1 y0 y1 k0 k1 hcA hcB
                  obtain ⟨⟨x0, x1, y0, y1⟩, k0, k1, _, _⟩ := HV.out _ HK1.out.d
                  obtain ⟨_, e1, hcA⟩ := HUV.out _ HK1.out.d
                  cases e1
                  obtain ⟨_, e1, hcB⟩ := HWY.out _ HK1.out.d
                  cases e1
                  have l0 : w1.cell? ⟨V.heap.size, 0, none⟩ = some a := HK1.out.k.cell 0
                  have l1 : w1.cell? ⟨V.heap.size, 1, none⟩ = some b := HK1.out.k.cell 1
                  have l2 : w1.cell? ⟨V.heap.size, 2, none⟩ = some (.bool false) := HK1.out.k.cell 2
                  have hbo := bitsOr (s := s) (a := k) (by exact Nat.lt_trans hs8 (by decide)) (by omega)
                  have hkw : IntKind.u64.wrap (k : Int) = k := by rw [IntKind.wrap_u64]; omega
                  have HAD := Lib.hid (rAdd (V.heap.size + 1) (lvK N f (lvI N f P j) s u k) _ rfl (Nat.le_trans HLN.out (by decide)) HDN.out (addS s k) u HBD.out a b w1.drew (HK1.out.o.chg ((Below.refl _ w1).drew)) HK1.out.k.lt)
                  unfold lvV at HAD
                  go_wp2_with fail
                  go_still_tail 15, (by kernel_rfl)
                  change wpList _ _ _ _ _ w1.drew
                  go_wp2_with (refine HAD.out.mono ?_; rintro e w2 ⟨a2, b2, rfl, o2, d2⟩; obtain ⟨Aa, qa, ca, rfl⟩ := o2.s.sl; obtain ⟨Ab, qb, cb, rfl⟩ := o2.u.sl; have HK2 := Lib.hid (HK1.out.chg ((Below.refl _ w1).drew)); have m0 : w2.cell? ⟨V.heap.size, 0, none⟩ = some a := (HK2.out.k.below d2 (Nat.lt_succ_self _)).cell 0; have m1 : w2.cell? ⟨V.heap.size, 1, none⟩ = some b := (HK2.out.k.below d2 (Nat.lt_succ_self _)).cell 1; have m2 : w2.cell? ⟨V.heap.size, 2, none⟩ = some (.bool false) := (HK2.out.k.below d2 (Nat.lt_succ_self _)).cell 2; have n0 := (HK2.out.k.below d2 (Nat.lt_succ_self _)).frozen 0; have n1 := (HK2.out.k.below d2 (Nat.lt_succ_self _)).frozen 1; have n2 := (HK2.out.k.below d2 (Nat.lt_succ_self _)).frozen 2; have HK3 := Lib.hid ((HK2.out.stored o2 d2).to HLK.out.symm); clear o2 d2)
                  all_goals go_roundw
                  all_goals first
                    | exact ⟨k + 1, _, _, by omega, by go_num, HK3⟩
                    | (simp [intOf]; omega))
            · obtain rfl : k = N := by omega
              have HK5 := Lib.hid (HK.out.to HST.out.symm)
              have hq := HLE.out k (Nat.le_refl _)
              obtain ⟨A2, c2, ea, hr2, _⟩ := HK.out.o.s.rd
              have hc2 := hr2.le
              have hm2 := hr2.max
              unfold maxLen at hm2
              rw [List.length_map] at ea
              simp only [List.length_map] at hc2
              obtain ⟨q, hqq⟩ : ∃ q, (lvK k f (lvI k f P j) s u k).length = q := ⟨_, rfl⟩
              rw [hqq] at hq hc2 ea
              subst ea
              have htl := lvKeysLen (f := f) hN (m + 1)
              have l0 : wr.cell? ⟨V.heap.size, 0, none⟩ = some (.slice A2 q c2) := HK.out.k.cell 0
              clear hr2
              go_wp2_with fail
              all_goals first
                | (exfalso; omega)
                | go_roundw
              all_goals first
                | exact ⟨j + 1, _, _, by omega, by go_num, HK5⟩
                | (simp [intOf]; omega)
        · obtain rfl : j = p := by omega
          have HQ := Lib.hid (show lvI N f P j = lvl N f (m + 1) by rw [← hp, ← hP]; rfl)
          rw [HQ.out] at HI
          obtain ⟨A2, c2, ea, hr2, _⟩ := HI.out.o.s.rd
          obtain ⟨B2, d2, eb, _, _⟩ := HI.out.o.u.rd
          obtain ⟨q, hqq⟩ : ∃ q, (lvl N f (m + 1)).length = q := ⟨_, rfl⟩
          have hq := lvlLen (f := f) hN (m + 1)
          have hc2 := hr2.le
          have hm2 := hr2.max
          unfold maxLen at hm2
          simp only [List.length_map] at hc2
          rw [List.length_map, hqq] at ea
          rw [wysLen, hqq] at eb
          rw [hqq] at hq hc2
          subst ea
          subst eb
          have htl := lvKeysLen (f := f) hN (m + 1)
          have HT := Lib.hid (lvTurn HL.out HI.out)
          have l0 : Y.cell? ⟨V.heap.size, 0, none⟩ = some (.slice A2 q c2) := HI.out.k.cell 0
          have l1 : Y.cell? ⟨V.heap.size, 1, none⟩ = some (.slice B2 q d2) := HI.out.k.cell 1
          have l2 : Y.cell? ⟨V.heap.size, 2, none⟩ = some (.bool false) := HI.out.k.cell 2
          have k2 : Y.cell? ⟨w.heap.size + 1 + 1 + 1 + 1, 2, none⟩ = some (.bool false) := (HL.out.k.below' HI.out.d).cell 2
          have f0 := (HL.out.k.below' HI.out.d).frozen 0
          have f1 := (HL.out.k.below' HI.out.d).frozen 1
          have f2 := (HL.out.k.below' HI.out.d).frozen 2
          have HTOT := Lib.hid (show ((lvKeys N f (m + 1 + 1)).length : Int) = (lvKeys N f (m + 1)).length + q by rw [lvKeysS, List.length_append, List.length_map, hqq]; simp)
          clear hr2 hqq
          go_wp2_with fail
          all_goals first
            | (exfalso; omega)
            | go_roundw
          all_goals first
            | exact ⟨m + 1, _, _, by omega, by go_num, by rw [HTOT.out], HT⟩
            | (simp [intOf]; omega)
    · obtain rfl : m = N := by omega
      have r0 : V.cell? ⟨w.heap.size + 1, 0, none⟩ = some (.slice none 0 0) := HL.out.r.cell 0
      have r1 : V.cell? ⟨w.heap.size + 1, 1, none⟩ = some (.slice none 0 0) := HL.out.r.cell 1
      have r2 : V.cell? ⟨w.heap.size + 1, 2, none⟩ = some (.bool false) := HL.out.r.cell 2
      have g0 := HL.out.r.frozen 0
      have g1 := HL.out.r.frozen 1
      have g2 := HL.out.r.frozen 2
      go_wp2_with fail
      go_region_with (fail)
      all_goals go_wp2
      have HF := HL.out
      have hr3 := ((HF.r.set 0 (.slice A1 p c1)).set 1 (.slice B1 p d1)).set 2 (.bool false)
      refine bodyPost_ret (Blk.res3 hr3.drew rfl _ rfl Tryd.underlying53 rfl infoLevel) rfl ?_
      refine ⟨_, _, rfl, ?_, ?_⟩
      · rw [hP]
        exact ⟨ownSetB (ownSetB (ownSetB HF.s HF.r (by decide) 0 _) (HF.r.set 0 _) (by decide) 1 _) ((HF.r.set 0 _).set 1 _) (by decide) 2 _, ownSetB (ownSetB (ownSetB HF.u HF.r (by decide) 0 _) (HF.r.set 0 _) (by decide) 1 _) ((HF.r.set 0 _).set 1 _) (by decide) 2 _⟩
      · exact (((HF.d.setCell (Nat.le_succ _) _).setCell (Nat.le_succ _) _).setCell (Nat.le_succ _) _).drew
end Go.Proofs.YtfggpmlmdodogaaDoor

namespace Go.Proofs.YtfggpmlmdodogaaDoor
open Go Go.RowKit

theorem errZ {N : Int} {l : Prs} (hc : acyR N l = true) : errA N l = 0 := by
  have h := acyOk hc
  unfold errA
  rw [h, hc]
  rfl
theorem keysAll {N : Nat} {f : Nat → Nat → Bool} {D : List Nat} (h : VisT N f D) (h0 : 0 ∈ D) : D.length = (lvKeys N f (N + 1)).length := h.len h0 (lvKeysNodup _) fun _ => lvKeysIff
theorem visLe {N : Nat} {f : Nat → Nat → Bool} (hN : N ≤ 8) (D : List Nat) (h : VisT N f D) : D.length ≤ 65536 :=
  Nat.le_trans h.le2 (Nat.le_trans (Nat.pow_le_pow_right (by omega) hN) (by decide))
theorem waysLe8 {N : Nat} {f : Nat → Nat → Bool} (hN : N ≤ 8) (hac : acyT N (tcT N f)) : ways N f N 0 ≤ 16777216 := by
  have h1 := lvlSum (N := N) (f := f) N
  rw [lvlLast hac] at h1
  have h2 : wsm (fun _ => 1) [(fullS N, ways N f N 0)] = ways N f N 0 := by simp [wsm]
  rw [h2] at h1
  exact Nat.le_trans h1 (Nat.le_trans (Nat.pow_le_pow_left hN N) (Nat.le_trans (Nat.pow_le_pow_right (by omega) hN) (by decide)))
set_option maxRecDepth 100000 in
theorem rDownNo (N : Int) (l : Prs) (n : Nat) (hn : l.length = n) (hc : acyR N l = false) (A : Option Addr) (c : Nat) (w : World) (ha : Rp w A c l) :
    Calls Tryd.prog 8 #[relV N A n c] w fun e w' => e = .returned (.tuple #[.int .i64 0, .int .i64 (errA N l)]) ∧ Below w.heap.size w w' := by
  obtain ⟨W, hW⟩ : ∃ W, w.alloc (.cells #[.int .i64 N, .slice A n c] 24) = W := ⟨_, rfl⟩
  have hbW : Below w.heap.size w W := by rw [← hW]; exact belowAlloc w _
  have HB : Hid (BoxR W w.heap.size N (.slice A n c)) := by rw [← hW]; exact Lib.hid (BoxR.new w N _)
  obtain ⟨k0, k1, _, _⟩ := HB.out.facts
  have HV := Lib.hid (rWrong N l n hn A c W (ha.below hbW))
  have hz := (errNz hc).2
  have HBW := Lib.hid hbW
  have HW := Lib.hid hW
  generalize errA N l = r at HV hz ⊢
  clear hbW hW ha hc
  go_enter Tryd.func8, Tryd.ntmps8
  go_wp2_with fail
  rw [HW.out]
  refine HV.out.mono ?_
  rintro e w1 ⟨rfl, b1⟩
  go_wp2
  go_ret2
  exact ⟨rfl, belowThen HBW.out b1⟩
set_option maxRecDepth 100000 in
theorem rCountNo (N : Int) (l : Prs) (n : Nat) (hn : l.length = n) (hc : acyR N l = false) (A : Option Addr) (c : Nat) (w : World) (ha : Rp w A c l) :
    Calls Tryd.prog 10 #[relV N A n c] w fun e w' => e = .returned (.tuple #[.int .i64 0, .int .i64 (errA N l)]) ∧ Below w.heap.size w w' := by
  obtain ⟨W, hW⟩ : ∃ W, w.alloc (.cells #[.int .i64 N, .slice A n c] 24) = W := ⟨_, rfl⟩
  have hbW : Below w.heap.size w W := by rw [← hW]; exact belowAlloc w _
  have HB : Hid (BoxR W w.heap.size N (.slice A n c)) := by rw [← hW]; exact Lib.hid (BoxR.new w N _)
  obtain ⟨k0, k1, _, _⟩ := HB.out.facts
  have HV := Lib.hid (rWrong N l n hn A c W (ha.below hbW))
  have hz := (errNz hc).2
  have HBW := Lib.hid hbW
  have HW := Lib.hid hW
  generalize errA N l = r at HV hz ⊢
  clear hbW hW ha hc
  go_enter Tryd.func10, Tryd.ntmps10
  go_wp2_with fail
  rw [HW.out]
  refine HV.out.mono ?_
  rintro e w1 ⟨rfl, b1⟩
  go_wp2
  go_ret2
  exact ⟨rfl, belowThen HBW.out b1⟩
set_option maxRecDepth 100000 in
set_option maxHeartbeats 1000000 in
theorem rDownOk (N : Nat) (hN : N ≤ 8) (l : Prs) (n : Nat) (hn : l.length = n) (hc : acyR N l = true) (A : Option Addr) (c : Nat) (w : World) (ha : Rp w A c l) :
    Calls Tryd.prog 8 #[relV N A n c] w fun e w' => e = .returned (.tuple #[.int .i64 (lvKeys N (hasP l) (N + 1)).length, .int .i64 0]) ∧ Below w.heap.size w w' := by
  obtain ⟨W, hW⟩ : ∃ W, w.alloc (.cells #[.int .i64 N, .slice A n c] 24) = W := ⟨_, rfl⟩
  have hbW : Below w.heap.size w W := by rw [← hW]; exact belowAlloc w _
  have HB : Hid (BoxR W w.heap.size N (.slice A n c)) := by rw [← hW]; exact Lib.hid (BoxR.new w N _)
  obtain ⟨k0, k1, _, _⟩ := HB.out.facts
  have HV := Lib.hid (rWrong N l n hn A c W (ha.below hbW))
  have hz := errZ hc
  rw [hz] at HV
  have HLV := Lib.hid (fun X (hX : Below W.heap.size W X) => rLevels N hN l (acyOk hc) n hn A c X ((ha.below hbW).below hX))
  have HK := Lib.hid (fun X (hX : Below W.heap.size W X) => (HB.out.below hX).facts)
  have HBW := Lib.hid hbW
  have HW := Lib.hid hW
  obtain ⟨r, hr⟩ : ∃ r, (lvKeys N (hasP l) (N + 1)).length = r := ⟨_, rfl⟩
  rw [hr] at HLV ⊢
  unfold lvV at HLV
  clear hbW hW ha hc hz hr
  go_enter Tryd.func8, Tryd.ntmps8
  go_wp2_with fail
  rw [HW.out]
  refine HV.out.mono ?_
  rintro e w1 ⟨rfl, b1⟩
  clear k0 k1
  obtain ⟨k0, k1, _, _⟩ := HK.out w1 b1
  go_wp2_with fail
  refine (HLV.out w1 b1).mono ?_
  rintro e w2 ⟨a, b, rfl, o2, b2⟩
  obtain ⟨A2, c2, rfl, _, _⟩ := o2.s.rd
  obtain ⟨B2, d2, rfl, _, _⟩ := o2.u.rd
  have HX := Lib.hid (belowThen HBW.out (belowThen b1 b2))
  clear o2 b1 b2
  go_wp2
  go_ret2
  exact ⟨rfl, HX.out.alloc HX.out.size _⟩
set_option maxRecDepth 100000 in
set_option maxHeartbeats 1000000 in
theorem rCountOk (N : Nat) (hN : N ≤ 8) (l : Prs) (n : Nat) (hn : l.length = n) (hc : acyR N l = true) (A : Option Addr) (c : Nat) (w : World) (ha : Rp w A c l) :
    Calls Tryd.prog 10 #[relV N A n c] w fun e w' => e = .returned (.tuple #[.int .i64 (ways N (hasP l) N 0 : Int), .int .i64 0]) ∧ Below w.heap.size w w' := by
  obtain ⟨W, hW⟩ : ∃ W, w.alloc (.cells #[.int .i64 N, .slice A n c] 24) = W := ⟨_, rfl⟩
  have hbW : Below w.heap.size w W := by rw [← hW]; exact belowAlloc w _
  have HB : Hid (BoxR W w.heap.size N (.slice A n c)) := by rw [← hW]; exact Lib.hid (BoxR.new w N _)
  obtain ⟨k0, k1, _, _⟩ := HB.out.facts
  have HV := Lib.hid (rWrong N l n hn A c W (ha.below hbW))
  have hz := errZ hc
  rw [hz] at HV
  have HLV := Lib.hid (fun X (hX : Below W.heap.size W X) => rLevels N hN l (acyOk hc) n hn A c X ((ha.below hbW).below hX))
  have HK := Lib.hid (fun X (hX : Below W.heap.size W X) => (HB.out.below hX).facts)
  have HBW := Lib.hid hbW
  have HW := Lib.hid hW
  rw [lvlLast (acyQ hc)] at HLV
  obtain ⟨r, hr⟩ : ∃ r, ways N (hasP l) N 0 = r := ⟨_, rfl⟩
  rw [hr] at HLV ⊢
  unfold lvV at HLV
  clear hbW hW ha hc hz hr
  go_enter Tryd.func10, Tryd.ntmps10
  go_wp2_with fail
  rw [HW.out]
  refine HV.out.mono ?_
  rintro e w1 ⟨rfl, b1⟩
  clear k0 k1
  obtain ⟨k0, k1, _, _⟩ := HK.out w1 b1
  go_wp2_with fail
  refine (HLV.out w1 b1).mono ?_
  rintro e w2 ⟨a, b, rfl, o2, b2⟩
  obtain ⟨A2, c2, rfl, hr2, _⟩ := o2.s.rd
  obtain ⟨B2, d2, rfl, hr3, _⟩ := o2.u.rd
  obtain ⟨q, rfl⟩ := ownHead o2.u Nat.one_pos
  have hq := (World.ownsRow.lt o2.u q rfl).2
  obtain ⟨ad, e0, hcc⟩ := wyAt (k := 0) hr3 Nat.one_pos
  cases e0
  have hcc : w2.cell? ⟨q, 0, none⟩ = some (.int .i64 (r : Int)) := hcc
  have q1 := hr3.le
  have q2 := hr3.max
  unfold maxLen at q2
  have q3 : (wysI [(fullS N, r)]).length = 1 := rfl
  have q4 : ([(fullS N, r)].map fun p : Nat × Nat => p.1).length = 1 := rfl
  rw [q3] at q1 ⊢
  rw [q4]
  have HX := Lib.hid (belowThen HBW.out (belowThen b1 b2))
  clear o2 hr2 hr3 b1 b2
  go_wp2
  go_ret2
  exact ⟨rfl, HX.out.alloc HX.out.size _⟩
theorem countBoth (N : Int) (hN : N ≤ 8) (l : Prs) (n : Nat) (hn : l.length = n) (hs : n ≤ 65536) (A : Option Addr) (c : Nat) (w : World) (ha : Rp w A c l) (hT : Tbl w) : ∃ (d k : Nat) (E : Int),
    (∀ X, Below w.heap.size w X → Calls Tryd.prog 7 #[relV N A n c] X fun e w' => e = .returned (.tuple #[.int .i64 d, .int .i64 E]) ∧ Below X.heap.size X w') ∧
    (∀ X, Below w.heap.size w X → Calls Tryd.prog 8 #[relV N A n c] X fun e w' => e = .returned (.tuple #[.int .i64 d, .int .i64 E]) ∧ Below X.heap.size X w') ∧
    (∀ X, Below w.heap.size w X → Calls Tryd.prog 9 #[relV N A n c] X fun e w' => e = .returned (.tuple #[.int .i64 k, .int .i64 E]) ∧ Below X.heap.size X w') ∧
    (∀ X, Below w.heap.size w X → Calls Tryd.prog 10 #[relV N A n c] X fun e w' => e = .returned (.tuple #[.int .i64 k, .int .i64 E]) ∧ Below X.heap.size X w') := by
  cases hc : acyR N l with
  | false => exact ⟨0, 0, errA N l, fun X hX => iDownNo N l n hn hs hc A c X (ha.below hX), fun X hX => rDownNo N l n hn hc A c X (ha.below hX), fun X hX => iCountNo N l n hn hs hc A c X (ha.below hX), fun X hX => rCountNo N l n hn hc A c X (ha.below hX)⟩
  | true =>
    have h0 : 0 ≤ N := by
      have := acyOk hc
      unfold okR at this
      exact (of_decide_eq_true this).1
    obtain ⟨m, rfl⟩ : ∃ m : Nat, N = m := ⟨N.toNat, by omega⟩
    have hm : m ≤ 8 := by omega
    refine ⟨(lvKeys m (hasP l) (m + 1)).length, ways m (hasP l) m 0, 0, fun X hX => (iDownOk m (by omega) l n hn hs hc (visLe hm) A c X (ha.below hX) (hT.below hX)).mono ?_, fun X hX => rDownOk m hm l n hn hc A c X (ha.below hX), fun X hX => iCountOk m (by omega) l n hn hs hc (visLe hm) (Nat.le_trans (waysLe8 hm (acyQ hc)) (by decide)) A c X (ha.below hX) (hT.below hX), fun X hX => rCountOk m hm l n hn hc A c X (ha.below hX)⟩
    rintro e w' ⟨D, rfl, hV, hD, hb⟩
    rw [keysAll hV hD]
    exact ⟨rfl, hb⟩
set_option maxRecDepth 100000 in
set_option maxHeartbeats 8000000 in
theorem lawCount (N : Int) (l : Prs) (n : Nat) (hn : l.length = n) (A : Option Addr) (c : Nat) (w : World) (ha : Rp w A c l) (hT : Tbl w) :
    Calls Tryd.prog 3 #[relV N A n c] w fun e w' => e = .returned (.bool true) ∧ Below w.heap.size w w' := by
  obtain ⟨W, hW⟩ : ∃ W, w.alloc (.cells #[.int .i64 N, .slice A n c] 24) = W := ⟨_, rfl⟩
  have hbW : Below w.heap.size w W := by rw [← hW]; exact belowAlloc w _
  have HB : Hid (BoxR W w.heap.size N (.slice A n c)) := by rw [← hW]; exact Lib.hid (BoxR.new w N _)
  obtain ⟨k0, k1, _, _⟩ := HB.out.facts
  have HK := Lib.hid (fun X (hX : Below W.heap.size W X) => (HB.out.below hX).facts)
  have HAW := Lib.hid (fun X (hX : Below W.heap.size W X) => awOk X ((hT.below hbW).below hX))
  have HFW := Lib.hid (lFew N n 8 A c W)
  have haW := ha.below hbW
  have hTW := hT.below hbW
  have HBW := Lib.hid hbW
  have HW := Lib.hid hW
  clear hbW hW ha hT
  cases hf : fewB N n 8 with
  | false =>
    rw [hf] at HFW
    clear hf
    go_enter Tryd.func3, Tryd.ntmps3
    go_wp2_with fail
    rw [HW.out]
    refine HFW.out.mono ?_
    rintro e w1 ⟨rfl, b1⟩
    go_wp2_with fail
    refine (HAW.out w1 b1).mono ?_
    rintro e w2 ⟨rfl, b2⟩
    go_wp2
    go_ret
    exact ⟨rfl, belowThen HBW.out (belowThen b1 b2)⟩
  | true =>
    rw [hf] at HFW
    unfold fewB at hf
    simp only [Bool.and_eq_true, decide_eq_true_eq] at hf
    obtain ⟨d, k, E, h1, h2, h3, h4⟩ := countBoth N (by omega) l n hn (by omega) A c W haW hTW
    have H1 := Lib.hid h1
    have H2 := Lib.hid h2
    have H3 := Lib.hid h3
    have H4 := Lib.hid h4
    clear hf h1 h2 h3 h4 haW hTW
    go_enter Tryd.func3, Tryd.ntmps3
    go_wp2_with fail
    rw [HW.out]
    refine HFW.out.mono ?_
    rintro e w1 ⟨rfl, b1⟩
    clear k0 k1
    obtain ⟨k0, k1, _, _⟩ := HK.out w1 b1
    go_wp2_with fail
    refine (H1.out w1 b1).mono ?_
    rintro e w2 ⟨rfl, b2⟩
    have B2 := belowThen b1 b2
    clear k0 k1
    obtain ⟨k0, k1, _, _⟩ := HK.out w2 B2
    go_wp2_with fail
    refine (H2.out w2 B2).mono ?_
    rintro e w3 ⟨rfl, b3⟩
    have B3 := belowThen B2 b3
    clear k0 k1
    obtain ⟨k0, k1, _, _⟩ := HK.out w3 B3
    go_wp2_with fail
    refine (H3.out w3 B3).mono ?_
    rintro e w4 ⟨rfl, b4⟩
    have B4 := belowThen B3 b4
    clear k0 k1
    obtain ⟨k0, k1, _, _⟩ := HK.out w4 B4
    go_wp2_with fail
    refine (H4.out w4 B4).mono ?_
    rintro e w5 ⟨rfl, b5⟩
    have B5 := belowThen B4 b5
    clear k0 k1
    go_wp2_with fail
    refine (HAW.out w5 B5).mono ?_
    rintro e w6 ⟨rfl, b6⟩
    have B6 := belowThen B5 b6
    go_wp2
    go_ret
    exact ⟨rfl, belowThen HBW.out B6⟩
end Go.Proofs.YtfggpmlmdodogaaDoor

namespace Go.Proofs.YtfggpmlmdodogaaDoor.linextCount
open Go Go.ChangeShapes Go.WideShapes Go.ChangeAt Go.WideMaps Go.WideElems Go.RowKit Go.ChangeMaps

set_option maxRecDepth 100000 in
theorem lifted (os : Os) (started : os.Started) (H : Type) (enc : TypeId × Value → H) :
    ReturnsInHanded {} Tryd.checked os 3 .any (fun w args => (Rows.linextCountSpec.pre enc Tryd.prog Tryd.f3 [] false w args ∧ laidMetH Tryd.prog laidT w) ∧ sizedMet enc Tryd.prog Tryd.f3 (OpenSpec.ofChange Rows.linextCountSpec) false w args)
      (Rows.linextCountSpec.post enc Tryd.prog Tryd.f3 false true false false) := by
  refine returnsInHanded_of_change_and (C := Tryd.checked) (X := fun w _ => laidMetH Tryd.prog laidT w) (fun _ _ _ hh h => h.of_heap hh) ownKnob0 started (by kernel_rfl) Tryd.func3
    (ChangeSpec.witness_shaped (enc := enc) (C := Tryd.checked) (os := os) (X := fun w _ => laidMetH Tryd.prog laidT w) false (World.doorLaid Tryd.prog 400 os) #[.agg #[.int .i64 0, .slice none 0 0]] 8 rfl (World.shaped_of_RefB (by kernel_rfl) (by kernel_rfl)) (by kernel_rfl) (by kernel_rfl) (by kernel_rfl) (doorT os _)) ?_
  intro W base args ds gs before hval0 hW _ _ hL _
  have hval : ∀ (j : Nat) t v, Tryd.f3.params[j]? = some t → args[j]? = some v → Value.okWide Tryd.prog W .any base t v := hval0
  have hW' := hW
  obtain ⟨p, q, hA0, hV, rfl, hfz, hnd⟩ := hW
  have hA : DataW.TrodAll enc Tryd.prog W 0 (fun _ => true) true Tryd.f3.params.toList args.toList ds p := hA0
  rw [Tryd.params3] at hA hval
  obtain ⟨v0, vs0, d0, ds0, p0, q0, hargs, rfl, rfl, h0, r0⟩ := trodAll_cons hA
  obtain ⟨rfl, rfl, rfl⟩ := trodAll_nil r0
  obtain rfl : args = #[v0] := by cases args; simp_all
  obtain ⟨rfl, rfl⟩ := trodVars_none hV
  have g0 := h0
  obtain ⟨N0, A0, n0, c0, l0, rfl, e0, rp0⟩ := openRel (hval 0 24 v0 rfl rfl) h0
  clear hA0 hval0
  simp only [List.append_nil] at hW'
  refine (lawCount N0 l0 n0 e0 A0 c0 W rp0 (metT hL)).mono fun e W' ⟨he, hb⟩ => ?_
  subst he
  exact ⟨_, rfl, _, _, _, [], _, [], hW', trodAll_cons_mk (shut_bool Tryd.underlying4 _) trodAll_mk0, trodAll_cons_mk (Below.trod laidOut0 (by kernel_rfl) (of_decide_eq_true (by kernel_rfl)) g0 hb (fun y hy => by simpa using hW'.lt y (by simp [hy]))) (trodAll_mk0), rfl, hb.frame _, fun h => by cases h⟩

theorem over : Rows.linextCountRow.holds Tryd.pinned (OpenSpec.ofChange Rows.linextCountSpec) :=
  OpenClaim.holds_of_wide 3 Tryd.f3 rfl rfl rfl rfl rfl rfl rfl ⟨rfl, rfl, rfl, rfl, rfl⟩ rfl rfl rfl rfl rfl (by kernel_rfl) Tryd.func3 (by kernel_rfl)
    (of_decide_eq_true (by kernel_rfl)) (by unfold Func.isWrapper; first | (rw [if_pos (by decide +kernel)]; kernel_rfl) | (rw [if_neg (by decide +kernel)]; exact ⟨rfl, rfl⟩))
    (fun os started H enc _ => lifted os started H enc)

theorem proved : Rows.LinextCountCardSaid :=
  Claim7.holds_tied_plain_at .later [] [.data] true Rows.linextCountCard.stood.harness false
    over (fun _ h => by cases h) (by kernel_rfl) (fun _ h => by cases h) linextCount_row_tie rfl ⟨rfl, rfl⟩ (by kernel_rfl) rfl
    (fun f fn hf hfn => by
      obtain rfl : f = 3 := Option.some.inj ((show Tryd.prog.funcNamed Rows.linextCountRow.func = some 3 by kernel_rfl).symm.trans hf) |>.symm
      obtain rfl : fn = Tryd.f3 := (Option.some.inj (Tryd.func3.symm.trans hfn)).symm
      exact ⟨by kernel_rfl, fun j t ht => by
        rw [Tryd.params3] at ht
        have hm : t ∈ [24] := by simpa using Array.mem_of_getElem? ht
        have hall : ([24].all fun u => !Tryd.prog.wantsStandIn u) = true := by kernel_rfl
        exact (show Tryd.prog.wantsStandIn t = false by simpa using List.all_eq_true.1 hall t hm)⟩)
    (by kernel_rfl)
#print axioms proved
end Go.Proofs.YtfggpmlmdodogaaDoor.linextCount
