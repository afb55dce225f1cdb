/-
  The contract of lex.Join.
-/
import Derived.Test.YtnlhkeobfidjkaaDoorLxK
import Derived.Test.YtnlhkeobfidjkaaDoorLxB
import Derived.Test.YtnlhkeobfidjkaaDoorLxG
import Derived.BigQuiet
namespace Go.Proofs.YtnlhkeobfidjkaaDoor
open Go Go.RowKit

theorem isBuilderBelow {T e : TypeId} {B b : Nat} {bs : List Value} {W W' : World} (h : Lib.IsBuilder T e B b bs W) (hb : Below W.heap.size W W') : Lib.IsBuilder T e B b bs W' := by
  have key : ∀ p, Lib.BuilderAt T e B b p bs W → Lib.BuilderAt T e B b p bs W' := by
    intro p h
    have hlt := h.lt
    obtain ⟨hB, v, hv, hown, hne⟩ := h
    exact ⟨hB, v, (hb.block b hlt).trans hv, ownChgK hown (Chg.ofBelow hb fun _ => True) fun _ _ => trivial, hne⟩
  exact h.elim (fun x => .inl (key _ x)) (fun x => .inr (key _ x))
theorem newBuilder (w : World) : Lib.IsBuilder 58 5 w.heap.size w.heap.size [] (w.alloc (.cells #[.pointer none, .slice none 0 0] 58)) :=
  .inl ⟨Nat.le_refl _, _, heap_alloc_new w _, World.ownsRow_nil _ _ _ _, by simp [Value.ownBlock]⟩
set_option maxRecDepth 100000 in
set_option maxHeartbeats 8000000 in
theorem iJoin (l : List Tok) (n : Nat) (hn : l.length = n) (hn1 : n ≤ 1000) (hT : ∀ t ∈ l, t.text.length ≤ 140737488351232) (A : Option Addr) (c : Nat) (w : World) (hE : Ev w) (hr : Rk w A c l) :
    Calls Tryd.prog 12 #[.slice A n c] w (GivesJ (joinR l) w) := by
  obtain ⟨R, hR⟩ : ∃ R, joinR l = R := ⟨_, rfl⟩
  rw [hR]
  have HR := Lib.hid hR
  have HN := Lib.hid hn
  have HT := Lib.hid hT
  have HRK := Lib.hid (fun X (hX : Below w.heap.size w X) => hr.below hX)
  have HEV := Lib.hid (fun X (hX : Below w.heap.size w X) => hE.stays hX)
  have HCL := Lib.hid (catLe hT)
  clear hR hn hE hr hT
  go_enter Tryd.func12, Tryd.ntmps12
  go_wp2_with fail
  refine (iShapes _).mono ?_
  rintro e w1 ⟨⟨g, rfl, hsh⟩, b1⟩
  have HSH := Lib.hid (fun X (hX : Below w1.heap.size w1 X) => hsh.below hX)
  have B1 := Lib.hid b1
  clear hsh b1
  go_wp2
  go_loopw [5, 14] (fun vz vk wr => ∃ k : Nat, k ≤ n ∧ vz = .int .i64 ((cat l k).length : Nat) ∧ vk = .int .i64 k ∧ Below w1.heap.size w1 wr ∧ Hid (∀ i (_ : i < l.length), i < k → okB9 l[i] = true)) (fun _ i _ => n - (intOf i).toNat)
  case atStart => exact ⟨0, Nat.zero_le _, rfl, rfl, Below.refl _ _, Lib.hid fun i _ h => by omega⟩
  case round =>
    obtain ⟨k, hk, rfl, rfl, hb, HA⟩ := hrel
    by_cases hkn : k < n
    · have HKL := Lib.hid (show k < l.length by rw [HN.out]; exact hkn)
      obtain ⟨b, o, rfl, _, x0, x1, x2, x3⟩ := (HRK.out wr (belowThen B1.out hb)).one HKL.out
      have HTX := Lib.hid (HT.out _ (List.getElem_mem HKL.out))
      have HCN := Lib.hid (catNext HKL.out)
      have HCK := Lib.hid (HCL.out k (by rw [HN.out]; exact hk))
      obtain ⟨s, hs⟩ : ∃ s, bs (l[k]'HKL.out).text = s := ⟨_, rfl⟩
      have HTE := Lib.hid (tokEq _ hs)
      have hsz : s.size = (l[k]'HKL.out).text.length := by rw [← hs]; exact bsSize _
      have hsm : s.size ≤ 140737488351232 := by rw [hsz]; exact HTX.out
      have HSZ := Lib.hid hsz
      rw [hs] at x1
      obtain ⟨t, ht⟩ : ∃ t, l[k]'HKL.out = t := ⟨_, rfl⟩
      rw [ht] at x0 x2 x3 HTE HSZ
      have HTT := Lib.hid ht
      obtain ⟨K, V, q, r, hK, hV, hq, hr⟩ : ∃ K V q r, t.kind = K ∧ t.n = V ∧ t.pos = q ∧ okB9 t = r := ⟨_, _, _, _, rfl, rfl, rfl, rfl⟩
      rw [hK] at x0 HTE
      rw [hV] at x2 HTE
      rw [hq] at x3 HTE
      have HVAL := Lib.hid (fun X (hX : Below w1.heap.size w1 X) => iValid K V q s (by omega) g X (HEV.out X (belowThen B1.out hX)) (HSH.out X hX))
      rw [HTE.out, hr] at HVAL
      have HQ := Lib.hid hr
      have HB := Lib.hid hb
      have hb2 := fun o => Lib.hid (belowAlloc wr o)
      have hk0 : (0 : Int) ≤ k := by omega
      have hk1 : (k : Int) < n := by omega
      clear hs hsz ht hK hV hq hr hb
      cases r
      · have HX : Hid (R = ([], 14)) := Lib.hid (by rw [← HR.out]; exact joinBad HKL.out (by rw [HTT.out]; exact HQ.out))
        go_wp2_with fail
        refine (HVAL.out _ (belowThen HB.out (hb2 _).out)).mono ?_
        rintro e w2 ⟨rfl, b2⟩
        have B2 := Lib.hid (belowThen (hb2 _).out b2)
        clear b2
        go_wp2
        go_ret2
        exact givesJ HX.out rfl rfl (belowThen B1.out (belowThen HB.out B2.out))
      · obtain ⟨sp, hsp⟩ : ∃ sp, bs (sepL l k) = sp := ⟨_, rfl⟩
        have HSEP := Lib.hid (fun X (hX : Below w1.heap.size w1 X) => iSep l n HN.out _ c X (HRK.out X (belowThen B1.out hX)) k hkn)
        rw [hsp] at HSEP
        have hs1 : sp.size ≤ 1 := by rw [← hsp, bsSize]; exact sepLe l k
        have HCS : Hid ((cat l (k + 1)).length = (cat l k).length + (sp.size + s.size)) := Lib.hid (by
          rw [HCN.out, List.length_append, List.length_append, ← hsp, bsSize, HTT.out, HSZ.out])
        obtain ⟨z, hz⟩ : ∃ z, (cat l k).length = z := ⟨_, rfl⟩
        rw [hz] at HCS HCK ⊢
        have hzb : z + (sp.size + s.size) ≤ 9223372036854775807 := by
          have := HCK.out
          have : k * 140737488351233 ≤ 1000 * 140737488351233 := Nat.mul_le_mul_right _ (by omega)
          omega
        have hzc : sp.size + s.size ≤ 9223372036854775807 := by omega
        clear hz hsp hsm hs1
        go_wp2_with fail
        refine (HVAL.out _ (belowThen HB.out (hb2 _).out)).mono ?_
        rintro e w2 ⟨rfl, b2⟩
        have cc : w2.cell? ⟨wr.heap.size, 1, none⟩ = some (.string s) := ((Blk.new wr 40 #[.int .i64 K, .string s, .int .i64 V, .int .i64 q]).below' b2).cell 1
        have B2 := Lib.hid (belowThen HB.out (belowThen (hb2 _).out b2))
        have HDN := Lib.hid (fun nq => belowDrewN B2.out nq)
        clear b2
        go_wp2_with fail
        go_quiet ((exact Calls.quiet_of_same ((HSEP.out _ (HDN.out _)).mono fun _ _ h => ⟨h.1, h.2.symm⟩)))
        go_wp2
        go_roundw
        case rel => exact ⟨k + 1, by omega, by rw [HCS.out]; go_num, by go_num, HDN.out _, Lib.hid (okNext HA.out HKL.out (by rw [HTT.out]; exact HQ.out))⟩
        case measure => simp [intOf]; omega
    · have hkn2 : k = n := by omega
      subst hkn2
      have HALL := Lib.hid (show ∀ i (_ : i < l.length), okB9 l[i] = true from fun i hi => HA.out i hi (by rw [← HN.out]; exact hi))
      obtain ⟨z, hz⟩ : ∃ z, (cat l k).length = z := ⟨_, rfl⟩
      have HZ := Lib.hid hz
      have HB := Lib.hid hb
      rw [hz]
      clear hz hb
      by_cases hz2 : 16384 < z
      · have HX : Hid (R = ([], 4)) := Lib.hid (by rw [← HR.out]; exact joinLong HALL.out (by rw [HN.out]; exact Nat.le_refl k) (by rw [HZ.out]; exact hz2))
        go_wp2
        go_ret2
        exact givesJ HX.out rfl rfl (belowThen B1.out HB.out)
      · have HX : Hid (R = (cat l k, 0)) := Lib.hid (by
          rw [← HR.out]
          have := joinOk HALL.out (by rw [HN.out, HZ.out]; omega)
          rw [this, HN.out])
        obtain ⟨wo, hwo⟩ : ∃ x, x = wr := ⟨wr, rfl⟩
        subst hwo
        have hNB := Lib.hid (newBuilder wo)
        have hBA := fun o => Lib.hid (belowAlloc wo o)
        go_wp2
        go_loopw [38] (fun vk wr => ∃ j : Nat, j ≤ k ∧ vk = .int .i64 j ∧ Lib.IsBuilder 58 5 wo.heap.size wo.heap.size (Lib.byteCells (cat l j)) wr ∧ Below wo.heap.size wo wr) (fun i _ => k - (intOf i).toNat)
        case atStart => exact ⟨0, Nat.zero_le _, rfl, hNB.out, (hBA _).out⟩
        case round =>
          obtain ⟨j, hj, rfl, hbu, hb⟩ := hrel
          have HBU := Lib.hid hbu
          have HB3 := Lib.hid hb
          clear hbu hb
          by_cases hjn : j < k
          · have HKL := Lib.hid (show j < l.length by rw [HN.out]; exact hjn)
            obtain ⟨b, o, rfl, _, x0, x1, x2, x3⟩ := (HRK.out wr (belowThen B1.out (belowThen HB.out HB3.out))).one HKL.out
            have HCN := Lib.hid (catNext HKL.out)
            have HLE := Lib.hid (catMono l (show j + 1 ≤ k by omega))
            obtain ⟨s, hs⟩ : ∃ s, bs (l[j]'HKL.out).text = s := ⟨_, rfl⟩
            obtain ⟨sp, hsp⟩ : ∃ sp, bs (sepL l j) = sp := ⟨_, rfl⟩
            rw [hs] at x1
            have HSEP := Lib.hid (fun X (hX : Below w1.heap.size w1 X) => iSep l k HN.out _ c X (HRK.out X (belowThen B1.out hX)) j hjn)
            rw [hsp] at HSEP
            have HS1 := Lib.hid (strBs hs)
            have HS2 := Lib.hid (strBs hsp)
            have HL1 : Hid (s.size = (l[j]'HKL.out).text.length) := Lib.hid (by rw [← hs]; exact bsSize _)
            have HL2 : Hid (sp.size = (sepL l j).length) := Lib.hid (by rw [← hsp]; exact bsSize _)
            have HLL : Hid ((cat l j).length + (sp.size + s.size) ≤ 16384) := Lib.hid (by
              have h1 := HLE.out
              rw [HCN.out, List.length_append, List.length_append, ← HL1.out, ← HL2.out, HZ.out] at h1
              omega)
            have hBB := Lib.hid (belowAlloc wr (.cells #[.int .i64 (l[j]'HKL.out).kind, .string s, .int .i64 (l[j]'HKL.out).n, .int .i64 (l[j]'HKL.out).pos] 40))
            have hBX := Lib.hid (Blk.new wr 40 #[.int .i64 (l[j]'HKL.out).kind, .string s, .int .i64 (l[j]'HKL.out).n, .int .i64 (l[j]'HKL.out).pos])
            have HCT : Hid (Lib.byteCells (cat l (j + 1)) = Lib.byteCells (cat l j) ++ Lib.strCells sp ++ Lib.strCells s) := Lib.hid (by
              rw [HCN.out, Lib.byteCells_append, Lib.byteCells_append, HS1.out, HS2.out, List.append_assoc])
            generalize (l[j]'HKL.out).kind = K at x0 hBB hBX
            generalize (l[j]'HKL.out).n = V at x2 hBB hBX
            generalize (l[j]'HKL.out).pos = q at x3 hBB hBX
            have hj0 : (0 : Int) ≤ j := by omega
            have hj1 : (j : Int) < k := by omega
            clear hs hsp
            go_wp2_with fail
            refine (HSEP.out _ (belowThen HB.out (belowThen HB3.out hBB.out))).mono ?_
            rintro e w4 ⟨rfl, rfl⟩
            go_wp2_with fail
            refine (bWrite _ _ _ sp _ (isBuilderBelow HBU.out hBB.out) (by rw [Lib.byteCells_length]; have := HLL.out; omega) (by have h1 := HB3.out.size; have h2 := hBB.out.size; omega)).mono ?_
            rintro e w5 ⟨⟨v5, rfl⟩, hbu5, hb5, hst5⟩
            have HBU5 := Lib.hid hbu5
            have HB5 := Lib.hid ((belowThen HB3.out hBB.out).trans hb5)
            have hlo : wo.heap.size < wr.heap.size := HBU.out.elim (fun x => x.lt) (fun x => x.lt)
            have c5 : w5.cell? ⟨wr.heap.size, 1, none⟩ = some (.string s) :=
              (show Blk w5 wr.heap.size 40 #[.int .i64 K, .string s, .int .i64 V, .int .i64 q] from (hst5 _ _ _ _ hBX.out (by decide) (by omega)).trans hBX.out).cell 1
            clear hbu5 hb5 hst5
            go_wp2_with fail
            refine (bWrite _ _ _ s _ HBU5.out (by rw [List.length_append, Lib.byteCells_length, Lib.strCells_length]; have := HLL.out; omega) (by have h1 := HB5.out.size; omega)).mono ?_
            rintro e w6 ⟨⟨v6, rfl⟩, hbu6, hb6, _⟩
            have HBU6 := Lib.hid hbu6
            have HB6 := Lib.hid (HB5.out.trans hb6)
            clear hbu6 hb6
            go_wp2
            go_roundw
            case rel => exact ⟨j + 1, by omega, by go_num, by rw [HCT.out]; exact HBU6.out, HB6.out⟩
            case measure => simp [intOf]; omega
          · have hjk : j = k := by omega
            subst hjk
            go_wp2_with fail
            refine (bString _ _ _ _ HBU.out (HB3.out.size)).mono ?_
            rintro e w7 ⟨rfl, hb7⟩
            have HB7 := Lib.hid (HB3.out.trans hb7)
            clear hb7
            go_wp2
            go_ret2
            exact givesJ HX.out rfl rfl (belowThen B1.out (belowThen HB.out HB7.out))
end Go.Proofs.YtnlhkeobfidjkaaDoor
