/-
  The contract of lex.Scan: the tokens of a text, or its fault.
-/
import Derived.Test.YtnlhkeobfidjkaaDoorLxN
import Derived.OwnWalk
namespace Go.Proofs.YtnlhkeobfidjkaaDoor
open Go Go.RowKit

/-- append of one token onto a row of the call's own. -/
theorem appK (w : World) {ops : Array Oper} {rest : List Oper} {o : Oper} {a : Act} {Q : Exit → Act → World → Prop} (hgd : o.guard = none) (s x : Operand)
    (ho : o.op = .call { callee := .builtin .append, args := #[s, x], argTypes := #[23, 23] })
    (base : Nat) (v : Value) (l : List Tok) (hs : a.eval s = v) (hown : OwnK w base v l) (g : Nat) (t : Tok)
    (hx : a.eval x = .slice (some ⟨g, 0, none⟩) 1 1) (hr : EK w g 0 t) (hb : l.length + 1 ≤ 1000000) (hbase : base ≤ w.heap.size)
    (h : ∀ v' w', OwnK w' base v' (l ++ [t]) → w.grownBy w' v.ownBlock → Below base w w' → wpList Tryd.prog ops Q rest (a.put o.dst v') w') :
    wpList Tryd.prog ops Q (o :: rest) a w := by
  obtain ⟨i0, hi, hz0, hz1, hz2⟩ := info_parts infoTok
  refine wpList_append_own_at w hgd s x 23 ho base 40 i0 _ 4 40 Tryd.underlying23 hi hz0 hz1 hz2 rfl (by decide) v l.length (tks l) hs hown ⟨g, 0, none⟩ 1 1 (tks [t]) hx rfl ?_ (tksOne _) (by unfold maxLen; omega) (by omega) hbase fun v' w' h1 h2 _ _ => h v' w' ?_ h2 ?_
  · intro j u hu
    have hj := (List.getElem?_eq_some_iff.1 hu)
    have := tksCells hr j hj.1
    rw [Addr.add_lit]
    rw [this, hj.2]
  · unfold OwnK
    rw [List.length_append, tksApp]
    exact h1
  · exact (Below.refl base w).grown h2 hbase fun k hk => (OwnK.lt hown hk).1
theorem ekNew (w : World) (t : Tok) (T : TypeId) : EK (w.alloc (.cells #[.int .i64 t.kind, .string (bs t.text), .int .i64 t.n, .int .i64 t.pos] T)) w.heap.size 0 t := by
  have h := Blk.new w T #[.int .i64 t.kind, .string (bs t.text), .int .i64 t.n, .int .i64 t.pos]
  exact ⟨h.cell 0, h.cell 1, h.cell 2, h.cell 3⟩
/-- The call returns tokens and the zero fault, or none and a fault. -/
def GivesTk (r : Except (Int × Nat) (List Tok)) (w : World) (e : Ending) (w' : World) : Prop := Below w.heap.size w w' ∧ match r with
  | .ok l => ∃ v, e = .returned (.tuple #[v, .agg #[.int .i64 0, .int .i64 0]]) ∧ OwnK w' w.heap.size v l
  | .error x => e = .returned (.tuple #[.slice none 0 0, .agg #[.int .i64 x.1, .int .i64 (x.2 : Int)]])
theorem kdz {j : Nat} (h : j ≤ 1) : (kd j != 0) = false := by unfold kd; rw [if_pos h]; rfl
theorem kdn {j : Nat} (h : 2 ≤ j) : (kd j != 0) = true := by unfold kd; rw [if_neg (by omega)]; simp; omega
/-- A result in a slot, and one that lies in a block. -/
theorem resTC {P : Program} {W : World} {b : Nat} {T : TypeId} {cs : Array Value} (h : Blk W b T cs) {fn : Func} {p u : Tmp} {ty : TypeId} (hf : fn.results = #[.tmp u, .cell p ty]) (tmps : Array Value) (hp : tmps.getD p undef = .pointer (some ⟨b, 0, none⟩)) {d : TypeDesc}
    (hu : P.underlying ty = some d) (hd : (match d with | .struct _ | .array _ _ => true | _ => false) = true) (hi : (P.info? ty).map (·.size) = some cs.size) : (results fn tmps).run P W = .ok (.tuple #[tmps.getD u undef, .agg cs]) W := by
  have hp' : tmps[p]?.getD undef = .pointer (some ⟨b, 0, none⟩) := by simpa using hp
  simp only [results, hf]
  simp [Result.andThen, hp', asAddr, run_loadVar_row W b T ty cs (0, 0) d h hu hd hi]
theorem stepK {a b c : World} {o : Obj} (h : Below a.heap.size a b) (k : Below a.heap.size (b.alloc o) c) : Below a.heap.size a c := (h.alloc h.size o).trans k
theorem infoFault : (Tryd.prog.info? 26).map (·.size) = some 2 := by kernel_rfl
theorem stored2 {W : World} {b : Nat} {T : TypeId} {x y : Value} (h : Blk W b T #[x, y]) (u v : Value) : Blk ((W.setCell ⟨b, 0, none⟩ u).setCell ⟨b, 1, none⟩ v) b T #[u, v] := (h.set 0 u).set 1 v
theorem below2 {W X : World} {b : Nat} (h : Below b W X) (u v : Value) : Below b W ((X.setCell ⟨b, 0, none⟩ u).setCell ⟨b, 1, none⟩ v) := (h.setCell (Nat.le_refl _) u).setCell (Nat.le_refl _) v
theorem ownMonoK {w : World} {base base' : Nat} {v : Value} {l : List Tok} (h : OwnK w base v l) (hb : base' ≤ base) : OwnK w base' v l := by
  refine ⟨h.1, ?_⟩
  rcases h.2 with h2 | ⟨g, cap, cur, rfl, hg, r⟩
  · exact .inl h2
  · exact .inr ⟨g, cap, cur, rfl, Nat.le_trans hb hg, r⟩
/-- Stores into an older block leave the row. -/
theorem ownSetK {w : World} {base : Nat} {v : Value} {l : List Tok} (h : OwnK w base v l) (a : Addr) (u : Value) (ha : a.block < base) : OwnK (w.setCell a u) base v l := by
  refine ownChgK h (F := fun k => k ≠ a.block) ?_ fun g hg => by have := (OwnK.lt h hg).1; show g ≠ a.block; omega
  exact ⟨rfl, rfl, rfl, by simp, fun k _ hk => heap_setCell_other w a k u hk⟩
theorem boxF {w : World} {b : Nat} {T : TypeId} {u v : Value} (h : Blk w b T #[u, v]) : w.cell? ⟨b, 0, none⟩ = some u ∧ w.cell? ⟨b, 1, none⟩ = some v ∧ w.frozen? ⟨b, 0, none⟩ = false ∧ w.frozen? ⟨b, 1, none⟩ = false := ⟨h.cell 0, h.cell 1, h.frozen 0, h.frozen 1⟩
set_option maxRecDepth 100000 in
set_option maxHeartbeats 8000000 in
theorem iScan (s : ByteArray) (hs : s.size ≤ 16384) (w : World) (hE : Ev w) : Calls Tryd.prog 9 #[.string s] w (GivesTk (lexT s.data.toList 0) w) := by
  obtain ⟨R, hR⟩ : ∃ R, lexT s.data.toList 0 = R := ⟨_, rfl⟩
  rw [hR]
  have HR : Hid (combR [] (lexT (s.data.toList.drop 0) 0) = R) := Lib.hid (by rw [combNil, List.drop_zero]; exact hR)
  obtain ⟨W, hWE⟩ : ∃ W, w.alloc (.cells #[.int .i64 0, .int .i64 0] 26) = W := ⟨_, rfl⟩
  have hbW : Below w.heap.size w W := by rw [← hWE]; exact belowAlloc w _
  have hB : Blk W w.heap.size 26 #[.int .i64 0, .int .i64 0] := by rw [← hWE]; exact Blk.new w _ _
  have HB := Lib.hid hB
  have HW := Lib.hid hWE
  have HBW := Lib.hid hbW
  have HEV := Lib.hid (fun X (hX : Below W.heap.size W X) => (hE.stays hbW).stays hX)
  clear hWE hB hR hE hbW
  go_enter Tryd.func9, Tryd.ntmps9
  go_wp2_with fail
  rw [HW.out]
  go_step3
  go_wp2_with fail
  refine (iShapes _).mono ?_
  rintro e w1 ⟨⟨g, rfl, hsh⟩, b1⟩
  have HSH := Lib.hid (fun X (hX : Below w1.heap.size w1 X) => hsh.below hX)
  have B1 := Lib.hid b1
  clear hsh b1
  go_wp2
  go_step3
  go_wp2
  go_loopw [5, 6] (fun vt va wr => ∃ (acc : List Tok) (k : Nat) (tv : Value), k ≤ s.size ∧ va = .int .i64 k ∧ tv = vt ∧ OwnK wr w1.heap.size tv acc ∧ acc.length ≤ k ∧ Below w1.heap.size w1 wr ∧ Hid (combR acc (lexT (s.data.toList.drop k) k) = R)) (fun _ i _ => s.size - (intOf i).toNat)
  case atStart => exact ⟨[], 0, _, Nat.zero_le _, rfl, rfl, OwnK.nil _ _, Nat.zero_le _, Below.refl _ _, HR⟩
  case round =>
    obtain ⟨acc, k, tv, hk, rfl, htv, ho, hak, hb, HA⟩ := hrel
    subst htv
    have HO := Lib.hid ho
    have HBO := Lib.hid hb
    obtain ⟨wo, hwo⟩ : ∃ x, x = wr := ⟨wr, rfl⟩
    subst hwo
    by_cases hkl : k < s.size
    · go_wp2
      go_loopw [5, 6, 24] (fun vt va vj wr => ∃ j : Nat, j ≤ 6 ∧ vt = tv ∧ va = .int .i64 k ∧ vj = .int .i64 j ∧ Below wo.heap.size wo wr ∧ Hid (∀ i, i < j → ¬ cls s[k] = i + 1)) (fun _ _ i _ => 6 - (intOf i).toNat)
      case atStart => exact ⟨0, Nat.zero_le _, rfl, rfl, rfl, Below.refl _ _, Lib.hid fun i h => by omega⟩
      case round =>
        obtain ⟨j, hj, rfl, rfl, rfl, hbj, HJ⟩ := hrel
        by_cases hj6 : j < 6
        · obtain ⟨f, L, f', L', c0, c1, c2, k1, k2⟩ := (HSH.out wr (belowThen HBO.out hbj)).at_ j hj6
          have hj0 : (0 : Int) ≤ j := by omega
          have hj1 : (j : Int) < 6 := by omega
          obtain ⟨E, hE⟩ : ∃ E, k + endP (fun c => cls c == j + 1) (rst (j + 1)) (s.data.toList.drop k) = E := ⟨_, rfl⟩
          have HEND := Lib.hid (fun X (hX : Below wr.heap.size wr X) => iEnd (kd j) f f' L L' _ _ s k (by omega) (by omega) X (k1.below hX) (k2.below hX))
          rw [hE] at HEND
          have HE := Lib.hid hE
          obtain ⟨kz, hkz⟩ : ∃ z, kd j = z := ⟨_, rfl⟩
          rw [hkz] at c0 HEND
          have HKZ := Lib.hid hkz
          clear hE k1 k2 hkz
          have hb2 := fun o => belowAlloc wr o
          by_cases hc : cls s[k] = j + 1
          · obtain ⟨hE1, hE2⟩ := endLe hkl hc HE.out
            have hne : ((E : Int) == (k : Int)) = false := beq_eq_false_iff_ne.2 (by omega)
            have HC := Lib.hid hc
            clear hc
            by_cases hj1' : j ≤ 1
            · have hz : (kz != 0) = false := by rw [← HKZ.out]; exact kdz hj1'
              have HX := Lib.hid (show combR acc (lexT (s.data.toList.drop E) E) = R by rw [← HA.out, lexSep hkl HC.out hj1' HE.out])
              clear hj1'
              go_wp2_with fail
              refine (HEND.out _ (hb2 _)).mono ?_
              rintro e w2 ⟨rfl, b2⟩
              have cc := ((Blk.new wr 47 #[.int .i64 kz, .func (.func f) #[] L, .func (.func f') #[] L']).below' b2).cell 0
              have cc : w2.cell? ⟨wr.heap.size, 0, none⟩ = some (.int .i64 kz) := cc
              have B2 := Lib.hid (belowThen hbj (belowThen (hb2 _) b2))
              clear b2
              go_wp2
              exact ⟨⟨acc, E, _, hE2, rfl, rfl, HO.out.below B2.out, by omega, belowThen HBO.out B2.out, HX⟩, by simp [intOf]; omega⟩
            · have hz : (kz != 0) = true := by rw [← HKZ.out]; exact kdn (by omega)
              have hsz : (s.extract k E).size ≤ 281474976710656 := by rw [ByteArray.size_extract]; omega
              obtain ⟨V, hV⟩ : ∃ V, numV kz (s.extract k E).data.toList = V := ⟨_, rfl⟩
              obtain ⟨N, hN⟩ : ∃ N, numE kz (s.extract k E).data.toList = N := ⟨_, rfl⟩
              have HNUM := Lib.hid (fun X (hX : Below wo.heap.size wo X) => iNumber kz (s.extract k E) hsz V N hV hN X (HEV.out X (belowThen B1.out (belowThen HBO.out hX))))
              have HT := Lib.hid (show lexT (s.data.toList.drop k) k = if N = 0 then consR ⟨kz, (s.extract k E).data.toList, V, k⟩ (lexT (s.data.toList.drop E) E) else .error (N, k) by
                by_cases h0 : N = 0
                · rw [if_pos h0]
                  have h1 := lexTok hkl HC.out (by omega) hj6 HE.out (by rw [HKZ.out, hN]; exact h0)
                  rw [HKZ.out, hV] at h1
                  exact h1
                · rw [if_neg h0]
                  have h1 := lexErr hkl HC.out (by omega) hj6 HE.out (by rw [HKZ.out, hN]; exact h0)
                  rw [HKZ.out, hN] at h1
                  exact h1)
              clear hV hN hsz hj1'
              by_cases hN0 : N = 0
              · have hNz : (N != 0) = false := by simpa using hN0
                have HX := Lib.hid (show combR (acc ++ [⟨kz, (s.extract k E).data.toList, V, k⟩]) (lexT (s.data.toList.drop E) E) = R by rw [← HA.out, HT.out, if_pos hN0, combCons])
                go_wp2_with fail
                refine (HEND.out _ (hb2 _)).mono ?_
                rintro e w2 ⟨rfl, b2⟩
                have cc := ((Blk.new wr 47 #[.int .i64 kz, .func (.func f) #[] L, .func (.func f') #[] L']).below' b2).cell 0
                have cc : w2.cell? ⟨wr.heap.size, 0, none⟩ = some (.int .i64 kz) := cc
                have B2 := Lib.hid (belowThen hbj (belowThen (hb2 _) b2))
                clear b2
                go_wp2_with fail
                refine (HNUM.out _ B2.out).mono ?_
                rintro e w3 ⟨rfl, b3⟩
                have cc := (b3.cell (World.block_lt_of_cell? _ _ cc)).trans cc
                have B3 := Lib.hid (belowThen B2.out b3)
                have HO3 := Lib.hid ((HO.out.below B3.out).alloc (.cells #[.int .i64 kz, .string (s.extract k E), .int .i64 V, .int .i64 (k : Int)] 40))
                clear b3
                go_wp2_with (at_builtin; refine appK _ rfl (.tmp 54) (.tmp 61) rfl w1.heap.size _ _ rfl HO3.out w3.heap.size ⟨kz, (s.extract k E).data.toList, V, k⟩ rfl (ekNew _ ⟨kz, (s.extract k E).data.toList, V, k⟩ _) (by omega) (by have h1 := HBO.out.size; have h2 := B3.out.size; simp; omega) ?_; intro v1 w4 o1 _ b4)
                exact ⟨⟨_, E, v1, hE2, rfl, rfl, o1, by simp; omega, stepK (belowThen HBO.out B3.out) b4, HX⟩, by simp [intOf]; omega⟩
              · have hNz : (N != 0) = true := by simpa using hN0
                have HX := Lib.hid (show .error (N, k) = R by rw [← HA.out, HT.out, if_neg hN0]; rfl)
                go_wp2_with fail
                refine (HEND.out _ (hb2 _)).mono ?_
                rintro e w2 ⟨rfl, b2⟩
                have cc := ((Blk.new wr 47 #[.int .i64 kz, .func (.func f) #[] L, .func (.func f') #[] L']).below' b2).cell 0
                have cc : w2.cell? ⟨wr.heap.size, 0, none⟩ = some (.int .i64 kz) := cc
                have B2 := Lib.hid (belowThen hbj (belowThen (hb2 _) b2))
                clear b2
                go_wp2_with fail
                refine (HNUM.out _ B2.out).mono ?_
                rintro e w3 ⟨rfl, b3⟩
                have B3 := Lib.hid (belowThen B1.out (belowThen HBO.out (belowThen B2.out b3)))
                obtain ⟨x0, x1, fz0, fz1⟩ := boxF (HB.out.below' B3.out)
                clear b3
                have B4 := Lib.hid (HB.out.below' B3.out)
                have B5 := Lib.hid (belowThen HBW.out B3.out)
                go_wp2
                rw [Exit.noGoto_ret]
                refine bodyPost_ret (resTC (stored2 B4.out _ _) rfl _ rfl Tryd.underlying26 rfl infoFault) rfl ?_
                rw [← HX.out]
                exact ⟨below2 B5.out _ _, rfl⟩
          · have HX : Hid (∀ i, i < j + 1 → ¬ cls s[k] = i + 1) := Lib.hid fun i hi => by
              rcases Nat.lt_or_ge i j with h' | h'
              · exact HJ.out i h'
              · have e : i = j := by omega
                subst e
                exact hc
            have hE0 : E = k := by rw [← HE.out, endNo hkl hc]; rfl
            subst hE0
            go_wp2_with fail
            refine (HEND.out _ (hb2 _)).mono ?_
            rintro e w2 ⟨rfl, b2⟩
            have B2 := Lib.hid (belowThen hbj (belowThen (hb2 _) b2))
            clear b2
            go_wp2
            go_roundw
            case rel => exact ⟨j + 1, by omega, rfl, rfl, by go_num, B2.out, HX⟩
            case measure => simp [intOf]; omega
        · have hc0 : cls s[k] = 0 := by
            have h6 : cls s[k] ≤ 6 := by unfold cls; (repeat' split) <;> decide
            rcases Nat.eq_zero_or_pos (cls s[k]) with h | h
            · exact h
            · exact absurd (by omega) (HJ.out (cls s[k] - 1) (by omega))
          have HX := Lib.hid (show .error (14, k) = R by rw [← HA.out, lexBad hkl hc0]; rfl)
          clear hc0
          have B3 := Lib.hid (belowThen B1.out (belowThen HBO.out hbj))
          obtain ⟨x0, x1, fz0, fz1⟩ := boxF (HB.out.below' B3.out)
          have B4 := Lib.hid (HB.out.below' B3.out)
          have B5 := Lib.hid (belowThen HBW.out B3.out)
          go_wp2
          rw [Exit.noGoto_ret]
          refine bodyPost_ret (resTC (stored2 B4.out _ _) rfl _ rfl Tryd.underlying26 rfl infoFault) rfl ?_
          rw [← HX.out]
          exact ⟨below2 B5.out _ _, rfl⟩
    · have HX := Lib.hid (show .ok acc = R by rw [← HA.out, lexEnd (by omega), combR, List.append_nil])
      have B3 := Lib.hid (belowThen B1.out HBO.out)
      obtain ⟨x0, x1, fz0, fz1⟩ := boxF (HB.out.below' B3.out)
      have B4 := Lib.hid (HB.out.below' B3.out)
      have B5 := Lib.hid (belowThen HBW.out B3.out)
      have hlt : w.heap.size < w1.heap.size := by have h1 := HB.out.lt; have h2 := B1.out.size; omega
      go_wp2
      rw [Exit.noGoto_ret]
      refine bodyPost_ret (resTC (stored2 B4.out _ _) rfl _ rfl Tryd.underlying26 rfl infoFault) rfl ?_
      rw [← HX.out]
      exact ⟨below2 B5.out _ _, _, rfl, ownMonoK (ownSetK (ownSetK HO.out _ _ hlt) _ _ hlt) (by omega)⟩
end Go.Proofs.YtnlhkeobfidjkaaDoor
