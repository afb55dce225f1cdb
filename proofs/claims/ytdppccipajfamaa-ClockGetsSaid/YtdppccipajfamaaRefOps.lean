/-
  The contracts of the reference's Join, Meet and Advance.
-/
import Derived.Test.YtdppccipajfamaaAgents
import Derived.Deep.RegionHeld3
namespace Go.Proofs.Ytdppccipajfamaa
open Go.RowKit

theorem Rc.drew {w : World} {A : Option Addr} {c : Nat} {l : Ck} (h : Rc w A c l) : Rc w.drew A c l := ⟨h.le, h.max, h.at_⟩
theorem OwnC.drew {w : World} {base : Nat} {v : Value} {l : Ck} (h : OwnC w base v l) : OwnC w.drew base v l := h
/-- append of one tick as a step of a region that draws its order. -/
theorem stepC (w : World) {ops : Array Oper} {o : Oper} {a : Act} {K : Act → World → Prop} {Q : Exit → Act → World → Prop} {E : Prop} (hgd : o.guard = none) (s x : Operand)
    (ho : o.op = .call { callee := .builtin .append, args := #[s, x], argTypes := #[23, 23] })
    (base : Nat) (v : Value) (l : Ck) (hs : a.eval s = v) (hown : OwnC w base v l) (g : Nat) (y n : Int)
    (hx : a.eval x = .slice (some ⟨g, 0, none⟩) 1 1) (hr : Rc w (some ⟨g, 0, none⟩) 1 [(y, n)]) (hb : l.length + 1 ≤ 1000000) (hbase : base ≤ w.heap.size)
    (h : ∀ v' w', OwnC w' base v' (l ++ [(y, n)]) → Below base w w' → K (a.put o.dst v') w') :
    if Region.wanted o (yielded ops a.tmps) = true then Oper.wp Try.prog o a w K Q else E := by
  have hw : Region.wanted o (yielded ops a.tmps) = true := by simp [Region.wanted, hgd]
  rw [if_pos hw]
  obtain ⟨i0, hi, hz0, hz1, hz2⟩ := info_parts infoTick
  obtain ⟨v', w', hrun, h1, h2, _, _⟩ := run_append_own_at (P := Try.prog) w base 23 o.type 27 i0 _ 2 16 Try.underlying23 hi hz0 hz1 hz2 rfl (by decide) v l.length (ct l) hown ⟨g, 0, none⟩ 1 1 (ct [(y, n)]) rfl (ctCells hr rfl) (ctOne _) (by unfold maxLen; omega) (by omega) hbase
  unfold Oper.wp execOp
  simp only [ho, resolve, invoke, builtin, Sem.run_bind, Sem.run_pure, Result.andThen_ok, List.map_toArray, List.map_cons, List.map_nil, hs, hx, hrun]
  refine h v' w' ?_ ?_
  · unfold OwnC
    rw [List.length_append, ctApp]
    exact h1
  · exact (Below.refl base w).grown h2 hbase fun k hk => (OwnC.lt hown hk).1
theorem mapNext {s r : Ck} {L : List Int} {h : Int → Int × Int} {i : Nat} (hi : i < L.length) (e : s ++ (L.drop i).map h = r) {y : Int × Int} (hy : h L[i] = y) : s ++ [y] ++ (L.drop (i + 1)).map h = r := by
  rw [← e, List.drop_eq_getElem_cons hi, List.map_cons, hy]; simp
theorem mapEnd {s r : Ck} {L : List Int} {h : Int → Int × Int} {i : Nat} (hi : L.length ≤ i) (e : s ++ (L.drop i).map h = r) : s = r := by
  rw [← e, List.drop_eq_nil_of_le hi]; simp
theorem cntQ (l : Ck) (x : Int) (n : Nat) (hn : l.length = n) (r : Int) (hr : cnt l x = r) (A : Option Addr) (c : Nat) (w : World) (ha : Rc w A c l) :
    Calls Try.prog 28 #[.slice A n c, .int .i64 x] w fun e w' => e = .returned (.int .i64 r) ∧ w' = w := (rCount l x n hn r hr A c w ha).mono fun _ _ ⟨h1, h2⟩ => ⟨h1, h2.symm⟩
set_option maxHeartbeats 1000000 in
theorem rJoin (a b : Ck) (n m : Nat) (hn : a.length = n) (hm : b.length = m) (r : Ck) (hr : joinC a b = r) (hs : n ≤ 65536) (hs' : m ≤ 65536) (A B : Option Addr) (c d : Nat) (w : World) (ha : Rc w A c a) (hb : Rc w B d b) :
    Calls Try.prog 18 #[.slice A n c, .slice B m d] w (GivesC r w) := by
  have HA := Lib.hid ha; clear ha
  have HB := Lib.hid hb; clear hb
  have HN := Lib.hid hn; clear hn
  have HM := Lib.hid hm; clear hm
  rcases hva : vldB a with _ | _
  · have HR := Lib.hid (show [] = r by rw [← hr, joinC, mrgC, if_neg (fun h => vldNo.1 hva h.1)]); clear hr
    have HV := Lib.hid hva; clear hva
    go_enter Try.func18, Try.ntmps18
    go_wp2_with fail
    refine (rValid a n HN.out _ HV.out A c _ HA.out).mono ?_
    rintro e w1 ⟨rfl, q, rfl⟩
    go_wp2
    go_ret
    exact ⟨_, rfl, by rw [← HR.out]; exact OwnC.nil _ _, belowN w q⟩
  rcases hvb : vldB b with _ | _
  · have HR := Lib.hid (show [] = r by rw [← hr, joinC, mrgC, if_neg (fun h => vldNo.1 hvb h.2)]); clear hr
    have HV := Lib.hid hva; clear hva
    have HW := Lib.hid hvb; clear hvb
    go_enter Try.func18, Try.ntmps18
    go_wp2_with fail
    refine (rValid a n HN.out _ HV.out A c _ HA.out).mono ?_
    rintro e w1 ⟨rfl, q, rfl⟩
    go_wp2_with fail
    refine (rValid b m HM.out _ HW.out B d _ (HB.out.drewN _)).mono ?_
    rintro e w2 ⟨rfl, q2, rfl⟩
    go_wp2
    go_ret
    exact ⟨_, rfl, by rw [← HR.out]; exact OwnC.nil _ _, belowN w _⟩
  have HR := Lib.hid (show [] ++ ((ags a b).drop 0).map (fun x => (x, max (cnt a x) (cnt b x))) = r by rw [← hr, ← joinGen (vldIff.1 hva) (vldIff.1 hvb)]; rfl); clear hr
  have HV := Lib.hid hva; clear hva
  have HW := Lib.hid hvb; clear hvb
  obtain ⟨L, hL⟩ : ∃ L, ags a b = L := ⟨_, rfl⟩
  rw [hL] at HR
  obtain ⟨nL, hnL⟩ : ∃ k, L.length = k := ⟨_, rfl⟩
  have hle := lenAgs a b
  rw [hL, hnL, HN.out, HM.out] at hle
  have HL := Lib.hid hL; clear hL
  have HNL := Lib.hid hnL; clear hnL
  go_enter Try.func18, Try.ntmps18
  go_wp2_with fail
  refine (rValid a n HN.out _ HV.out A c _ HA.out).mono ?_
  rintro e w1 ⟨rfl, q, rfl⟩
  go_wp2_with fail
  refine (rValid b m HM.out _ HW.out B d _ (HB.out.drewN _)).mono ?_
  rintro e w2 ⟨rfl, q2, rfl⟩
  go_wp2_with fail
  refine (rAgents a b n m HN.out HM.out L HL.out hs hs' A B c d _ (HA.out.drewN _) (HB.out.drewN _)).mono ?_
  rintro e w1 ⟨AL, cL, rfl, rL, b1⟩
  rw [HNL.out]
  have B1 := Lib.hid (show Below w.heap.size w w1 from belowThen (belowN w _) b1); clear b1
  have RL := Lib.hid rL; clear rL
  have HA1 := Lib.hid (HA.out.below B1.out)
  have HB1 := Lib.hid (HB.out.below B1.out)
  clear HA HB
  have hO := Lib.hid (OwnC.nil w1 w1.heap.size)
  have hlL := RL.out.le
  rw [HNL.out] at hlL
  have hcL := RL.out.max
  unfold maxLen at hcL
  go_wp2
  go_loopw [5, 7] (fun vo vi wr => ∃ (i : Nat) (s : Ck), vi = .int .i64 i ∧ i ≤ nL ∧ s.length ≤ i ∧ Hid (s ++ (L.drop i).map (fun x => (x, max (cnt a x) (cnt b x))) = r) ∧ OwnC wr w1.heap.size vo s ∧ Below w1.heap.size w1 wr) (fun _ vi _ => nL - (intOf vi).toNat)
  case atStart => exact ⟨0, [], rfl, Nat.zero_le _, by simp, HR, hO.out, Below.refl _ _⟩
  case round =>
    clear HR hO
    obtain ⟨i, s, rfl, hi, hsl, HT, os, hb⟩ := hrel
    by_cases hin : i < nL
    · have hil : i < L.length := by have := HNL.out; omega
      obtain ⟨ad, rfl, hbl, hcl⟩ := RL.out.one hil
      have hcw := (hb.cell (p := ad.add i) (by rw [addBlock]; exact hbl)).trans hcl
      obtain ⟨x, hx⟩ : ∃ x, L[i] = x := ⟨_, rfl⟩
      obtain ⟨M, hM⟩ : ∃ M, cnt a x = M := ⟨_, rfl⟩
      obtain ⟨N, hN⟩ : ∃ N, cnt b x = N := ⟨_, rfl⟩
      have HS0 := mapNext hil HT.out (show (fun x => (x, max (cnt a x) (cnt b x))) L[i] = (x, max M N) by rw [hx, ← hM, ← hN])
      rw [hx] at hcw hcl
      have H1 := Lib.hid hM; clear hM
      have H2 := Lib.hid hN; clear hN
      have HX := Lib.hid hx; clear hx
      have HOS := Lib.hid os; clear os
      have HAR := Lib.hid (HA1.out.below hb).drew
      have HBR := Lib.hid (HB1.out.below hb).drew
      have hz1 := hb.size
      have HCA := Lib.hid (show ∀ o : Obj, (wr.alloc o).drew.cell? (ad.add i) = some (.int .i64 x) from fun o => ((((Below.refl _ wr).alloc (Nat.le_refl _) o).drew).cell (by rw [addBlock]; exact Nat.lt_of_lt_of_le hbl hz1)).trans hcw)
      have HS := Lib.hid (show s ++ [(x, if M < N then N else M)] ++ _ = r by rw [← HS0, show max M N = (if M < N then N else M) by split <;> omega]); clear HS0
      go_wp2_with fail
      go_region_held3 (fun w' => w'.cell? (ad.add i) = some (.int .i64 x))
        (first | assumption | exact hcw | exact HCA.out _ | exact k2)
        (first
          | (go_at_call 28; with_reducible refine (cntQ a x n HN.out _ H1.out A c _ HAR.out).mono ?_; (rintro e w' ⟨rfl, rfl⟩))
          | (go_at_call 28; with_reducible refine (cntQ b x m HM.out _ H2.out B d _ HBR.out).mono ?_; (rintro e w' ⟨rfl, rfl⟩))
          | (refine stepC _ (by rfl) (.tmp 25) (.tmp 44) (by rfl) w1.heap.size _ s (by rfl) (HOS.out.alloc _).drew wr.heap.size x (if M < N then N else M) (by rfl) (cellTick wr x (if M < N then N else M) _).drew (by omega) (by simp; omega) ?_; intro v2 w2 o2 b2; have B2 := ((hb.alloc hz1 _).drew).trans b2; have k2 := (B2.cell (p := ad.add i) (by rw [addBlock]; exact hbl)).trans hcl))
      go_wp2
      go_roundw
      case rel => exact ⟨i + 1, _, by go_num, by omega, by rw [List.length_append]; simp; omega, HS, o2, B2⟩
      case measure => simp [intOf]; omega
    · have hE := Lib.hid (mapEnd (by have := HNL.out; omega) HT.out)
      go_wp2
      go_ret
      exact ⟨_, rfl, by rw [← hE.out]; exact os.mono B1.out.size, belowThen B1.out hb⟩
end Go.Proofs.Ytdppccipajfamaa
