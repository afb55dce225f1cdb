/-
  append of ticks onto a row of the call's own; the contracts of merge, Join and Meet.
-/
import Derived.Test.YtdppccipajfamaaGet
import Derived.OwnWalk
import Derived.Maps.AppendAt
namespace Go.Proofs.Ytdppccipajfamaa
open Go.RowKit

theorem ctCells {w : World} {A : Option Addr} {c : Nat} {l : Ck} (h : Rc w A c l) {b off : Nat} (hA : A = some ⟨b, off, none⟩) : ∀ j u, (ct l)[j]? = some u → w.cell? ((⟨b, off, none⟩ : Addr).add j) = some u := by
  intro j u hu
  have hj : j < l.length * 2 := by have := (List.getElem?_eq_some_iff.1 hu).1; rwa [ctLen] at this
  obtain ⟨b', off', e, _, hc⟩ := h.at_ (by omega)
  rw [hA] at e
  injection e with e
  injection e with e1 e2
  subst e1; subst e2
  have hk := ctAt l (j / 2) (by omega)
  have hc' := hc (j / 2) (by omega)
  rw [Addr.add_lit]
  rcases Nat.mod_two_eq_zero_or_one j with e | e
  · have e2 : j = j / 2 * 2 := by omega
    rw [e2, hk.1] at hu
    rw [e2, hc'.1, ← hu]
    
  · have e2 : j = j / 2 * 2 + 1 := by omega
    rw [e2, hk.2] at hu
    rw [e2, ← Nat.add_assoc, hc'.2, ← hu]
    
theorem cellTick (w : World) (x n : Int) (T : TypeId) : Rc (w.alloc (.cells #[.int .i64 x, .int .i64 n] T)) (some ⟨w.heap.size, 0, none⟩) 1 [(x, n)] :=
  ⟨Nat.le_refl _, by simp [maxLen], fun _ => ⟨w.heap.size, 0, rfl, by simp, fun j hj => by
    obtain rfl : j = 0 := by simpa using hj
    have hh := heap_alloc_new w (.cells #[.int .i64 x, .int .i64 n] T)
    exact ⟨by rw [cell_of_row _ _ _ _ T (0, 0) hh]; rfl, by rw [cell_of_row _ _ _ _ T (0, 0) hh]; rfl⟩⟩⟩
/-- append of one tick onto a row of the call's own. -/
theorem appC (w : World) {ops : Array Oper} {rest : List Oper} {o : Oper} {a : Act} {Q : Exit → Act → World → Prop} (hgd : o.guard = none) (s x : Operand)
    (ho : o.op = .call { callee := .builtin .append, args := #[s, x], argTypes := #[23, 23] })
    (base : Nat) (v : Value) (l : Ck) (hs : a.eval s = v) (hown : OwnC w base v l) (g : Nat) (y n : Int)
    (hx : a.eval x = .slice (some ⟨g, 0, none⟩) 1 1) (hr : Rc w (some ⟨g, 0, none⟩) 1 [(y, n)]) (hb : l.length + 1 ≤ 1000000) (hbase : base ≤ w.heap.size)
    (h : ∀ v' w', OwnC w' base v' (l ++ [(y, n)]) → w.grownBy w' v.ownBlock → Below base w w' → wpList Try.prog ops Q rest (a.put o.dst v') w') :
    wpList Try.prog ops Q (o :: rest) a w := by
  obtain ⟨i0, hi, hz0, hz1, hz2⟩ := info_parts infoTick
  refine wpList_append_own_at w hgd s x 23 ho base 27 i0 _ 2 16 Try.underlying23 hi hz0 hz1 hz2 rfl (by decide) v l.length (ct l) hs hown ⟨g, 0, none⟩ 1 1 (ct [(y, n)]) hx rfl (ctCells hr rfl) (ctOne _) (by unfold maxLen; omega) (by omega) hbase fun v' w' h1 h2 _ _ => h v' w' ?_ h2 ?_
  · unfold OwnC
    rw [List.length_append, ctApp]
    exact h1
  · exact (Below.refl base w).grown h2 hbase fun k hk => (OwnC.lt hown hk).1
theorem kpYes {s t r : Ck} {x n : Int} (hn : 0 < n) (h : s ++ (kp x n ++ t) = r) : s ++ [(x, n)] ++ t = r := by rw [← h, kp, if_pos hn]; simp
theorem kpNo {s t r : Ck} {x n : Int} (hn : ¬ 0 < n) (h : s ++ (kp x n ++ t) = r) : s ++ t = r := by rw [← h, kp, if_neg hn]; simp
def lenOf : Value → Nat | .slice _ n _ => n | _ => 0

set_option maxHeartbeats 1000000 in
theorem iMerge (f : Int → Int → Int) (g0 : FuncId) (eg : ∀ args w, (callFunc g0 args).run Try.prog w = .ok (.enter g0 args) w) (hk : ∀ p q w, Calls Try.prog g0 #[.int .i64 p, .int .i64 q] w fun e w' => e = .returned (.int .i64 (f p q)) ∧ w = w')
    (a b : Ck) (n m : Nat) (hn : a.length = n) (hm : b.length = m) (r : Ck) (hr : mrgC f a b = r) (hs : n ≤ 65536) (hs' : m ≤ 65536) (A B : Option Addr) (c d : Nat) (w : World) (ha : Rc w A c a) (hb : Rc w B d b) :
    Calls Try.prog 30 #[.slice A n c, .slice B m d, .func (.func g0) #[] #[]] w (GivesC r w) := by
  have HA := Lib.hid ha; clear ha
  have HB := Lib.hid hb; clear hb
  have HN := Lib.hid hn; clear hn
  have HM := Lib.hid hm; clear hm
  have HK := Lib.hid hk; clear hk
  rcases hva : vldB a with _ | _
  · have HR := Lib.hid (show [] = r by rw [← hr, mrgC, if_neg (fun h => vldNo.1 hva h.1)]); clear hr
    have HV := Lib.hid hva; clear hva
    go_enter Try.func30, Try.ntmps30
    go_wp2_with fail
    refine (iValid a n HN.out _ HV.out A c _ HA.out).mono ?_
    rintro e w1 ⟨rfl, b1⟩
    go_wp2
    go_ret
    exact ⟨_, rfl, by rw [← HR.out]; exact OwnC.nil _ _, b1⟩
  rcases hvb : vldB b with _ | _
  · have HR := Lib.hid (show [] = r by rw [← hr, mrgC, if_neg (fun h => vldNo.1 hvb h.2)]); clear hr
    have HV := Lib.hid hva; clear hva
    have HW := Lib.hid hvb; clear hvb
    go_enter Try.func30, Try.ntmps30
    go_wp2_with fail
    refine (iValid a n HN.out _ HV.out A c _ HA.out).mono ?_
    rintro e w1 ⟨rfl, b1⟩
    go_wp2_with fail
    refine (iValid b m HM.out _ HW.out B d _ (HB.out.below b1)).mono ?_
    rintro e w2 ⟨rfl, b2⟩
    go_wp2
    go_ret
    exact ⟨_, rfl, by rw [← HR.out]; exact OwnC.nil _ _, belowThen b1 b2⟩
  have HR := Lib.hid (show [] ++ mrg f a b = r by rw [← hr, mrgC, if_pos ⟨vldIff.1 hva, vldIff.1 hvb⟩]; rfl); clear hr
  have HV := Lib.hid hva; clear hva
  have HW := Lib.hid hvb; clear hvb
  obtain ⟨i0, hi, hz0, hz1, hz2⟩ := info_parts infoTick
  have HB0 := Lib.hid (show i0.bytes * (n + m) ≤ 281474976710656 by rw [hz2]; omega)
  go_enter Try.func30, Try.ntmps30
  go_wp2_with fail
  refine (iValid a n HN.out _ HV.out A c _ HA.out).mono ?_
  rintro e w1 ⟨rfl, b1⟩
  go_wp2_with fail
  refine (iValid b m HM.out _ HW.out B d _ (HB.out.below b1)).mono ?_
  rintro e w2 ⟨rfl, b2⟩
  have hb2 := belowThen b1 b2
  clear b1 b2
  have hz := hb2.size
  go_wp2_with (at_make; refine wpList_make_own w2 rfl (.const (.int .i64 0)) (.tmp 24) 23 rfl w.heap.size 27 i0 _ 2 Try.underlying23 hi hz0 hz1 .i64 .i64 _ (n + m) rfl rfl (by omega) HB0.out (by unfold maxLen; omega) hz ?_; intro w3 o3 g3; have O3 : Hid (OwnC w3 w.heap.size (.slice (some ⟨w2.heap.size, 0, none⟩) 0 (n + m)) []) := Lib.hid o3; have B3 := Lib.hid (hb2.grown g3 hz (fun k hk => by cases hk)))
  clear hi hz0 hz1 hz2 hz
  go_loopw [0, 1, 7] (fun va vb vk wr => ∃ (x y s : Ck) (n m : Nat) (A B : Option Addr) (c d : Nat), va = .slice A n c ∧ vb = .slice B m d ∧ Hid (x.length = n) ∧ Hid (y.length = m) ∧ n ≤ 65536 ∧ m ≤ 65536 ∧ s.length + n + m ≤ 200000 ∧ Hid (s ++ mrg f x y = r) ∧ Hid (Rc w A c x) ∧ Hid (Rc w B d y) ∧ OwnC wr w.heap.size vk s ∧ Below w.heap.size w wr) (fun va vb _ _ => lenOf va + lenOf vb)
  case atStart => exact ⟨a, b, [], n, m, A, B, c, d, rfl, rfl, HN, HM, hs, hs', by simp; omega, HR, HA, HB, O3.out, B3.out⟩
  case round =>
    clear HA HB HR HN HM O3 B3 hs hs' HB0 HV HW hb2
    obtain ⟨x, y, s, n, m, A, B, c, d, rfl, rfl, HN, HM, hn, hm, hsl, HR, HA, HB, os, hb⟩ := hrel
    have hla := HA.out.le
    have hlb := HB.out.le
    rw [HN.out] at hla
    rw [HM.out] at hlb
    have hca := HA.out.max
    have hcb := HB.out.max
    unfold maxLen at hca hcb
    by_cases hpos : 0 < n ∨ 0 < m
    · obtain ⟨g, hg⟩ : ∃ g, fstA x y = g := ⟨_, rfl⟩
      obtain ⟨M, hM⟩ : ∃ M, tkN x g = M := ⟨_, rfl⟩
      obtain ⟨N, hN⟩ : ∃ N, tkN y g = N := ⟨_, rfl⟩
      obtain ⟨n2, hn2⟩ : ∃ k, (tkR x g).length = k := ⟨_, rfl⟩
      obtain ⟨m2, hm2⟩ : ∃ k, (tkR y g).length = k := ⟨_, rfl⟩
      have hst := mrgStep f x y (by have := HN.out; have := HM.out; omega)
      rw [hg, hM, hN, hn2, hm2, HN.out, HM.out] at hst
      obtain ⟨V, hV⟩ : ∃ V, f M N = V := ⟨_, rfl⟩
      rw [hV] at hst
      have hlt := hst.2
      have hle2 := lenTk x g
      have hle3 := lenTk y g
      rw [hn2, HN.out] at hle2
      rw [hm2, HM.out] at hle3
      have HT := Lib.hid ((congrArg (s ++ ·) hst.1).symm.trans HR.out)
      clear hst
      have HG := Lib.hid hg; clear hg
      have H1 := Lib.hid hM; clear hM
      have H2 := Lib.hid hN; clear hN
      have HV := Lib.hid hV; clear hV
      have HN2 := Lib.hid hn2; clear hn2
      have HM2 := Lib.hid hm2; clear hm2
      rcases Nat.eq_zero_or_pos n with hn0 | hn0
      · have hm0 : 0 < m := by omega
        have hn1 : decide (0 < n) = false := by simp; omega
        have HN0 := Lib.hid hn0; clear hn0
        go_wp2_with fail
        with_reducible refine (iFirst x y n m HN.out HM.out _ HG.out hpos A B c d _ (HA.out.below hb) (HB.out.below hb)).mono ?_
        rintro e w1 ⟨rfl, q1, rfl⟩
        go_wp2_with fail
        with_reducible refine (iTake x g n n2 HN.out _ H1.out HN2.out A c _ ((HA.out.below hb).drewN _)).mono ?_
        rintro e w1 ⟨⟨A2, c2, rfl, ha2⟩, q2, rfl⟩
        have HA2 := Lib.hid (ha2 _ HA.out); clear ha2
        go_wp2_with fail
        with_reducible refine (iTake y g m m2 HM.out _ H2.out HM2.out B d _ ((HB.out.below hb).drewN _)).mono ?_
        rintro e w1 ⟨⟨B2, d2, rfl, hb2⟩, q3, rfl⟩
        have HB2 := Lib.hid (hb2 _ HB.out); clear hb2
        go_wp2_with fail
        with_reducible refine (HK.out M N _).mono ?_
        rintro e w1 ⟨rfl, rfl⟩
        rw [HV.out]
        by_cases hv0 : 0 < V
        · have HS := Lib.hid (kpYes hv0 HT.out)
          go_wp2_with (at_builtin; refine appC _ rfl (.tmp 55) (.tmp 59) rfl w.heap.size _ _ rfl ((os.drewN _).alloc _) wr.heap.size g V rfl (cellTick _ _ _ _) (by omega) (by have := hb.size; simp; omega) ?_; intro v1 w2 o1 _ b1; have B1 := stepA (belowDrewN hb _) b1)
          go_roundw
          case rel => exact ⟨tkR x g, tkR y g, _, n2, m2, A2, B2, c2, d2, rfl, rfl, HN2, HM2, by omega, by omega, by rw [List.length_append]; simp; omega, HS, HA2, HB2, o1, B1⟩
          case measure => simp [lenOf]; omega
        · have HS := Lib.hid (kpNo hv0 HT.out)
          go_wp2
          go_roundw
          case rel => exact ⟨tkR x g, tkR y g, s, n2, m2, A2, B2, c2, d2, rfl, rfl, HN2, HM2, by omega, by omega, by omega, HS, HA2, HB2, os, belowDrewN hb _⟩
          case measure => simp [lenOf]; omega
      · clear hpos
        have hpos : 0 < n ∨ 0 < m := Or.inl hn0
        go_wp2_with fail
        with_reducible refine (iFirst x y n m HN.out HM.out _ HG.out hpos A B c d _ (HA.out.below hb) (HB.out.below hb)).mono ?_
        rintro e w1 ⟨rfl, q1, rfl⟩
        go_wp2_with fail
        with_reducible refine (iTake x g n n2 HN.out _ H1.out HN2.out A c _ ((HA.out.below hb).drewN _)).mono ?_
        rintro e w1 ⟨⟨A2, c2, rfl, ha2⟩, q2, rfl⟩
        have HA2 := Lib.hid (ha2 _ HA.out); clear ha2
        go_wp2_with fail
        with_reducible refine (iTake y g m m2 HM.out _ H2.out HM2.out B d _ ((HB.out.below hb).drewN _)).mono ?_
        rintro e w1 ⟨⟨B2, d2, rfl, hb2⟩, q3, rfl⟩
        have HB2 := Lib.hid (hb2 _ HB.out); clear hb2
        go_wp2_with fail
        with_reducible refine (HK.out M N _).mono ?_
        rintro e w1 ⟨rfl, rfl⟩
        rw [HV.out]
        by_cases hv0 : 0 < V
        · have HS := Lib.hid (kpYes hv0 HT.out)
          go_wp2_with (at_builtin; refine appC _ rfl (.tmp 55) (.tmp 59) rfl w.heap.size _ _ rfl ((os.drewN _).alloc _) wr.heap.size g V rfl (cellTick _ _ _ _) (by omega) (by have := hb.size; simp; omega) ?_; intro v1 w2 o1 _ b1; have B1 := stepA (belowDrewN hb _) b1)
          go_roundw
          case rel => exact ⟨tkR x g, tkR y g, _, n2, m2, A2, B2, c2, d2, rfl, rfl, HN2, HM2, by omega, by omega, by rw [List.length_append]; simp; omega, HS, HA2, HB2, o1, B1⟩
          case measure => simp [lenOf]; omega
        · have HS := Lib.hid (kpNo hv0 HT.out)
          go_wp2
          go_roundw
          case rel => exact ⟨tkR x g, tkR y g, s, n2, m2, A2, B2, c2, d2, rfl, rfl, HN2, HM2, by omega, by omega, by omega, HS, HA2, HB2, os, belowDrewN hb _⟩
          case measure => simp [lenOf]; omega
    · obtain rfl : n = 0 := by omega
      obtain rfl : m = 0 := by omega
      have e : s = r := by
        have h1 : x = [] := List.eq_nil_of_length_eq_zero HN.out
        have h2 : y = [] := List.eq_nil_of_length_eq_zero HM.out
        have := HR.out
        rw [h1, h2, mrg, List.append_nil] at this
        exact this
      have HE := Lib.hid e; clear e
      go_wp2
      go_ret
      exact ⟨_, rfl, by rw [← HE.out]; exact os, hb⟩
end Go.Proofs.Ytdppccipajfamaa
