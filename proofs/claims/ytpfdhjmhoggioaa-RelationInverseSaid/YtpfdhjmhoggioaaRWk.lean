/-
  The contract of walk: the first of the shortest cycles through a number, by the steps to it.
-/
import Derived.Test.YtpfdhjmhoggioaaRSt
import Derived.RegionTactic
import Derived.ChangeAlike
import Derived.BigRegion
import Derived.Deep.QuietTactic
import Derived.BigQuiet
namespace Go.Proofs.Ytpfdhjmhoggioaa
open Go.RowKit Go.Maps

/-- The function value that tells who is closer. -/
def wkV (sb lb : Nat) : Value := .func (.func 55) #[] #[.pointer (some ⟨sb, 0, none⟩), .pointer (some ⟨lb, 0, none⟩)]
set_option maxHeartbeats 1000000 in
theorem iCloser (N : Nat) (S : Nat → Nat) (d t sb lb g : Nat) (ht : t < N) (w : World) (hs : w.cell? ⟨sb, 0, none⟩ = some (.slice (some ⟨g, 0, none⟩) N N)) (hl : w.cell? ⟨lb, 0, none⟩ = some (.int .i64 d)) (hr : RowI w g N S) :
    Calls Try.prog 55 #[.int .i64 t, .pointer (some ⟨sb, 0, none⟩), .pointer (some ⟨lb, 0, none⟩)] w fun e w' => e = .returned (.bool (decide (S t = d))) ∧ ∃ m, w' = w.drewN m := by
  have hc := hr.cell ht
  have he : ((S t : Int) == (d : Int)) = decide (S t = d) := by
    by_cases h : S t = d
    · rw [h]; simp
    · rw [decide_eq_false h]; simp; omega
  clear hr
  generalize S t = u at *
  go_enter Try.func55, Try.ntmps55
  go_wp2
  go_quiet (fail)
  go_wp2
  go_ret
  exact ⟨rfl, _, rfl⟩
set_option maxHeartbeats 1000000 in
/-- IndexFunc with it: the first of the list that has d steps. -/
theorem iIndexWk (N : Nat) (S : Nat → Nat) (d sb lb g : Nat) (L : List Int) (n : Nat) (hn : L.length = n) (hs : n ≤ 65536) (hL : ∀ y ∈ L, ∃ t : Nat, y = (t : Int) ∧ t < N) (A : Option Addr) (c : Nat)
    (w : World) (ha : Rd w A c L) (h1 : w.cell? ⟨sb, 0, none⟩ = some (.slice (some ⟨g, 0, none⟩) N N)) (h2 : w.cell? ⟨lb, 0, none⟩ = some (.int .i64 d)) (h3 : RowI w g N S)
    (k : Nat) (hk : k < L.length) (hy : ∃ t : Nat, L[k] = (t : Int) ∧ S t = d) (hno : ∀ i (h : i < L.length), i < k → ∀ t : Nat, L[i] = (t : Int) → S t ≠ d) :
    Calls Try.prog 54 #[.slice A n c, wkV sb lb] w fun e w' => e = .returned (.int .i64 k) ∧ ∃ m, w' = w.drewN m := by
  have hle := ha.le
  have hmx := Rd.max ha
  unfold maxLen at hmx
  rw [hn] at hle
  have HA := Lib.hid ha; clear ha
  have HN := Lib.hid hn; clear hn
  have HL := Lib.hid hL; clear hL
  have H1 := Lib.hid h1; clear h1
  have H2 := Lib.hid h2; clear h2
  have H3 := Lib.hid h3; clear h3
  have HY := Lib.hid hy; clear hy
  have HNO := Lib.hid hno; clear hno
  have hkn : k < n := by rw [← HN.out]; exact hk
  unfold wkV
  go_enter Try.func54, Try.ntmps54
  go_wp2
  go_loopw [8] (fun i wr => ∃ j m : Nat, j ≤ k ∧ i = .int .i64 j ∧ wr = w.drewN m) (fun i _ => n - (intOf i).toNat)
  case atStart => exact ⟨0, 0, Nat.zero_le _, rfl, rfl⟩
  case round =>
    obtain ⟨j, m, hj, rfl, rfl⟩ := hrel
    have hjl : j < L.length := by omega
    have hjn : j < n := by omega
    obtain ⟨ad, rfl, _, hcj⟩ := (HA.out.drewN m).one hjl
    obtain ⟨t, ht, htN⟩ := HL.out _ (List.getElem_mem hjl)
    rw [ht] at hcj
    have HT := Lib.hid ht; clear ht
    by_cases hjk : j = k
    · subst hjk
      have hd : decide (S t = d) = true := by
        obtain ⟨t', e1, e2⟩ := HY.out
        rw [HT.out] at e1
        have : t = t' := by omega
        rw [this, e2]; simp
      have HC := Lib.hid (iCloser N S d t sb lb g htN (w.drewN m) H1.out H2.out H3.out)
      rw [hd] at HC
      clear hd
      go_wp2_with fail
      refine HC.out.mono ?_
      rintro e w1 ⟨rfl, m2, rfl⟩
      go_wp2
      go_ret
      exact ⟨rfl, m + m2, rfl⟩
    · have hd : decide (S t = d) = false := decide_eq_false (HNO.out j hjl (by omega) t HT.out)
      have HC := Lib.hid (iCloser N S d t sb lb g htN (w.drewN m) H1.out H2.out H3.out)
      rw [hd] at HC
      clear hd
      go_wp2_with fail
      refine HC.out.mono ?_
      rintro e w1 ⟨rfl, m2, rfl⟩
      go_wp2
      go_roundw
      case rel => exact ⟨j + 1, m + m2, by omega, by go_num, rfl⟩
      case measure => simp [intOf]; omega

/-- Where the next of the way stands among the successors. -/
theorem wkStep {N : Nat} {f : Nat → Nat → Bool} {a q x : Nat} (h : dst N f x a = q + 1 + 1) : ∃ k, ∃ hk : k < (sucI N f x).length, (sucI N f x)[k] = (nxt N f a (q + 1) x : Int) ∧ ∀ i (h : i < (sucI N f x).length), i < k → ∀ t : Nat, (sucI N f x)[i] = (t : Int) → dst N f t a ≠ q + 1 := by
  obtain ⟨h1, h2, h3, h4⟩ := nxtIs (by omega) h
  obtain ⟨k, hk, e⟩ := List.getElem_of_mem (sucMem.2 ⟨_, rfl, h1, h2⟩)
  refine ⟨k, hk, e, fun i hi hik t ht hd => ?_⟩
  have hs := List.pairwise_iff_getElem.1 (show (sucI N f x).Pairwise (· < ·) from sucSrt N f x) i k hi hk hik
  rw [ht, e] at hs
  obtain ⟨b, hb, _, hf⟩ := sucMem.1 (List.getElem_mem hi)
  rw [ht] at hb
  obtain rfl : t = b := by omega
  exact h4 t (by omega) ⟨hf, hd⟩
theorem OwnI.litC (w : World) (base : Nat) (x : Int) (h : base ≤ w.heap.size) : OwnI (w.alloc (.cells #[.int .i64 x] 3)) base (.slice (some ⟨w.heap.size, 0, none⟩) 1 1) [x] :=
  ⟨by simp [iv], .inr ⟨w.heap.size, 1, #[.int .i64 x], rfl, h, heap_alloc_new w _, Nat.le_refl _, by unfold maxLen; omega, rfl, rfl⟩⟩
/-- append of one integer onto a row of the call's own: what it turns. -/
theorem appG (w : World) {ops : Array Oper} {rest : List Oper} {o : Oper} {a : Act} {Q : Exit → Act → World → Prop} (hgd : o.guard = none) (s x : Operand)
    (ho : o.op = .call { callee := .builtin .append, args := #[s, x], argTypes := #[33, 33] })
    (base : Nat) (v : Value) (l : List Int) (hs : a.eval s = v) (hown : OwnI w base v l)
    (A : Option Addr) (y : Int) (hx : a.eval x = .slice A 1 1) (hr : Rd w A 1 [y])
    (hb : l.length + 1 ≤ 1000000) (hbase : base ≤ w.heap.size)
    (h : ∀ v' w', OwnI w' base v' (l ++ [y]) → w.grownBy w' v.ownBlock → Moved w v v' l.length 1 → wpList Try.prog ops Q rest (a.put o.dst v') w') :
    wpList Try.prog ops Q (o :: rest) a w := by
  obtain ⟨i0, hi, hz0, hz1, hz2⟩ := info_parts infoInt
  refine wpList_app w hgd s x 33 ho base 3 i0 _ 8 Try.underlying33 hi hz0 hz1 hz2 rfl v l.length (iv l) hs hown A 1 1 (iv [y]) hx rfl hr (ivOne _) (by omega) (by unfold maxLen; omega) hbase fun v' w' h1 _ h3 h4 => h v' w' ?_ h3 h4
  unfold OwnI iv
  rw [List.length_append, List.map_append]
  exact h1

set_option maxRecDepth 100000 in
set_option maxHeartbeats 4000000 in
theorem iWalk (N : Nat) (hN : N ≤ 64) (f : Nat → Nat → Bool) (a : Nat) (ha : a < N) (k : Nat) (hk : dst N f a a = k + 1) (A : Option Addr) (c g : Nat) (w : World) (hrw : RdF w A c (sucI N f) N) (hg : RowI w g N (fun x => dst N f x a)) :
    Calls Try.prog 41 #[.int .i64 a, .slice A N c, .slice (some ⟨g, 0, none⟩) N N] w (GivesL (ni (a :: wlk N f a k a)) w) := by
  have hle := hrw.le
  have hmx := hrw.max
  unfold maxLen at hmx
  have HRW := Lib.hid hrw; clear hrw
  have HG := Lib.hid hg; clear hg
  have hgl := HG.out.lt
  obtain ⟨W1, hW1⟩ : ∃ W1, w.alloc (.cells #[.slice (some ⟨g, 0, none⟩) N N] 33) = W1 := ⟨_, rfl⟩
  have b1 : Below w.heap.size w W1 := by rw [← hW1]; exact belowAlloc _ _
  have hz1 : W1.heap.size = w.heap.size + 1 := by rw [← hW1]; simp
  have hs1 : W1.cell? ⟨w.heap.size, 0, none⟩ = some (.slice (some ⟨g, 0, none⟩) N N) := by rw [← hW1]; simp
  obtain ⟨W2, hW2⟩ : ∃ W2, W1.alloc (.cells #[.int .i64 a] 3) = W2 := ⟨_, rfl⟩
  have b2 : Below W1.heap.size W1 W2 := by rw [← hW2]; exact belowAlloc _ _
  have hz2 : W2.heap.size = w.heap.size + 2 := by rw [← hW2]; simp [hz1]
  have hs2 : W2.cell? ⟨w.heap.size, 0, none⟩ = some (.slice (some ⟨g, 0, none⟩) N N) := (b2.cell (by show w.heap.size < W1.heap.size; omega)).trans hs1
  have hb2 := b1.trans (b2.mono b1.size)
  have hO2 : OwnI W2 (w.heap.size + 1) (.slice (some ⟨w.heap.size + 1, 0, none⟩) 1 1) (ni [a]) := by rw [← hW2, ← hz1]; exact OwnI.litC W1 W1.heap.size a (Nat.le_refl _)
  have HO2 := Lib.hid hO2; clear hO2
  have hga := (HG.out.chg (Chg.ofBelow hb2 fun _ => True) trivial).cell ha
  rw [hk, show ((k + 1 : Nat) : Int) = (k : Int) + 1 by omega] at hga
  have hkm := dstMax (n := N) (f := f) (b := a) ha
  rw [hk] at hkm
  have hgaA : ∀ o, (W2.alloc o).cell? ⟨g, a, none⟩ = some (.int .i64 ((k : Int) + 1)) := fun o => (World.cell?_alloc_past _ _ _ (by show g < W2.heap.size; omega)).trans hga
  have hs2A : ∀ o, (W2.alloc o).cell? ⟨w.heap.size, 0, none⟩ = some (.slice (some ⟨g, 0, none⟩) N N) := fun o => (World.cell?_alloc_past _ _ _ (by show w.heap.size < W2.heap.size; omega)).trans hs2
  clear b1 b2
  go_enter Try.func41, Try.ntmps41
  go_wp2_with fail
  go_region
  clear hgaA hs2A
  obtain ⟨X, hX⟩ : ∃ X, (W2.alloc (.cells #[.int .i64 k] 3)).drew = X := ⟨_, rfl⟩
  have bX : Below W2.heap.size W2 X := by rw [← hX]; exact (belowAlloc W2 _).drew
  have hzX : X.heap.size = w.heap.size + 3 := by rw [← hX]; show (W2.alloc _).heap.size = _; rw [World.size_alloc, hz2]
  have hl0 : X.cell? ⟨w.heap.size + 2, 0, none⟩ = some (.int .i64 k) := by
    rw [← hX]; show (W2.alloc _).cell? _ = _; rw [← hz2]; simp
  have hf0 : X.frozen? ⟨w.heap.size + 2, 0, none⟩ = false := by
    rw [← hX]; show (W2.alloc _).frozen? _ = _; rw [← hz2]; simp
  have hs0 : X.cell? ⟨w.heap.size, 0, none⟩ = some (.slice (some ⟨g, 0, none⟩) N N) := (bX.cell (by show w.heap.size < W2.heap.size; omega)).trans hs2
  have HOX := Lib.hid (HO2.out.chg (Chg.ofBelow bX fun _ => True) fun _ _ => trivial)
  have hbX := hb2.trans (bX.mono hb2.size)
  have HNB := Lib.hid (show ∀ q, (Value.slice (some ⟨w.heap.size + 1, 0, none⟩) 1 1).ownBlock = some q → q < w.heap.size + 2 from fun q e => by
    have : w.heap.size + 1 = q := by simpa [Value.ownBlock] using e
    omega)
  clear hs1 hs2 hga hb2 HO2
  rw [hX]
  go_wp2
  go_loopw [7, 8, 9] (fun vc va vl wr => ∃ (dn : List Nat) (x r lb : Nat), va = .int .i64 x ∧ vl = .pointer (some ⟨lb, 0, none⟩) ∧ x < N ∧ dn.length + r ≤ k + 1 ∧ Hid (dst N f x a = r + 1) ∧ Hid (dn ++ wlk N f a r x = a :: wlk N f a k a) ∧ Hid (OwnI wr (w.heap.size + 1) vc (ni dn)) ∧ Hid (∀ q, vc.ownBlock = some q → q < lb) ∧ w.heap.size < lb ∧ wr.cell? ⟨lb, 0, none⟩ = some (.int .i64 r) ∧ wr.frozen? ⟨lb, 0, none⟩ = false ∧ wr.cell? ⟨w.heap.size, 0, none⟩ = some (.slice (some ⟨g, 0, none⟩) N N) ∧ Below w.heap.size w wr ∧ lb < wr.heap.size) (fun _ va _ _ => dst N f (intOf va).toNat a)
  case atStart => exact ⟨[a], a, k, _, rfl, rfl, ha, by simp; omega, Lib.hid hk, Lib.hid rfl, HOX, HNB, by omega, hl0, hf0, hs0, hbX, by omega⟩
  case round =>
    clear HOX HNB hl0 hf0 hs0 hbX hzX bX hX hz2 hW2 hz1 hW1
    obtain ⟨dn, x, r, lb, rfl, rfl, hx, hdr, HD, HFU, HO, HNB, hlb, hl, hf, hs, hb, hsz⟩ := hrel
    rcases r with _ | q
    · have HE := Lib.hid (show dn = a :: wlk N f a k a by have h := HFU.out; rw [wlk, List.append_nil] at h; exact h)
      obtain ⟨A', c', rfl, hrd, _⟩ := HO.out.rd
      rw [HE.out] at hrd ⊢
      have HRD := Lib.hid hrd; clear hrd
      go_wp2
      go_ret
      exact ⟨A', c', rfl, HRD.out, hb⟩
    · rw [show ((q + 1 : Nat) : Int) = (q : Int) + 1 by omega] at hl
      have hqk : q ≤ 64 := by omega
      obtain ⟨ad, A1, c1, rfl, _, hc1, hr1⟩ := (HRW.out.below hb).one hx
      obtain ⟨i, hi, hie, hin⟩ := wkStep HD.out
      obtain ⟨hy1, hy2, hy3, _⟩ := nxtIs (by omega) HD.out
      obtain ⟨y, hy⟩ : ∃ y, nxt N f a (q + 1) x = y := ⟨_, rfl⟩
      rw [hy] at hie hy1 hy2 hy3
      have hsl := sucLen N f x
      obtain ⟨ln, hln⟩ : ∃ n, (sucI N f x).length = n := ⟨_, rfl⟩
      rw [hln] at hc1 hsl
      have hil : i < ln := by rw [← hln]; exact hi
      have HLN := Lib.hid hln; clear hln
      have HIX := Lib.hid (iIndexWk N (fun x => dst N f x a) (q + 1) w.heap.size lb g (sucI N f x) ln HLN.out (by omega) (fun y hy => by obtain ⟨t, h1, h2, _⟩ := sucMem.1 hy; exact ⟨t, h1, h2⟩) A1 c1 wr hr1 hs hl (HG.out.chg (Chg.ofBelow hb fun _ => True) trivial) i hi ⟨y, hie, hy3⟩ hin)
      have hle1 := hr1.le
      have hmx1 := Rd.max hr1
      unfold maxLen at hmx1
      rw [HLN.out] at hle1
      have HR1 := Lib.hid hr1; clear hr1
      have HIE := Lib.hid hie; clear hie
      have HWL := Lib.hid (show (dn ++ [y]) ++ wlk N f a q y = a :: wlk N f a k a by rw [← HFU.out, wlk, hy]; simp)
      unfold wkV at HIX
      clear hin hy
      go_wp2_with fail
      refine HIX.out.mono ?_
      rintro e w1 ⟨rfl, m, rfl⟩
      obtain ⟨w1, hw1⟩ : ∃ v, wr.drewN m = v := ⟨_, rfl⟩
      rw [hw1]
      have hzw1 : w1.heap.size = wr.heap.size := by rw [← hw1]; rfl
      have hb1 : Below w.heap.size w w1 := by rw [← hw1]; exact belowDrewN hb m
      have hl1 : w1.cell? ⟨lb, 0, none⟩ = some (.int .i64 ((q : Int) + 1)) := by rw [← hw1]; exact hl
      have hs1 : w1.cell? ⟨w.heap.size, 0, none⟩ = some (.slice (some ⟨g, 0, none⟩) N N) := by rw [← hw1]; exact hs
      have HO1 : Hid (OwnI w1 (w.heap.size + 1) u7 (ni dn)) := by rw [← hw1]; exact Lib.hid HO.out
      have HR2 : Hid (Rd w1 A1 c1 (sucI N f x)) := by rw [← hw1]; exact Lib.hid (Rds.drewN HR1.out m)
      have hc2 : w1.cell? (ad.add x) = some (.slice A1 ln c1) := by rw [← hw1]; exact hc1
      obtain ⟨ad1, rfl, _, hc3⟩ := HR2.out.one hi
      rw [HIE.out] at hc3
      obtain ⟨Y, hY⟩ : ∃ Y, w1.alloc (.cells #[.int .i64 y] 3) = Y := ⟨_, rfl⟩
      have hzY : Y.heap.size = wr.heap.size + 1 := by rw [← hY]; simp [hzw1]
      have bY : Below w1.heap.size w1 Y := by rw [← hY]; exact belowAlloc _ _
      have HOY := Lib.hid (HO1.out.chg (Chg.ofBelow bY fun _ => True) fun _ _ => trivial)
      have HRY : Hid (Rd Y (some ⟨wr.heap.size, 0, none⟩) 1 [(y : Int)]) := by rw [← hY, ← hzw1]; exact Lib.hid (Rd.lit w1 [(y : Int)] 3 (by simp))
      have hlY : Y.cell? ⟨lb, 0, none⟩ = some (.int .i64 ((q : Int) + 1)) := (bY.cell (by show lb < w1.heap.size; omega)).trans hl1
      have hsY : Y.cell? ⟨w.heap.size, 0, none⟩ = some (.slice (some ⟨g, 0, none⟩) N N) := (bY.cell (by show w.heap.size < w1.heap.size; omega)).trans hs1
      have hbY := hb1.trans (bY.mono hb1.size)
      clear hw1 hs1 HO1 HR1 hc1 hs hb hf bY
      go_wp2_with (first
        | (at_builtin; refine appG _ rfl (.tmp 36) (.tmp 38) rfl (w.heap.size + 1) _ _ rfl HOY.out (some ⟨wr.heap.size, 0, none⟩) y rfl HRY.out (by rw [niLen]; omega) (by omega) ?_; intro v7 w7 o7 g7 m7; have O7 := Lib.hid o7; have G7 := Lib.hid g7; have M7 := Lib.hid m7; clear o7 g7 m7; have hl7 := (grownCell G7.out (a := ⟨lb, 0, none⟩) (by show lb < Y.heap.size; omega) (fun e => absurd (HNB.out _ e) (by show ¬ lb < lb; omega))).1.trans hlY)
        | fail)
      have b7 : Below w.heap.size Y w7 := (Below.refl _ Y).grown G7.out (by omega) (fun j hj => by have := (HOY.out.lt hj).1; omega)
      have hb7 := hbY.trans b7
      have hs7 := (grownCell G7.out (a := ⟨w.heap.size, 0, none⟩) (by show w.heap.size < Y.heap.size; omega) (fun e => by have h := (HOY.out.lt e).1; have h : w.heap.size + 1 ≤ w.heap.size := h; omega)).1.trans hsY
      have hsz7 := hb7.size
      have hlt7 : w.heap.size < w7.heap.size := by have := G7.out.size; omega
      have HO8 : Hid (OwnI (w7.alloc (.cells #[.int .i64 q] 3)) (w.heap.size + 1) v7 (ni (dn ++ [y]))) := Lib.hid (by rw [niApp]; exact OwnI.alloc O7.out _)
      have HN8 := Lib.hid (show ∀ j, v7.ownBlock = some j → j < w7.heap.size from fun j hj => (O7.out.lt hj).2)
      go_roundw
      case rel => exact ⟨dn ++ [y], y, q, w7.heap.size, rfl, rfl, hy1, by simp; omega, Lib.hid hy3, HWL, HO8, HN8, hlt7, by simp, by simp, (World.cell?_alloc_past _ _ _ hlt7).trans hs7, hb7.alloc hsz7 _, by simp⟩
      case measure =>
        have h1 := HD.out
        simp [intOf, hy3, h1]
end Go.Proofs.Ytpfdhjmhoggioaa
