/-
  Acyclic: the library's IndexFunc and ContainsFunc with a function value that turns memory; the recursive function value.
-/
import Derived.Test.YtjioiaeiggjneaaDoorKRAcM
import Derived.StillTailTactics
namespace Go.Proofs.YtjioiaeiggjneaaDoor
open Go.RowKit Go.Maps

/-- The recursive function value. -/
def acV (eb lb nb vb : Nat) : Value := .func (.func 45) #[] #[.pointer (some ⟨eb, 0, none⟩), .pointer (some ⟨lb, 0, none⟩), .pointer (some ⟨nb, 0, none⟩), .pointer (some ⟨vb, 0, none⟩)]
/-- What the function value sees: the entered, the left, the successors, itself. -/
structure EnvA (w : World) (eb lb nb vb ge gl : Nat) (A : Option Addr) (c N : Nat) (f : Nat → Nat → Bool) : Prop where
  ent : w.cell? ⟨eb, 0, none⟩ = some (.slice (some ⟨ge, 0, none⟩) N N)
  lef : w.cell? ⟨lb, 0, none⟩ = some (.slice (some ⟨gl, 0, none⟩) N N)
  nxt : w.cell? ⟨nb, 0, none⟩ = some (.slice A N c)
  self : w.cell? ⟨vb, 0, none⟩ = some (acV eb lb nb vb)
  rows : RdF w A c (sucI N f) N
theorem EnvA.chg {w w' : World} {F : Nat → Prop} {eb lb nb vb ge gl : Nat} {A : Option Addr} {c N : Nat} {f : Nat → Nat → Bool} (h : EnvA w eb lb nb vb ge gl A c N f) (hc : Chg w w' F) (hF : ∀ (a : Addr) (u : Value), w.cell? a = some u → (∀ b, u ≠ .bool b) → F a.block) : EnvA w' eb lb nb vb ge gl A c N f := by
  have key : ∀ (a : Addr) (u : Value), w.cell? a = some u → (∀ b, u ≠ .bool b) → w'.cell? a = some u := fun a u hu hb => by
    have hlt := World.block_lt_of_cell? w a hu
    exact (World.cell?_of_block (hc.block _ hlt (hF _ _ hu hb))).trans hu
  refine ⟨key _ _ h.ent (by intro b e; cases e), key _ _ h.lef (by intro b e; cases e), key _ _ h.nxt (by intro b e; cases e), key _ _ h.self (by intro b e; unfold acV at e; cases e), ?_⟩
  obtain ⟨vs, h1, h2, h3⟩ := h.rows
  refine ⟨vs, ⟨h1.le, h1.max, fun hn => ?_⟩, h2, fun i hi => ?_⟩
  · obtain ⟨ad, e, hl, hcell⟩ := h1.at_ hn
    refine ⟨ad, e, Nat.lt_of_lt_of_le hl hc.size, fun j u hu => key _ _ (hcell j u hu) ?_⟩
    have hj : j < N := by have := (List.getElem?_eq_some_iff.1 hu).1; omega
    obtain ⟨A', c', e', _⟩ := h3 j hj
    rw [hu] at e'
    injection e' with e'
    intro b e2
    rw [e2] at e'
    cases e'
  · obtain ⟨A', c', e, hr⟩ := h3 i hi
    refine ⟨A', c', e, ⟨Rds.le hr, Rds.max hr, fun hn => ?_⟩⟩
    obtain ⟨ad, e, hl, hcell⟩ := Rds.at_ hr hn
    refine ⟨ad, e, Nat.lt_of_lt_of_le hl hc.size, fun j u hu => key _ _ (hcell j u hu) ?_⟩
    unfold iv at hu
    rw [List.getElem?_map] at hu
    cases e3 : (sucI N f i)[j]? with
    | none => rw [e3] at hu; cases hu
    | some z => rw [e3] at hu; intro b e2; rw [e2] at hu; cases hu
theorem EnvA.kept {w w' : World} {eb lb nb vb ge gl : Nat} {A : Option Addr} {c N : Nat} {f : Nat → Nat → Bool} {E L : Nat → Bool} (h : EnvA w eb lb nb vb ge gl A c N f) (hE : RowB w ge N E) (hL : RowB w gl N L) (hc : Chg w w' (fun g => g ≠ ge ∧ g ≠ gl)) : EnvA w' eb lb nb vb ge gl A c N f :=
  h.chg hc fun _ _ hu hb => ⟨hE.bools hu hb, hL.bools hu hb⟩

theorem rdKeptB {w w' : World} {ge gl N : Nat} {E L : Nat → Bool} {A : Option Addr} {c : Nat} {l : List Int} (h : Rd w A c l) (hE : RowB w ge N E) (hL : RowB w gl N L) (hc : Chg w w' (fun g => g ≠ ge ∧ g ≠ gl)) : Rd w' A c l :=
  h.chg hc fun ad e hl => by
    obtain ⟨ad', e', _, hcell⟩ := h.one hl
    rw [e] at e'
    injection e' with e'
    subst e'
    have h1 := hE.bools hcell (by intro b e; cases e)
    have h2 := hL.bools hcell (by intro b e; cases e)
    rw [addBlock] at h1 h2
    exact ⟨h1, h2⟩

set_option maxHeartbeats 1000000 in
/-- IndexFunc with the function value: I j holds after j elements that it says no to, Q after one that it says yes to. -/
theorem iIndexAc (eb lb nb vb : Nat) (L : List Int) (n : Nat) (hn : L.length = n) (hs : n ≤ 65536) (I : Nat → World → Prop) (Q : World → Prop) (A : Option Addr) (c : Nat) (hI : ∀ j w, I j w → Rd w A c L)
    (hcall : ∀ j (h : j < L.length) w, I j w → Calls Tryd.prog 45 #[.int .i64 L[j], .pointer (some ⟨eb, 0, none⟩), .pointer (some ⟨lb, 0, none⟩), .pointer (some ⟨nb, 0, none⟩), .pointer (some ⟨vb, 0, none⟩)] w fun e w' => ∃ b, e = .returned (.bool b) ∧ if b = true then Q w' else I (j + 1) w')
    (w : World) (h0 : I 0 w) :
    Calls Tryd.prog 51 #[.slice A n c, acV eb lb nb vb] w fun e w' => ∃ z : Int, e = .returned (.int .i64 z) ∧ ((z = -1 ∧ I n w') ∨ (0 ≤ z ∧ Q w')) := by
  have HI := Lib.hid hI; clear hI
  have HC := Lib.hid hcall; clear hcall
  have HN := Lib.hid hn; clear hn
  have H0 := Lib.hid h0; clear h0
  have hle := (HI.out 0 w H0.out).le
  have hmx := Rd.max (HI.out 0 w H0.out)
  unfold maxLen at hmx
  rw [HN.out] at hle
  unfold acV
  go_enter Tryd.func51, Tryd.ntmps51
  go_wp2
  go_loopw [8] (fun i wr => ∃ j : Nat, j ≤ n ∧ i = .int .i64 j ∧ Hid (I j wr)) (fun i _ => n - (intOf i).toNat)
  case atStart => exact ⟨0, Nat.zero_le _, rfl, H0⟩
  case round =>
    clear H0
    obtain ⟨j, hj, rfl, HJ⟩ := hrel
    by_cases hlt : j < n
    · have hjl : j < L.length := by rw [HN.out]; exact hlt
      obtain ⟨ad, rfl, _, hcj⟩ := (HI.out _ _ HJ.out).one hjl
      go_wp2_with fail
      refine (HC.out j hjl wr HJ.out).mono ?_
      rintro e w1 ⟨b, rfl, hb⟩
      cases b with
      | true =>
        have HQ := Lib.hid (show Q w1 from hb)
        clear hb
        go_wp2
        go_ret
        exact ⟨_, rfl, .inr ⟨by omega, HQ.out⟩⟩
      | false =>
        have HQ := Lib.hid (show I (j + 1) w1 from hb)
        clear hb
        go_wp2
        go_roundw
        case rel => exact ⟨j + 1, by omega, by go_num, HQ⟩
        case measure => simp [intOf]; omega
    · obtain rfl : j = n := by omega
      go_wp2
      go_ret
      exact ⟨_, rfl, .inl ⟨rfl, HJ.out⟩⟩
/-- ContainsFunc with it. -/
theorem iContainsAc (eb lb nb vb : Nat) (L : List Int) (n : Nat) (hn : L.length = n) (hs : n ≤ 65536) (I : Nat → World → Prop) (Q : World → Prop) (A : Option Addr) (c : Nat) (hI : ∀ j w, I j w → Rd w A c L)
    (hcall : ∀ j (h : j < L.length) w, I j w → Calls Tryd.prog 45 #[.int .i64 L[j], .pointer (some ⟨eb, 0, none⟩), .pointer (some ⟨lb, 0, none⟩), .pointer (some ⟨nb, 0, none⟩), .pointer (some ⟨vb, 0, none⟩)] w fun e w' => ∃ b, e = .returned (.bool b) ∧ if b = true then Q w' else I (j + 1) w')
    (w : World) (h0 : I 0 w) :
    Calls Tryd.prog 46 #[.slice A n c, acV eb lb nb vb] w fun e w' => ∃ b, e = .returned (.bool b) ∧ if b = true then Q w' else I n w' := by
  have HX := Lib.hid (iIndexAc eb lb nb vb L n hn hs I Q A c hI hcall w h0)
  clear hI hcall h0
  unfold acV at HX ⊢
  go_enter Tryd.func46, Tryd.ntmps46
  go_wp2_with fail
  refine HX.out.mono ?_
  rintro e w1 ⟨z, rfl, hz⟩
  rcases hz with ⟨rfl, h⟩ | ⟨hz, h⟩
  · go_wp2
    go_ret
    exact ⟨false, rfl, h⟩
  · have hge : decide (z ≥ 0) = true := decide_eq_true hz
    go_wp2
    go_ret
    exact ⟨true, by simp, h⟩

set_option maxRecDepth 100000 in
set_option maxHeartbeats 2000000 in
theorem iMeets (N : Nat) (hN : N ≤ 64) (f : Nat → Nat → Bool) (eb lb nb vb ge gl : Nat) (A : Option Addr) (c : Nat) (hne : ge ≠ gl) : ∀ (m a : Nat) (E L : Nat → Bool) (w : World), a < N → notIn N E = m → Hid (EnvA w eb lb nb vb ge gl A c N f) → Hid (RowB w ge N E) → Hid (RowB w gl N L) → Hid (AcIn N f E L a) →
    Calls Tryd.prog 45 #[.int .i64 a, .pointer (some ⟨eb, 0, none⟩), .pointer (some ⟨lb, 0, none⟩), .pointer (some ⟨nb, 0, none⟩), .pointer (some ⟨vb, 0, none⟩)] w fun e w' => ∃ b E' L', e = .returned (.bool b) ∧ RowB w' ge N E' ∧ RowB w' gl N L' ∧ Chg w w' (fun g => g ≠ ge ∧ g ≠ gl) ∧
      if b = true then ∃ x, x < N ∧ tcT N f x x = true else AcMid N f E L E' L' ∧ L' a = true := by
  intro m
  induction m using Nat.strongRecOn with
  | _ m ih =>
    intro a E L w ha hm HE HRE HRL HIN
    have HIH := Lib.hid ih; clear ih
    have HM := Lib.hid hm; clear hm
    have e1 := HE.out.ent
    have e2 := HE.out.lef
    have hce := HRE.out.cell ha
    have hcl := HRL.out.cell ha
    rcases hEa : E a with _ | _
    · have HEA := Lib.hid hEa
      rw [hEa] at hce
      clear hEa
      have hfe := HRE.out.frozen a
      obtain ⟨W1, hW1⟩ : ∃ W1, w.setCell ⟨ge, a, none⟩ (.bool true) = W1 := ⟨_, rfl⟩
      have HRE1 := Lib.hid (show RowB W1 ge N (with_ E a) by rw [← hW1]; exact HRE.out.set a)
      have c1 : Chg w W1 (fun g => g ≠ ge) := by rw [← hW1]; exact Chg.setCell w ⟨ge, a, none⟩ _
      have HRL1 := Lib.hid (HRL.out.chg c1 (Ne.symm hne))
      have HC1 := Lib.hid (c1.mono (G := fun g => g ≠ ge ∧ g ≠ gl) fun _ h => h.1)
      have HE1 := Lib.hid (HE.out.kept HRE.out HRL.out HC1.out)
      have e3 := HE1.out.nxt
      have e4 := HE1.out.self
      obtain ⟨ad, A1, d1, rfl, _, hc1, hr1⟩ := HE1.out.rows.one ha
      have HR1 := Lib.hid hr1; clear hr1
      have hlen := sucLen N f a
      obtain ⟨n, hn⟩ : ∃ n, (sucI N f a).length = n := ⟨_, rfl⟩
      rw [hn] at hc1 hlen
      have HLN := Lib.hid hn; clear hn
      have hle := HE1.out.rows.le
      have hmx := HE1.out.rows.max
      unfold maxLen at hmx
      have HEA1 := Lib.hid (show with_ E a a = true from withIff.2 (.inr rfl))
      clear c1
      go_enter Tryd.func45, Tryd.ntmps45
      go_wp2_with fail
      go_still_tail 5, (by kernel_rfl)
      change wpList _ _ _ _ _ W1.drew
      obtain ⟨W2, hW2⟩ : ∃ W2, W1.drew = W2 := ⟨_, rfl⟩
      have cd : Chg W1 W2 (fun g => g ≠ ge ∧ g ≠ gl) := by rw [← hW2]; exact Chg.drewN W1 1 _
      have HE2 := Lib.hid (HE1.out.kept HRE1.out HRL1.out cd)
      have HRE2 := Lib.hid (show RowB W2 ge N (with_ E a) by rw [← hW2]; exact HRE1.out.drew)
      have HRL2 := Lib.hid (show RowB W2 gl N L by rw [← hW2]; exact HRL1.out.drew)
      have HR2 := Lib.hid (rdKeptB HR1.out HRE1.out HRL1.out cd)
      have HC2 := Lib.hid (HC1.out.trans cd fun _ _ h => h)
      have hlt1 := notInLt (n := N) (E := E) (F := with_ E a) (fun x h => withIff.2 (.inl h)) ha HEA.out HEA1.out
      have hcx := iContainsAc eb lb nb vb (sucI N f a) n HLN.out (by omega)
        (fun j w' => ∃ E' L', RowB w' ge N E' ∧ RowB w' gl N L' ∧ AcLoop N f E L a j E' L' ∧ Chg W2 w' (fun g => g ≠ ge ∧ g ≠ gl))
        (fun w' => ∃ E' L', RowB w' ge N E' ∧ RowB w' gl N L' ∧ (∃ x, x < N ∧ tcT N f x x = true) ∧ Chg W2 w' (fun g => g ≠ ge ∧ g ≠ gl))
        A1 d1 (fun j w' ⟨E', L', _, _, _, hc⟩ => rdKeptB HR2.out HRE2.out HRL2.out hc)
        (fun j hj w' ⟨E', L', h1, h2, h3, h4⟩ => by
          obtain ⟨t, ht, htN, hft⟩ := sucMem.1 (List.getElem_mem hj)
          rw [ht]
          have hle2 := notInLe (n := N) h3.mono
          have hm := HM.out
          refine (HIH.out _ (by omega) t E' L' w' htN rfl (Lib.hid (HE2.out.kept HRE2.out HRL2.out h4)) (Lib.hid h1) (Lib.hid h2) (Lib.hid (acInto HIN.out ha h3 hft))).mono ?_
          rintro e w'' ⟨b, E'', L'', rfl, r1, r2, c2, hr⟩
          refine ⟨b, rfl, ?_⟩
          cases b with
          | true =>
            rw [if_pos rfl] at hr ⊢
            exact ⟨E'', L'', r1, r2, hr, h4.trans c2 fun _ _ h => h⟩
          | false =>
            rw [if_neg (by decide)] at hr ⊢
            exact ⟨E'', L'', r1, r2, acNext h3 hj ht htN hr.1 hr.2, h4.trans c2 fun _ _ h => h⟩)
        W2 ⟨with_ E a, L, HRE2.out, HRL2.out, acLoop0 HIN.out, Chg.refl _ _⟩
      have HCX := Lib.hid hcx; clear hcx cd
      rw [hW2]
      go_wp2_with fail
      refine HCX.out.mono ?_
      rintro e w3 ⟨b, rfl, hb⟩
      have hrows : ∃ E' L', RowB w3 ge N E' ∧ RowB w3 gl N L' ∧ Chg W2 w3 (fun g => g ≠ ge ∧ g ≠ gl) ∧ (if b = true then ∃ x, x < N ∧ tcT N f x x = true else AcLoop N f E L a n E' L') := by
        cases b with
        | true => rw [if_pos rfl] at hb; obtain ⟨E', L', h1, h2, h3, h4⟩ := hb; exact ⟨E', L', h1, h2, h4, by rw [if_pos rfl]; exact h3⟩
        | false => rw [if_neg (by decide)] at hb; obtain ⟨E', L', h1, h2, h3, h4⟩ := hb; exact ⟨E', L', h1, h2, h4, by rw [if_neg (by decide)]; exact h3⟩
      clear hb
      obtain ⟨E', L', h1, h2, h4, h3⟩ := hrows
      have HE3 := Lib.hid (HE2.out.kept HRE2.out HRL2.out h4)
      have HRE3 := Lib.hid h1
      have HRL3 := Lib.hid h2
      have HC3 := Lib.hid (HC2.out.trans h4 fun _ _ h => h)
      have H3 := Lib.hid h3
      clear h1 h2 h3 h4
      have k1 := HE3.out.lef
      have k2 := HRL3.out.cell ha
      have k3 := HRL3.out.frozen a
      go_wp2
      go_ret
      refine ⟨b, E', with_ L' a, rfl, HRE3.out.chg (Chg.setCell w3 ⟨gl, a, none⟩ _) hne, HRL3.out.set a, HC3.out.trans (Chg.setCell w3 ⟨gl, a, none⟩ _) (fun _ _ h => h.2), ?_⟩
      have h3 := H3.out
      cases b with
      | true => rw [if_pos rfl] at h3 ⊢; exact h3
      | false => rw [if_neg (by decide)] at h3 ⊢; exact acOut HIN.out ha HEA.out h3 (by rw [HLN.out]; exact Nat.le_refl _)
    · rw [hEa] at hce
      rcases hLa : L a with _ | _
      · rw [hLa] at hcl
        have HB := Lib.hid (HIN.out.gray a ha hEa hLa)
        clear hEa hLa
        go_enter Tryd.func45, Tryd.ntmps45
        go_wp2
        go_ret
        exact ⟨true, E, L, rfl, HRE.out, HRL.out, Chg.refl _ _, a, ha, HB.out⟩
      · rw [hLa] at hcl
        have HLA := Lib.hid hLa
        clear hEa hLa
        go_enter Tryd.func45, Tryd.ntmps45
        go_wp2
        go_ret
        exact ⟨false, E, L, rfl, HRE.out, HRL.out, Chg.refl _ _, AcMid.refl HIN.out.toAcOk, HLA.out⟩
end Go.Proofs.YtjioiaeiggjneaaDoor
