/-
  The contract of appendChoices: it appends every choice of size elements of rest behind chosen, in lexicographic order.
-/
import Derived.Test.YthfllfdgndaddaaLists
import Derived.Test.YthfllfdgndaddaaCombos
import Derived.Test.YthfllfdgndaddaaSetOps
import Derived.Deep.RegionHeld3
namespace Go.Proofs.Ythfllfdgndaddaa
open Go.RowKit

/-- Where the rows of a call of appendChoices lie, and what has not changed since its start in w. -/
structure ChoRel (F0 : Nat → Prop) (va vc : Value) (c : List Int) (base : Nat) (w : World) (v : Value) (vs : List Value) (cur : List (List Int)) (w' : World) : Prop where
  all : OwnL w' base v vs
  els : IsL w' base (fun g => F0 g ∨ w.heap.size ≤ g) vs cur
  cho : OwnI w' base vc c
  blk : v.ownBlock = va.ownBlock ∨ ∃ g, v.ownBlock = some g ∧ w.heap.size ≤ g
  chg : Chg w w' (fun g => vc.ownBlock ≠ some g ∧ va.ownBlock ≠ some g)
def ChoPost (F0 : Nat → Prop) (va vc : Value) (c : List Int) (base : Nat) (w : World) (full : List (List Int)) (e : Ending) (w' : World) : Prop :=
  ∃ v vs, e = .returned v ∧ ChoRel F0 va vc c base w v vs full w'

theorem ChoRel.start {F0 : Nat → Prop} {va vc : Value} {c : List Int} {base : Nat} {w : World} {vs : List Value} {ls : List (List Int)} (h1 : OwnL w base va vs) (h2 : IsL w base F0 vs ls) (h3 : OwnI w base vc c) : ChoRel F0 va vc c base w va vs ls w :=
  ⟨h1, h2.mono fun _ => Or.inl, h3, Or.inl rfl, Chg.refl _ _⟩

theorem choBase {F0 : Nat → Prop} {ls : List (List Int)} {vs : List Value} {va vc v1 v2 : Value} {c : List Int} {base : Nat} {w w1 w2 : World} (hb : base ≤ w.heap.size) (hva : OwnL w base va vs) (hls : IsL w base F0 vs ls) (hvc : OwnI w base vc c)
    (o1 : OwnI w1 w.heap.size v1 c) (b1 : Below w.heap.size w w1) (o2 : OwnL w2 base v2 (vs ++ [v1])) (g2 : (w1.alloc (.cells #[v1] 22)).grownBy w2 va.ownBlock) (m2 : Moved (w1.alloc (.cells #[v1] 22)) va v2 vs.length 1) :
    ChoRel F0 va vc c base w v2 (vs ++ [v1]) (ls ++ [c]) w2 := by
  have c1 : Chg w w2 (fun g => va.ownBlock ≠ some g) := ((Chg.ofBelow b1 fun _ => True).trans (Chg.alloc w1 _ fun _ => True) fun _ _ _ => trivial).mono (fun _ _ => trivial) |>.trans (Chg.ofGrown g2 (F := fun g => va.ownBlock ≠ some g) fun _ h => h) fun _ _ h => h
  have c2 : Chg w1 w2 (fun g => va.ownBlock ≠ some g) := (Chg.alloc w1 _ fun g => va.ownBlock ≠ some g).trans (Chg.ofGrown g2 (F := fun g => va.ownBlock ≠ some g) fun _ h => h) fun _ _ h => h
  refine ⟨o2, IsL.append ?_ ⟨ownMono (OwnI.chg o1 c2 fun g hg e => ?_) hb, fun g hg => Or.inr (o1.lt hg).1, trivial⟩, OwnI.chg hvc c1 fun g hg => ownApart hvc hva (by decide) hg, ?_, c1.mono fun g h => h.2⟩
  · exact (((hls.apart hva).chg c1 fun g h _ => h.2).mono fun g h => Or.inl h.1)
  · have h1 := (o1.lt hg).1
    have h2 := (World.ownsRow.lt hva g e).2
    omega
  · rcases movedBlock m2 with h | h
    · exact Or.inl h
    · exact Or.inr ⟨_, h, by have := b1.size; simp; omega⟩

set_option maxHeartbeats 1000000 in
theorem choZero (F0 : Nat → Prop) (ls : List (List Int)) (vs : List Value) (va vc : Value) (c rest : List Int) (base n cr : Nat) (R : Option Addr) (w : World) (full : List (List Int)) (hfull : ls ++ chs c rest 0 = full)
    (hb : base ≤ w.heap.size) (hva : OwnL w base va vs) (hls : IsL w base F0 vs ls) (hvc : OwnI w base vc c) (hc : c.length ≤ 1000) (hf : full.length ≤ 1000000) :
    Calls Try.prog 41 #[va, vc, .slice R n cr, .int .i64 0] w (ChoPost F0 va vc c base w full) := by
  have hl := hls.len
  rw [chsZero] at hfull
  have hlf : vs.length + 1 ≤ 1000000 := by rw [← hfull, List.length_append] at hf; simp at hf; omega
  have HF := Lib.hid hfull; clear hfull hf hl
  have HC := Lib.hid hvc; clear hvc
  obtain ⟨A, cc, rfl, rc, _⟩ := HC.out.rd
  have HL := Lib.hid hls; clear hls
  have HV := Lib.hid hva; clear hva
  have HN := Lib.hid (OwnI.nil w w.heap.size)
  go_enter Try.func41, Try.ntmps41
  go_wp2_with (first
    | (at_builtin; refine appI _ rfl (.const (.slice none 0 0)) (.tmp 13) rfl w.heap.size _ [] rfl HN.out A c.length cc c rfl rfl rc (by simp; omega) (Nat.le_refl _) ?_; intro v1 w1 o1 _ b1; rw [List.nil_append] at o1; obtain ⟨A1, c1, rfl, r1, _⟩ := o1.rd)
    | (at_builtin; refine appL _ rfl (.tmp 12) (.tmp 15) rfl base _ _ rfl ((HV.out.chg (Chg.ofBelow b1 fun _ => True) fun _ _ => trivial).chg (Chg.alloc w1 _ fun _ => True) fun _ _ => trivial) (some ⟨w1.heap.size, 0, none⟩) 1 1 [.slice A1 c.length c1] rfl rfl (Rds.lit w1 [.slice A1 c.length c1] 22 (by simp [maxLen])) (by simp [Value.oneCell']) (by simp; omega) (by have := b1.size; simp; omega) ?_; intro v2 w2 o2 g2 m2))
  go_ret
  rw [← HF.out]
  exact ⟨v2, _, rfl, choBase hb HV.out HL.out HC.out o1 b1 o2 g2 m2⟩

section
variable {F0 : Nat → Prop} {va vc vcur v1 : Value} {c rest tl : List Int} {base : Nat} {w wr W1 w1 : World} {vs : List Value} {cur : List (List Int)} {x : Int} {T : Option Addr} {ct : Nat}
theorem movedNew {g : Nat} (hW : w.heap.size ≤ W1.heap.size) (m1 : Moved W1 vc v1 c.length 1) (hg : g < w.heap.size) (h : vc.ownBlock ≠ some g) : v1.ownBlock ≠ some g := by
  rcases movedBlock m1 with e | e
  · rw [e]; exact h
  · rw [e]; intro h'; injection h' with h'; omega
theorem choPre (hvc : OwnI w base vc c) (hF : ∀ g, F0 g → vc.ownBlock ≠ some g) (rel : ChoRel F0 va vc c base w vcur vs cur wr)
    (bW : Below wr.heap.size wr W1) (g1 : W1.grownBy w1 vc.ownBlock) (m1 : Moved W1 vc v1 c.length 1)
    (hT : Rd w T ct tl) (hsep : ∀ ad, T = some ad → 0 < tl.length → vc.ownBlock ≠ some ad.block ∧ va.ownBlock ≠ some ad.block) :
    OwnL w1 base vcur vs ∧ IsL w1 base (fun g => (F0 g ∨ w.heap.size ≤ g) ∧ g < wr.heap.size) vs cur ∧ (∀ g, (F0 g ∨ w.heap.size ≤ g) ∧ g < wr.heap.size → v1.ownBlock ≠ some g) ∧
      Rd w1 T ct tl ∧ (∀ ad, T = some ad → 0 < tl.length → v1.ownBlock ≠ some ad.block ∧ vcur.ownBlock ≠ some ad.block) ∧ Chg w w1 (fun g => vc.ownBlock ≠ some g ∧ va.ownBlock ≠ some g) := by
  have hw := rel.chg.size
  have hW := bW.size
  have c1 : Chg wr w1 (fun g => vc.ownBlock ≠ some g) := (Chg.ofBelow bW (fun g => vc.ownBlock ≠ some g)).trans (Chg.ofGrown g1 (F := fun g => vc.ownBlock ≠ some g) fun _ h => h) fun _ _ h => h
  have hne : ∀ g, F0 g ∨ w.heap.size ≤ g → vc.ownBlock ≠ some g := fun g hg => by
    rcases hg with hg | hg
    · exact hF g hg
    · intro e; have := (hvc.lt e).2; omega
  have hblk : ∀ ad, T = some ad → 0 < tl.length → ad.block < w.heap.size := fun ad e hl => by
    obtain ⟨ad', e', hlt, _⟩ := Rds.at_ hT (by simpa using hl)
    rw [e] at e'; injection e' with e'; subst e'; exact hlt
  refine ⟨rel.all.chg c1 fun g hg => ownApart rel.all rel.cho (by decide) hg, ?_, ?_, hT.chg (rel.chg.trans c1 fun _ _ h => h.1) fun ad e hl => hsep ad e hl, fun ad e hl => ⟨movedNew (Nat.le_trans hw hW) m1 (hblk ad e hl) (hsep ad e hl).1, ?_⟩, rel.chg.trans c1 fun _ _ h => h.1⟩
  · exact ((rel.els.chg c1 fun g hg _ => hne g hg).low.mono fun g h => h.1) |> fun h => by
      have h2 := (rel.els.low.mono (G := fun g => (F0 g ∨ w.heap.size ≤ g) ∧ g < wr.heap.size) fun g h => ⟨h.1, h.2.2⟩)
      exact h2.chg c1 fun g hg _ => hne g hg.1
  · rintro g ⟨hg, hlt⟩
    rcases movedBlock m1 with e | e
    · rw [e]; exact hne g hg
    · rw [e]; intro h'; injection h' with h'; omega
  · rcases rel.blk with e' | ⟨g, e', hg⟩
    · rw [e']; exact (hsep ad e hl).2
    · rw [e']; intro h'; injection h' with h'; have := hblk ad e hl; omega
theorem choAfter {v2 : Value} {vs2 : List Value} {full : List (List Int)} {w2 : World} (hvc : OwnI w base vc c) (rel : ChoRel F0 va vc c base w vcur vs cur wr)
    (bW : Below wr.heap.size wr W1) (g1 : W1.grownBy w1 vc.ownBlock) (o1 : OwnI w1 base vc c) (ol : OwnL w1 base vcur vs) (m1 : Moved W1 vc v1 c.length 1)
    (r2 : ChoRel (fun g => (F0 g ∨ w.heap.size ≤ g) ∧ g < wr.heap.size) vcur v1 (c ++ [x]) base w1 v2 vs2 full w2) : ChoRel F0 va vc c base w v2 vs2 full w2 := by
  have hw := rel.chg.size
  have hW := bW.size
  have h1 := g1.size
  have c1 : Chg wr w1 (fun g => vc.ownBlock ≠ some g) := (Chg.ofBelow bW (fun g => vc.ownBlock ≠ some g)).trans (Chg.ofGrown g1 (F := fun g => vc.ownBlock ≠ some g) fun _ h => h) fun _ _ h => h
  refine ⟨r2.all, r2.els.mono fun g hg => ?_, ?_, ?_, ?_⟩
  · rcases hg with hg | hg
    · exact hg.1
    · exact Or.inr (by omega)
  · rcases m1 with ⟨g, cap, rfl, rfl⟩ | e | ⟨_, e⟩
    · have h := r2.cho
      unfold OwnI at h ⊢
      rw [List.length_append, iv, List.map_append] at h
      exact ownShort h (by simp)
    · refine o1.chg r2.chg fun g hg => ⟨?_, ownApart o1 ol (by decide) hg⟩
      rw [e]; intro h'; injection h' with h'; have := (hvc.lt hg).2; omega
    · omega
  · rcases r2.blk with e | ⟨g, e, hg⟩
    · rw [e]; exact rel.blk
    · exact Or.inr ⟨g, e, by omega⟩
  · refine (rel.chg.trans c1 fun _ _ h => h.1).trans r2.chg fun k hk h => ⟨movedNew (Nat.le_trans hw hW) m1 hk h.1, ?_⟩
    rcases rel.blk with e' | ⟨g, e', hg⟩
    · rw [e']; exact h.2
    · rw [e']; intro h'; injection h' with h'; omega
end

theorem cellOf {w w' : World} {F : Nat → Prop} {ad : Addr} {cr j : Nat} {rest : List Int} (hR : Rd w (some ad) cr rest) (hc : Chg w w' F) (hF : F ad.block) (hj : j < rest.length) : w'.cell? (ad.add j) = some (.int .i64 rest[j]) := by
  obtain ⟨ad', e, _, h⟩ := (hR.chg hc fun ad' e _ => by injection e with e; subst e; exact hF).one hj
  injection e with e; subst e; exact h
def ChoSaid (k : Nat) : Prop := ∀ (F0 : Nat → Prop) (ls : List (List Int)) (vs : List Value) (va vc : Value) (c rest : List Int) (base n cr : Nat) (R : Option Addr) (w : World) (full : List (List Int)) (kz : Int),
  kz = (k : Int) → ls ++ chs c rest k = full → base ≤ w.heap.size → OwnL w base va vs → IsL w base F0 vs ls → OwnI w base vc c → (∀ g, F0 g → vc.ownBlock ≠ some g) → Rd w R cr rest → rest.length = n → n ≤ 1000 → c.length + k ≤ 1000 → k ≤ n →
  (∀ ad, R = some ad → 0 < rest.length → vc.ownBlock ≠ some ad.block ∧ va.ownBlock ≠ some ad.block) → full.length ≤ 1000000 →
  Calls Try.prog 41 #[va, vc, .slice R n cr, .int .i64 kz] w (ChoPost F0 va vc c base w full)

set_option maxHeartbeats 2000000 in
theorem choSucc (k : Nat) (ih : ChoSaid k) : ChoSaid (k + 1) := by
  intro F0 ls vs va vc c rest base n cr R w full kz hkz hfull hb hva hls hvc hF hR hn hn1 hc hkn hsep hf
  have IH := Lib.hid ih; clear ih
  have rel0 := Lib.hid (ChoRel.start (F0 := F0) hva hls hvc)
  have hkz0 : 1 ≤ kz := by omega
  have hkz1 : kz ≤ n := by omega
  have hk0 : (kz == 0) = false := by simp; omega
  have HKZ := Lib.hid hkz; clear hkz
  have HFULL := Lib.hid hfull; clear hfull
  have HVC := Lib.hid hvc; clear hvc
  have HF0 := Lib.hid hF; clear hF
  have HR := Lib.hid hR; clear hR
  have HN := Lib.hid hn; clear hn
  have HS := Lib.hid hsep; clear hsep
  clear hva hls
  obtain ⟨i0, hi, hz0, hz1, hz2⟩ := info_parts infoInt
  go_enter Try.func41, Try.ntmps41
  go_wp2
  go_loopw [0, 22] (fun v i wr => ∃ (j : Nat) (vs' : List Value) (cur : List (List Int)), (j : Int) ≤ n - kz + 1 ∧ i = .int .i64 j ∧ Hid (cur ++ chs c (rest.drop j) (k + 1) = full) ∧ ChoRel F0 va vc c base w v vs' cur wr) (fun _ i _ => n + 1 - (intOf i).toNat)
  case atStart => exact ⟨0, vs, ls, by omega, rfl, HFULL, rel0.out⟩
  case round =>
    clear rel0 HFULL
    obtain ⟨j, vs', cur, hj, rfl, HT, hrel⟩ := hrel
    have REL := Lib.hid hrel; clear hrel
    by_cases hlt : (j : Int) < n - kz + 1
    · have hjn : j < rest.length := by have := HN.out; omega
      have hrd := HR.out.chg REL.out.chg fun ad e hl => HS.out ad e hl
      obtain ⟨ad, rfl, hadl, hcell⟩ := hrd.one hjn
      clear hrd
      have HSA := Lib.hid (HS.out ad rfl (by omega))
      obtain ⟨x, hx⟩ : ∃ x, rest[j] = x := ⟨_, rfl⟩
      rw [hx] at hcell
      have HX := Lib.hid hx; clear hx
      obtain ⟨T, hTT, hRT, hTb⟩ := cutTail (some ad) n cr (j + 1) (by have := HN.out; omega) ((j : Int) + 1) (by omega)
      have HTL := Lib.hid (hRT w rest HN.out HR.out); clear hRT
      have HTS : Hid (∀ ad', T = some ad' → 0 < (rest.drop (j + 1)).length → vc.ownBlock ≠ some ad'.block ∧ va.ownBlock ≠ some ad'.block) := fun ad' e _ => by
        obtain ⟨ad0, e0, e1⟩ := hTb ad' e
        injection e0 with e0; subst e0
        rw [e1]; exact HSA.out
      clear hTb
      have HNX := Lib.hid (show (cur ++ chs (c ++ [x]) (rest.drop (j + 1)) k) ++ chs c (rest.drop (j + 1)) (k + 1) = full by rw [List.append_assoc, ← HX.out, ← chsStep hjn]; exact HT.out)
      have hfl : (cur ++ chs (c ++ [x]) (rest.drop (j + 1)) k).length ≤ 1000000 := by
        have := congrArg List.length HNX.out; rw [List.length_append] at this; omega
      have HDN := Lib.hid (show (rest.drop (j + 1)).length = n - (j + 1) by rw [List.length_drop, HN.out])
      have hcl : (c ++ [x]).length + k ≤ 1000 := by rw [List.length_append]; simp; omega
      have hbr : base ≤ wr.heap.size := Nat.le_trans hb REL.out.chg.size
      have hkj : k ≤ n - (j + 1) := by have := HKZ.out; omega
      have B1 : (c.length + 1) * 8 ≤ 140737488355328 := by omega
      have B2 : c.length + 1 ≤ maxLen := by unfold maxLen; omega
      have B3 : ∀ o : Obj, base ≤ (wr.alloc o).drew.heap.size := fun o => Nat.le_trans hbr ((Below.refl _ wr).alloc (Nat.le_refl _) o).drew.size
      have ORW : Hid (∀ o : Obj, (wr.alloc o).drew.ownsRow base 3 1 vc c.length (iv c)) := fun o => World.ownsRow.drew (World.ownsRow.alloc REL.out.cho o)
      have j0 : (0 : Int) ≤ (j : Int) := by omega
      have jn : (j : Int) < (n : Int) := by have := HN.out; omega
      have jn1 : (j : Int) + 1 ≤ (n : Int) := by omega
      have j01 : (0 : Int) ≤ (j : Int) + 1 := by omega
      have s1 : IntKind.i64.wrap ((j : Int) + 1) = (j : Int) + 1 := IntWalk.i64_in _ (by omega)
      have s2 : IntKind.i64.wrap (kz - 1) = kz - 1 := IntWalk.i64_in _ (by omega)
      have S1 := Lib.hid s1; clear s1
      have S2 := Lib.hid s2; clear s2
      go_wp2_with fail
      have s1 := S1.out
      have s2 := S2.out
      go_region_held3 (fun w' => w'.cell? (ad.add j) = some (.int .i64 x))
        (first | go_keep | assumption)
        (first
          | (refine stepApp _ (by rfl) (.tmp 26) (.tmp 31) 22 (by rfl) base 3 i0 _ 8 Try.underlying22 hi hz0 hz1 hz2 rfl vc c.length (iv c) (by rfl) (ORW.out _) (some ⟨wr.heap.size, 0, none⟩) 1 1 (iv [x]) (by rfl) rfl (Rds.lit wr (iv [x]) 3 (by simp [maxLen])).drew (ivOne _) B1 B2 (B3 _) ?_; intro v1 w1 o1 o1' g1 m1; have P := choPre HVC.out HF0.out REL.out (((Below.refl _ wr).alloc (Nat.le_refl _) _).drew) g1 m1 HTL.out HTS.out; have k1 := cellOf HR.out P.2.2.2.2.2 HSA.out hjn; rw [HX.out] at k1; have O1 : Hid (OwnI w1 base v1 (c ++ [x])) := (by unfold OwnI iv; rw [List.length_append, List.map_append]; exact Lib.hid o1); have PK : Hid (wr.heap.size ≤ (wr.alloc (.cells #[.int .i64 x] 3)).drew.heap.size ∧ (wr.alloc (.cells #[.int .i64 x] 3)).drew.heap.size ≤ w1.heap.size) := ⟨(((Below.refl _ wr).alloc (Nat.le_refl _) _).drew).size, g1.size⟩; have PH := Lib.hid P; clear P)
          | (go_at_call 41; refine (IH.out _ cur vs' _ v1 (c ++ [x]) (rest.drop (j + 1)) base _ _ T _ _ (kz - 1) (by have := HKZ.out; omega) rfl (Nat.le_trans hbr (Nat.le_trans PK.out.1 PK.out.2)) PH.out.1 PH.out.2.1 O1.out PH.out.2.2.1 PH.out.2.2.2.1 HDN.out (by omega) hcl hkj PH.out.2.2.2.2.1 hfl).mono ?_; rintro e w2 ⟨v2, vs2, rfl, r2⟩; have R2 := choAfter HVC.out REL.out (((Below.refl _ wr).alloc (Nat.le_refl _) _).drew) g1 o1' PH.out.1 m1 r2; have k2 := cellOf HR.out R2.chg HSA.out hjn; rw [HX.out] at k2; have RH := Lib.hid R2; clear R2 r2))
      clear s1 s2
      go_wp2
      go_roundw
      case rel => exact ⟨j + 1, vs2, _, by omega, by go_num, HNX, RH.out⟩
      case measure => simp [intOf]; omega
    · have hje : j = n - k := by have := HKZ.out; omega
      have e : cur = full := by
        have h := HT.out
        rw [chsShort (by rw [List.length_drop, HN.out]; omega), List.append_nil] at h
        exact h
      have HE := Lib.hid e; clear e
      clear hje
      go_wp2
      go_ret
      rw [← HE.out]
      exact ⟨_, vs', rfl, REL.out⟩
end Go.Proofs.Ythfllfdgndaddaa
