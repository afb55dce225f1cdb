/-
  The law's alike: codes that have to do with each other run alike.
-/
import Derived.Test.YtnnpkbonbemeaaaDoorYSfLc
import Derived.Test.YtnnpkbonbemeaaaDoorYSb
import Derived.Test.YtnnpkbonbemeaaaDoorYCfV
import Derived.Test.YtnnpkbonbemeaaaDoorYInsD
import Derived.Test.YtnnpkbonbemeaaaDoorYPgX4
import Derived.DeepKeys
import Derived.Deep.QuietTactic
import Derived.BigQuiet
import Derived.Laws.StructEq
import Derived.KernelRfl
namespace Go.Proofs.YtnnpkbonbemeaaaDoor
open Go Go.RowKit Go.Maps

theorem eqRg (v0 v1 v2 v3 v4 v5 v6 v7 : Int) (w : World) : (Op.equalIn 10000 28 (.agg #[.int .i64 v0, .int .i64 v1, .int .i64 v2, .int .i64 v3, .int .i64 v4, .int .i64 v5, .int .i64 v6, .int .i64 v7]) (.agg #[.int .i64 v0, .int .i64 v1, .int .i64 v2, .int .i64 v3, .int .i64 v4, .int .i64 v5, .int .i64 v6, .int .i64 v7])).run Tryd.prog w = .ok true w := by
  obtain ⟨i0, hi, hz0, hz1, hz2⟩ := info_parts infoInt
  have hc : Tryd.prog.cellsOf 3 = 1 := by kernel_rfl
  rw [run_equalIn_array (P := Tryd.prog) w 9999 #[.int .i64 v0, .int .i64 v1, .int .i64 v2, .int .i64 v3, .int .i64 v4, .int .i64 v5, .int .i64 v6, .int .i64 v7] #[.int .i64 v0, .int .i64 v1, .int .i64 v2, .int .i64 v3, .int .i64 v4, .int .i64 v5, .int .i64 v6, .int .i64 v7] Tryd.underlying28 hi, hc]
  have hp0 : ∀ (a0 a1 a2 a3 a4 a5 a6 a7 : Int), (part 3 #[.int .i64 a0, .int .i64 a1, .int .i64 a2, .int .i64 a3, .int .i64 a4, .int .i64 a5, .int .i64 a6, .int .i64 a7] 0).run Tryd.prog w = .ok (.int .i64 a0) w := fun _ _ _ _ _ _ _ _ => by kernel_rfl
  have hp1 : ∀ (a0 a1 a2 a3 a4 a5 a6 a7 : Int), (part 3 #[.int .i64 a0, .int .i64 a1, .int .i64 a2, .int .i64 a3, .int .i64 a4, .int .i64 a5, .int .i64 a6, .int .i64 a7] 1).run Tryd.prog w = .ok (.int .i64 a1) w := fun _ _ _ _ _ _ _ _ => by kernel_rfl
  have hp2 : ∀ (a0 a1 a2 a3 a4 a5 a6 a7 : Int), (part 3 #[.int .i64 a0, .int .i64 a1, .int .i64 a2, .int .i64 a3, .int .i64 a4, .int .i64 a5, .int .i64 a6, .int .i64 a7] 2).run Tryd.prog w = .ok (.int .i64 a2) w := fun _ _ _ _ _ _ _ _ => by kernel_rfl
  have hp3 : ∀ (a0 a1 a2 a3 a4 a5 a6 a7 : Int), (part 3 #[.int .i64 a0, .int .i64 a1, .int .i64 a2, .int .i64 a3, .int .i64 a4, .int .i64 a5, .int .i64 a6, .int .i64 a7] 3).run Tryd.prog w = .ok (.int .i64 a3) w := fun _ _ _ _ _ _ _ _ => by kernel_rfl
  have hp4 : ∀ (a0 a1 a2 a3 a4 a5 a6 a7 : Int), (part 3 #[.int .i64 a0, .int .i64 a1, .int .i64 a2, .int .i64 a3, .int .i64 a4, .int .i64 a5, .int .i64 a6, .int .i64 a7] 4).run Tryd.prog w = .ok (.int .i64 a4) w := fun _ _ _ _ _ _ _ _ => by kernel_rfl
  have hp5 : ∀ (a0 a1 a2 a3 a4 a5 a6 a7 : Int), (part 3 #[.int .i64 a0, .int .i64 a1, .int .i64 a2, .int .i64 a3, .int .i64 a4, .int .i64 a5, .int .i64 a6, .int .i64 a7] 5).run Tryd.prog w = .ok (.int .i64 a5) w := fun _ _ _ _ _ _ _ _ => by kernel_rfl
  have hp6 : ∀ (a0 a1 a2 a3 a4 a5 a6 a7 : Int), (part 3 #[.int .i64 a0, .int .i64 a1, .int .i64 a2, .int .i64 a3, .int .i64 a4, .int .i64 a5, .int .i64 a6, .int .i64 a7] 6).run Tryd.prog w = .ok (.int .i64 a6) w := fun _ _ _ _ _ _ _ _ => by kernel_rfl
  have hp7 : ∀ (a0 a1 a2 a3 a4 a5 a6 a7 : Int), (part 3 #[.int .i64 a0, .int .i64 a1, .int .i64 a2, .int .i64 a3, .int .i64 a4, .int .i64 a5, .int .i64 a6, .int .i64 a7] 7).run Tryd.prog w = .ok (.int .i64 a7) w := fun _ _ _ _ _ _ _ _ => by kernel_rfl
  have he : ∀ (a : Int), (Op.equalIn 9999 3 (.int .i64 a) (.int .i64 a)).run Tryd.prog w = .ok true w := fun a => by
    rw [show (9999 : Nat) = 9998 + 1 from rfl, run_equalIn_int w 9998 3 .i64 .i64 a a Tryd.underlying3]
    simp
  rw [show List.range 8 = [0, 1, 2, 3, 4, 5, 6, 7] from rfl]
  simp [Op.eqItems, hp0, hp1, hp2, hp3, hp4, hp5, hp6, hp7, he]
abbrev rg8 (W : World) (b : Nat) (R : Rgs) : World := ((((((((W.setCell ⟨b, 0, none⟩ (.int .i64 (R 0))).setCell ⟨b, 1, none⟩ (.int .i64 (R 1))).setCell ⟨b, 2, none⟩ (.int .i64 (R 2))).setCell ⟨b, 3, none⟩ (.int .i64 (R 3))).setCell ⟨b, 4, none⟩ (.int .i64 (R 4))).setCell ⟨b, 5, none⟩ (.int .i64 (R 5))).setCell ⟨b, 6, none⟩ (.int .i64 (R 6))).setCell ⟨b, 7, none⟩ (.int .i64 (R 7)))
abbrev st12 (W : World) (b : Nat) (s : Stp) : World := ((((((((((((W.setCell ⟨b, 0, none⟩ (.int .i64 (s.pos : Int))).setCell ⟨b, 1, none⟩ (.int .i64 (s.R 0))).setCell ⟨b, 2, none⟩ (.int .i64 (s.R 1))).setCell ⟨b, 3, none⟩ (.int .i64 (s.R 2))).setCell ⟨b, 4, none⟩ (.int .i64 (s.R 3))).setCell ⟨b, 5, none⟩ (.int .i64 (s.R 4))).setCell ⟨b, 6, none⟩ (.int .i64 (s.R 5))).setCell ⟨b, 7, none⟩ (.int .i64 (s.R 6))).setCell ⟨b, 8, none⟩ (.int .i64 (s.R 7))).setCell ⟨b, 9, none⟩ (.bool s.dn)).setCell ⟨b, 10, none⟩ (.bool s.fl)).setCell ⟨b, 11, none⟩ (.bool s.lg))
theorem chgRg8 (W : World) (b : Nat) (R : Rgs) : Chg W (rg8 W b R) (fun q => q ≠ b) := ((((((((chgSetF W b 0 _).trans (chgSetF _ b 1 _) fun _ _ h => h).trans (chgSetF _ b 2 _) fun _ _ h => h).trans (chgSetF _ b 3 _) fun _ _ h => h).trans (chgSetF _ b 4 _) fun _ _ h => h).trans (chgSetF _ b 5 _) fun _ _ h => h).trans (chgSetF _ b 6 _) fun _ _ h => h).trans (chgSetF _ b 7 _) fun _ _ h => h)
theorem chgSt12 (W : World) (b : Nat) (s : Stp) : Chg W (st12 W b s) (fun q => q ≠ b) := ((((((((((((chgSetF W b 0 _).trans (chgSetF _ b 1 _) fun _ _ h => h).trans (chgSetF _ b 2 _) fun _ _ h => h).trans (chgSetF _ b 3 _) fun _ _ h => h).trans (chgSetF _ b 4 _) fun _ _ h => h).trans (chgSetF _ b 5 _) fun _ _ h => h).trans (chgSetF _ b 6 _) fun _ _ h => h).trans (chgSetF _ b 7 _) fun _ _ h => h).trans (chgSetF _ b 8 _) fun _ _ h => h).trans (chgSetF _ b 9 _) fun _ _ h => h).trans (chgSetF _ b 10 _) fun _ _ h => h).trans (chgSetF _ b 11 _) fun _ _ h => h)
theorem Blk.chg9 {W W' : World} {F : Nat → Prop} {b : Nat} {T : TypeId} {cs : Array Value} (h : Blk W b T cs) (hc : Chg W W' F) (hF : F b) : Blk W' b T cs := (hc.block b h.lt hF).trans h
/-- The boxes of the call: two functions, the registers, where the two runs stand. -/
structure AkSt (w : World) (fa ga : Array Value) (p q : Nat) (R : Rgs) (sa sb : Stp) (X : World) : Prop where
  bel : Below w.heap.size w X
  f : Blk X w.heap.size 42 fa
  g : Blk X (w.heap.size + 1) 42 ga
  r : Blk X (w.heap.size + 1 + 1) 28 (rgC R)
  a : Blk X p 88 (stopC sa)
  b : Blk X q 88 (stopC sb)
  hp : w.heap.size + 1 + 1 < p
  hq : p < q
section
variable {w X Y : World} {fa ga : Array Value} {p q : Nat} {R : Rgs} {sa sb : Stp}
theorem AkSt.below (h : AkSt w fa ga p q R sa sb X) (hb : Below X.heap.size X Y) : AkSt w fa ga p q R sa sb Y :=
  ⟨belowThen h.bel hb, h.f.below' hb, h.g.below' hb, h.r.below' hb, h.a.below' hb, h.b.below' hb, h.hp, h.hq⟩
theorem AkSt.setR (h : AkSt w fa ga p q R sa sb X) (R2 : Rgs) : AkSt w fa ga p q R2 sa sb (rg8 X (w.heap.size + 1 + 1) R2) := by
  have hc := chgRg8 X (w.heap.size + 1 + 1) R2
  have hp := h.hp
  have hq := h.hq
  refine ⟨belChgF h.bel hc (by have := h.bel.size; omega) fun k hk => (show k ≠ _ by omega), (hc.block _ h.f.lt (show _ ≠ _ by omega)).trans h.f, (hc.block _ h.g.lt (show _ ≠ _ by omega)).trans h.g, ?_, (hc.block _ h.a.lt (show _ ≠ _ by omega)).trans h.a, (hc.block _ h.b.lt (show _ ≠ _ by omega)).trans h.b, hp, hq⟩
  exact stored8 (show Blk X _ _ #[.int .i64 (R 0), .int .i64 (R 1), .int .i64 (R 2), .int .i64 (R 3), .int .i64 (R 4), .int .i64 (R 5), .int .i64 (R 6), .int .i64 (R 7)] from h.r)
theorem AkSt.put (h : AkSt w fa ga p q R sa sb X) {r : Nat} (hr : r < 8) (v : Int) : AkSt w fa ga p q (upR R (r : Int) v) sa sb (X.setCell ⟨w.heap.size + 1 + 1, r, none⟩ (.int .i64 v)) := by
  have hc := chgSetF X (w.heap.size + 1 + 1) r (.int .i64 v)
  have hp := h.hp
  have hq := h.hq
  refine ⟨belChgF h.bel hc (by have := h.bel.size; omega) fun k hk => (show k ≠ _ by omega), (hc.block _ h.f.lt (show _ ≠ _ by omega)).trans h.f, (hc.block _ h.g.lt (show _ ≠ _ by omega)).trans h.g, ?_, (hc.block _ h.a.lt (show _ ≠ _ by omega)).trans h.a, (hc.block _ h.b.lt (show _ ≠ _ by omega)).trans h.b, hp, hq⟩
  have := h.r.set r (.int .i64 v)
  rwa [rgPut R hr] at this
theorem AkSt.setA (h : AkSt w fa ga p q R sa sb X) (s : Stp) : AkSt w fa ga p q R s sb (st12 X p s) := by
  have hc := chgSt12 X p s
  have hp := h.hp
  have hq := h.hq
  refine ⟨belChgF h.bel hc (by have := h.bel.size; omega) fun k hk => (show k ≠ _ by omega), (hc.block _ h.f.lt (show _ ≠ _ by omega)).trans h.f, (hc.block _ h.g.lt (show _ ≠ _ by omega)).trans h.g, (hc.block _ h.r.lt (show _ ≠ _ by omega)).trans h.r, ?_, (hc.block _ h.b.lt (show _ ≠ _ by omega)).trans h.b, hp, hq⟩
  exact stored12 (show Blk X _ _ #[.int .i64 (sa.pos : Int), .int .i64 (sa.R 0), .int .i64 (sa.R 1), .int .i64 (sa.R 2), .int .i64 (sa.R 3), .int .i64 (sa.R 4), .int .i64 (sa.R 5), .int .i64 (sa.R 6), .int .i64 (sa.R 7), .bool sa.dn, .bool sa.fl, .bool sa.lg] from h.a)
theorem AkSt.setB (h : AkSt w fa ga p q R sa sb X) (s : Stp) : AkSt w fa ga p q R sa s (st12 X q s) := by
  have hc := chgSt12 X q s
  have hp := h.hp
  have hq := h.hq
  refine ⟨belChgF h.bel hc (by have := h.bel.size; omega) fun k hk => (show k ≠ _ by omega), (hc.block _ h.f.lt (show _ ≠ _ by omega)).trans h.f, (hc.block _ h.g.lt (show _ ≠ _ by omega)).trans h.g, (hc.block _ h.r.lt (show _ ≠ _ by omega)).trans h.r, (hc.block _ h.a.lt (show _ ≠ _ by omega)).trans h.a, ?_, hp, hq⟩
  exact stored12 (show Blk X _ _ #[.int .i64 (sb.pos : Int), .int .i64 (sb.R 0), .int .i64 (sb.R 1), .int .i64 (sb.R 2), .int .i64 (sb.R 3), .int .i64 (sb.R 4), .int .i64 (sb.R 5), .int .i64 (sb.R 6), .int .i64 (sb.R 7), .bool sb.dn, .bool sb.fl, .bool sb.lg] from h.b)
end
set_option maxRecDepth 100000 in
set_option maxHeartbeats 16000000 in
theorem rAlike (nm : ByteArray) (C D : List I8) (hC : CfOk C) (hD : CfOk D) (n m : Nat) (hn : C.length = n) (hm : D.length = m) (A B : Option Addr) (c d : Nat) (P : Nat → Nat → Rgs → Prop) (hS : Sim C D P) (R : Rgs) (L : List Int) (l : Nat) (hl : L.length = l) (E : Option Addr) (e : Nat) (w : World) (hr : RdE 8 EI w A c C) (hs : RdE 8 EI w B d D) (hL : Rd w E e L) :
    Calls Tryd.prog 24 #[fnV nm A n c, fnV nm B m d, .agg (rgC R), .slice E l e] w (LawOkS w) := by
  obtain ⟨W, hW⟩ : ∃ W, ((w.alloc (.cells #[.string nm, .slice A n c] 42)).alloc (.cells #[.string nm, .slice B m d] 42)).alloc (.cells #[.int .i64 (R 0), .int .i64 (R 1), .int .i64 (R 2), .int .i64 (R 3), .int .i64 (R 4), .int .i64 (R 5), .int .i64 (R 6), .int .i64 (R 7)] 28) = W := ⟨_, rfl⟩
  obtain ⟨⟨h1, h2, h3⟩, hbW⟩ := three9 w _ _ _ hW
  have HF := Lib.hid (show Blk W w.heap.size 42 #[.string nm, .slice A n c] from h1)
  have HG := Lib.hid (show Blk W (w.heap.size + 1) 42 #[.string nm, .slice B m d] from h2)
  have HR := Lib.hid (show Blk W (w.heap.size + 1 + 1) 28 (rgC R) from h3)
  have HLC := Lib.hid (fun x (hx : x ≤ n) R X (hX : Below w.heap.size w X) => rLocal nm C hC n hn A c x hx R X (hr.below stabI hX))
  have HLD := Lib.hid (fun x (hx : x ≤ m) R X (hX : Below w.heap.size w X) => rLocal nm D hD m hm B d x hx R X (hs.below stabI hX))
  have HRC := Lib.hid (fun X (hX : Below w.heap.size w X) => hr.below stabI hX)
  have HRD := Lib.hid (fun X (hX : Below w.heap.size w X) => hs.below stabI hX)
  have HRL := Lib.hid (fun X (hX : Below w.heap.size w X) => hL.below hX)
  have HCK := Lib.hid (fun k (hk : k < C.length) => hC.chk _ (List.getElem_mem hk))
  have HSM := Lib.hid hS
  have HN := Lib.hid hn
  have HM := Lib.hid hm
  have HL := Lib.hid hl
  have h64 : n ≤ 64 := by have := hC.len; omega
  have m64 : m ≤ 64 := by have := hD.len; omega
  have hle := hL.le
  have hmx := hL.max
  rw [hl] at hle
  unfold maxLen at hmx
  have HW := Lib.hid hW
  have HBW := Lib.hid hbW
  have f0 : W.cell? ⟨w.heap.size, 0, none⟩ = some (.string nm) := HF.out.cell 0
  have f1 : W.cell? ⟨w.heap.size, 1, none⟩ = some (.slice A n c) := HF.out.cell 1
  obtain ⟨⟨r0, r1, r2, r3, r4, r5, r6, r7⟩, -⟩ := blkFacts (show Blk W (w.heap.size + 1 + 1) 28 #[.int .i64 (R 0), .int .i64 (R 1), .int .i64 (R 2), .int .i64 (R 3), .int .i64 (R 4), .int .i64 (R 5), .int .i64 (R 6), .int .i64 (R 7)] from HR.out)
  obtain ⟨sa, hsa⟩ : ∃ s, locF C 256 0 R = s := ⟨_, rfl⟩
  obtain ⟨sb, hsb⟩ : ∃ s, locF D 256 0 R = s := ⟨_, rfl⟩
  have HA1 := Lib.hid (HLC.out 0 (Nat.zero_le _) R W HBW.out)
  have HA2 := Lib.hid (fun X hX => HLD.out 0 (Nat.zero_le _) R X hX)
  rw [hsa] at HA1
  rw [hsb] at HA2
  have HSA := Lib.hid hsa
  have HSB := Lib.hid hsb
  unfold GivesStp fnV rgC stopC at HA1 HA2
  clear h1 h2 h3 hbW hW hr hs hL hC hD hS hsa hsb hn hm hl
  unfold fnV rgC
  go_enter Tryd.func24, Tryd.ntmps24
  go_upto_region 1 with fail
  rw [HW.out]
  go_wp2_with fail
  refine HA1.out.mono ?_
  rintro e1 w1 ⟨rfl, b1⟩
  obtain ⟨w2, hw2⟩ : ∃ w2, w1.alloc (.cells #[.int .i64 (sa.pos : Int), .int .i64 (sa.R 0), .int .i64 (sa.R 1), .int .i64 (sa.R 2), .int .i64 (sa.R 3), .int .i64 (sa.R 4), .int .i64 (sa.R 5), .int .i64 (sa.R 6), .int .i64 (sa.R 7), .bool sa.dn, .bool sa.fl, .bool sa.lg] 88) = w2 := ⟨_, rfl⟩
  have b12 : Below w1.heap.size w1 w2 := by rw [← hw2]; exact belowAlloc _ _
  have HB2 := Lib.hid (belowThen b1 b12)
  have HBA := Lib.hid (show Blk w2 w1.heap.size 88 (stopC sa) by rw [← hw2]; exact Blk.new _ _ _)
  have HSZ := Lib.hid (show w.heap.size + 1 + 1 < w1.heap.size from Nat.lt_of_lt_of_le HR.out.lt b1.size)
  have HW2 := Lib.hid hw2
  clear b1 hw2 b12 f0 f1 r0 r1 r2 r3 r4 r5 r6 r7
  have g0 : w2.cell? ⟨w.heap.size + 1, 0, none⟩ = some (.string nm) := (HG.out.below' HB2.out).cell 0
  have g1 : w2.cell? ⟨w.heap.size + 1, 1, none⟩ = some (.slice B m d) := (HG.out.below' HB2.out).cell 1
  obtain ⟨⟨r0, r1, r2, r3, r4, r5, r6, r7⟩, -⟩ := blkFacts (show Blk w2 (w.heap.size + 1 + 1) 28 #[.int .i64 (R 0), .int .i64 (R 1), .int .i64 (R 2), .int .i64 (R 3), .int .i64 (R 4), .int .i64 (R 5), .int .i64 (R 6), .int .i64 (R 7)] from HR.out.below' HB2.out)
  have HA3 := Lib.hid (HA2.out w2 (belowThen HBW.out HB2.out))
  go_upto_region 2 with fail
  rw [HW2.out]
  go_wp2_with fail
  refine HA3.out.mono ?_
  rintro e1 w3 ⟨rfl, b3⟩
  obtain ⟨w4, hw4⟩ : ∃ w4, w3.alloc (.cells #[.int .i64 (sb.pos : Int), .int .i64 (sb.R 0), .int .i64 (sb.R 1), .int .i64 (sb.R 2), .int .i64 (sb.R 3), .int .i64 (sb.R 4), .int .i64 (sb.R 5), .int .i64 (sb.R 6), .int .i64 (sb.R 7), .bool sb.dn, .bool sb.fl, .bool sb.lg] 88) = w4 := ⟨_, rfl⟩
  have b34 : Below w3.heap.size w3 w4 := by rw [← hw4]; exact belowAlloc _ _
  have b24 := belowThen b3 b34
  have b04 := belowThen HB2.out b24
  have HBB := Lib.hid (show Blk w4 w3.heap.size 88 (stopC sb) by rw [← hw4]; exact Blk.new _ _ _)
  have HPQ := Lib.hid (show w1.heap.size < w3.heap.size from Nat.lt_of_lt_of_le HBA.out.lt b3.size)
  have HST := Lib.hid (show AkSt w #[.string nm, .slice A n c] #[.string nm, .slice B m d] w1.heap.size w3.heap.size R sa sb w4 from
    ⟨belowThen HBW.out b04, HF.out.below' b04, HG.out.below' b04, HR.out.below' b04, HBA.out.below' b24, HBB.out, HSZ.out, HPQ.out⟩)
  have HW4 := Lib.hid hw4
  have HP0 : Hid (P 0 0 R ∧ locF C 256 0 R = sa ∧ locF D 256 0 R = sb) := Lib.hid ⟨HSM.out.start R, HSA.out, HSB.out⟩
  clear b3 hw4 b34 b24 b04 g0 g1 r0 r1 r2 r3 r4 r5 r6 r7
  go_upto_region 3 with fail
  rw [HW4.out]
  go_wp2_with fail
  go_loopg [24] l (fun g i X => ∃ (k x y : Nat) (R1 R0 : Rgs) (sa sb : Stp), k + g = l ∧ i = .int .i64 k ∧ Hid (P x y R1 ∧ locF C 256 x R1 = sa ∧ locF D 256 y R1 = sb) ∧ AkSt w #[.string nm, .slice A n c] #[.string nm, .slice B m d] w1.heap.size w3.heap.size R0 sa sb X)
  case atStart => exact ⟨0, 0, 0, R, R, sa, sb, by omega, rfl, HP0, HST.out⟩
  case round =>
    clear HSA HSB HA1 HA2 HA3 HP0 HST HBA HBB HW4 HW2 HW
    obtain ⟨k, x, y, R1, R0, sa, sb, hk, rfl, HPP, hst⟩ := hrel
    have HS := Lib.hid hst
    obtain ⟨hP, hsa, hsb⟩ := HPP.out
    have hgo := HSM.out.go hP
    have hpos := locPos (C := C) (f := 256) (x := x) (R := R1)
    rw [hsa] at hgo hpos
    rw [hsb] at hgo
    clear hP hsa hsb HPP
    obtain ⟨xa, Ra, da, fla, la⟩ := sa
    obtain ⟨yb, Rb, db, flb, lb⟩ := sb
    simp only at hgo hpos
    have HBL := Lib.hid hst.bel
    cases gk with
    | zero =>
      have hkl : k = l := by omega
      subst hkl
      have hjz : ¬ ((k : Int) < k) := by omega
      cases la
      · obtain ⟨rfl, rfl, rfl, rfl, -⟩ := hgo.resolve_left (by simp)
        have hdd : (da == da) = true := by simp
        have hff : (fla == fla) = true := by simp
        have HQ := fun X => eqRg (Ra 0) (Ra 1) (Ra 2) (Ra 3) (Ra 4) (Ra 5) (Ra 6) (Ra 7) X
        have f0 : wr.cell? ⟨w.heap.size, 0, none⟩ = some (.string nm) := hst.f.cell 0
        have f1 : wr.cell? ⟨w.heap.size, 1, none⟩ = some (.slice _ n c) := hst.f.cell 1
        have g0 : wr.cell? ⟨w.heap.size + 1, 0, none⟩ = some (.string nm) := hst.g.cell 0
        have g1 : wr.cell? ⟨w.heap.size + 1, 1, none⟩ = some (.slice _ m d) := hst.g.cell 1
        obtain ⟨s0, s1, s2, s3, s4, s5, s6, s7, s8, s9, s10, s11⟩ : wr.cell? ⟨w1.heap.size, 0, none⟩ = some (Value.int .i64 (xa : Int)) ∧ wr.cell? ⟨w1.heap.size, 1, none⟩ = some (Value.int .i64 (Ra 0)) ∧ wr.cell? ⟨w1.heap.size, 2, none⟩ = some (Value.int .i64 (Ra 1)) ∧ wr.cell? ⟨w1.heap.size, 3, none⟩ = some (Value.int .i64 (Ra 2)) ∧ wr.cell? ⟨w1.heap.size, 4, none⟩ = some (Value.int .i64 (Ra 3)) ∧ wr.cell? ⟨w1.heap.size, 5, none⟩ = some (Value.int .i64 (Ra 4)) ∧ wr.cell? ⟨w1.heap.size, 6, none⟩ = some (Value.int .i64 (Ra 5)) ∧ wr.cell? ⟨w1.heap.size, 7, none⟩ = some (Value.int .i64 (Ra 6)) ∧ wr.cell? ⟨w1.heap.size, 8, none⟩ = some (Value.int .i64 (Ra 7)) ∧ wr.cell? ⟨w1.heap.size, 9, none⟩ = some (Value.bool da) ∧ wr.cell? ⟨w1.heap.size, 10, none⟩ = some (Value.bool fla) ∧ wr.cell? ⟨w1.heap.size, 11, none⟩ = some (Value.bool false) := ⟨hst.a.cell 0, hst.a.cell 1, hst.a.cell 2, hst.a.cell 3, hst.a.cell 4, hst.a.cell 5, hst.a.cell 6, hst.a.cell 7, hst.a.cell 8, hst.a.cell 9, hst.a.cell 10, hst.a.cell 11⟩
        obtain ⟨t0, t1, t2, t3, t4, t5, t6, t7, t8, t9, t10, t11⟩ : wr.cell? ⟨w3.heap.size, 0, none⟩ = some (Value.int .i64 (yb : Int)) ∧ wr.cell? ⟨w3.heap.size, 1, none⟩ = some (Value.int .i64 (Ra 0)) ∧ wr.cell? ⟨w3.heap.size, 2, none⟩ = some (Value.int .i64 (Ra 1)) ∧ wr.cell? ⟨w3.heap.size, 3, none⟩ = some (Value.int .i64 (Ra 2)) ∧ wr.cell? ⟨w3.heap.size, 4, none⟩ = some (Value.int .i64 (Ra 3)) ∧ wr.cell? ⟨w3.heap.size, 5, none⟩ = some (Value.int .i64 (Ra 4)) ∧ wr.cell? ⟨w3.heap.size, 6, none⟩ = some (Value.int .i64 (Ra 5)) ∧ wr.cell? ⟨w3.heap.size, 7, none⟩ = some (Value.int .i64 (Ra 6)) ∧ wr.cell? ⟨w3.heap.size, 8, none⟩ = some (Value.int .i64 (Ra 7)) ∧ wr.cell? ⟨w3.heap.size, 9, none⟩ = some (Value.bool da) ∧ wr.cell? ⟨w3.heap.size, 10, none⟩ = some (Value.bool fla) ∧ wr.cell? ⟨w3.heap.size, 11, none⟩ = some (Value.bool false) := ⟨hst.b.cell 0, hst.b.cell 1, hst.b.cell 2, hst.b.cell 3, hst.b.cell 4, hst.b.cell 5, hst.b.cell 6, hst.b.cell 7, hst.b.cell 8, hst.b.cell 9, hst.b.cell 10, hst.b.cell 11⟩
        clear hst hpos hgo
        go_wp2
        go_ret
        exact ⟨rfl, HBL.out⟩
      · clear hgo hpos
        have f0 : wr.cell? ⟨w.heap.size, 0, none⟩ = some (.string nm) := hst.f.cell 0
        have f1 : wr.cell? ⟨w.heap.size, 1, none⟩ = some (.slice _ n c) := hst.f.cell 1
        have g0 : wr.cell? ⟨w.heap.size + 1, 0, none⟩ = some (.string nm) := hst.g.cell 0
        have g1 : wr.cell? ⟨w.heap.size + 1, 1, none⟩ = some (.slice _ m d) := hst.g.cell 1
        obtain ⟨s0, s1, s2, s3, s4, s5, s6, s7, s8, s9, s10, s11⟩ : wr.cell? ⟨w1.heap.size, 0, none⟩ = some (Value.int .i64 (xa : Int)) ∧ wr.cell? ⟨w1.heap.size, 1, none⟩ = some (Value.int .i64 (Ra 0)) ∧ wr.cell? ⟨w1.heap.size, 2, none⟩ = some (Value.int .i64 (Ra 1)) ∧ wr.cell? ⟨w1.heap.size, 3, none⟩ = some (Value.int .i64 (Ra 2)) ∧ wr.cell? ⟨w1.heap.size, 4, none⟩ = some (Value.int .i64 (Ra 3)) ∧ wr.cell? ⟨w1.heap.size, 5, none⟩ = some (Value.int .i64 (Ra 4)) ∧ wr.cell? ⟨w1.heap.size, 6, none⟩ = some (Value.int .i64 (Ra 5)) ∧ wr.cell? ⟨w1.heap.size, 7, none⟩ = some (Value.int .i64 (Ra 6)) ∧ wr.cell? ⟨w1.heap.size, 8, none⟩ = some (Value.int .i64 (Ra 7)) ∧ wr.cell? ⟨w1.heap.size, 9, none⟩ = some (Value.bool da) ∧ wr.cell? ⟨w1.heap.size, 10, none⟩ = some (Value.bool fla) ∧ wr.cell? ⟨w1.heap.size, 11, none⟩ = some (Value.bool true) := ⟨hst.a.cell 0, hst.a.cell 1, hst.a.cell 2, hst.a.cell 3, hst.a.cell 4, hst.a.cell 5, hst.a.cell 6, hst.a.cell 7, hst.a.cell 8, hst.a.cell 9, hst.a.cell 10, hst.a.cell 11⟩
        obtain ⟨t0, t1, t2, t3, t4, t5, t6, t7, t8, t9, t10, t11⟩ : wr.cell? ⟨w3.heap.size, 0, none⟩ = some (Value.int .i64 (yb : Int)) ∧ wr.cell? ⟨w3.heap.size, 1, none⟩ = some (Value.int .i64 (Rb 0)) ∧ wr.cell? ⟨w3.heap.size, 2, none⟩ = some (Value.int .i64 (Rb 1)) ∧ wr.cell? ⟨w3.heap.size, 3, none⟩ = some (Value.int .i64 (Rb 2)) ∧ wr.cell? ⟨w3.heap.size, 4, none⟩ = some (Value.int .i64 (Rb 3)) ∧ wr.cell? ⟨w3.heap.size, 5, none⟩ = some (Value.int .i64 (Rb 4)) ∧ wr.cell? ⟨w3.heap.size, 6, none⟩ = some (Value.int .i64 (Rb 5)) ∧ wr.cell? ⟨w3.heap.size, 7, none⟩ = some (Value.int .i64 (Rb 6)) ∧ wr.cell? ⟨w3.heap.size, 8, none⟩ = some (Value.int .i64 (Rb 7)) ∧ wr.cell? ⟨w3.heap.size, 9, none⟩ = some (Value.bool db) ∧ wr.cell? ⟨w3.heap.size, 10, none⟩ = some (Value.bool flb) ∧ wr.cell? ⟨w3.heap.size, 11, none⟩ = some (Value.bool lb) := ⟨hst.b.cell 0, hst.b.cell 1, hst.b.cell 2, hst.b.cell 3, hst.b.cell 4, hst.b.cell 5, hst.b.cell 6, hst.b.cell 7, hst.b.cell 8, hst.b.cell 9, hst.b.cell 10, hst.b.cell 11⟩
        clear hst
        go_wp2
        go_ret
        exact ⟨rfl, HBL.out⟩
    | succ g2 =>
      have hkl : k < l := by omega
      have hk0 : (0 : Int) ≤ k := by omega
      have hk1 : (k : Int) < l := by omega
      obtain ⟨eb, eo, eE, _, hcl⟩ := rdPlain9 (HRL.out wr hst.bel) (by rw [HL.out]; omega)
      have hcy := hcl k (by rw [HL.out]; exact hkl)
      obtain ⟨v, hv⟩ : ∃ v, L.getD k 0 = v := ⟨_, rfl⟩
      rw [hv] at hcy
      subst eE
      clear hcl hv
      cases la
      rotate_left
      · clear hgo hpos
        have f0 : wr.cell? ⟨w.heap.size, 0, none⟩ = some (.string nm) := hst.f.cell 0
        have f1 : wr.cell? ⟨w.heap.size, 1, none⟩ = some (.slice _ n c) := hst.f.cell 1
        have g0 : wr.cell? ⟨w.heap.size + 1, 0, none⟩ = some (.string nm) := hst.g.cell 0
        have g1 : wr.cell? ⟨w.heap.size + 1, 1, none⟩ = some (.slice _ m d) := hst.g.cell 1
        obtain ⟨s0, s1, s2, s3, s4, s5, s6, s7, s8, s9, s10, s11⟩ : wr.cell? ⟨w1.heap.size, 0, none⟩ = some (Value.int .i64 (xa : Int)) ∧ wr.cell? ⟨w1.heap.size, 1, none⟩ = some (Value.int .i64 (Ra 0)) ∧ wr.cell? ⟨w1.heap.size, 2, none⟩ = some (Value.int .i64 (Ra 1)) ∧ wr.cell? ⟨w1.heap.size, 3, none⟩ = some (Value.int .i64 (Ra 2)) ∧ wr.cell? ⟨w1.heap.size, 4, none⟩ = some (Value.int .i64 (Ra 3)) ∧ wr.cell? ⟨w1.heap.size, 5, none⟩ = some (Value.int .i64 (Ra 4)) ∧ wr.cell? ⟨w1.heap.size, 6, none⟩ = some (Value.int .i64 (Ra 5)) ∧ wr.cell? ⟨w1.heap.size, 7, none⟩ = some (Value.int .i64 (Ra 6)) ∧ wr.cell? ⟨w1.heap.size, 8, none⟩ = some (Value.int .i64 (Ra 7)) ∧ wr.cell? ⟨w1.heap.size, 9, none⟩ = some (Value.bool da) ∧ wr.cell? ⟨w1.heap.size, 10, none⟩ = some (Value.bool fla) ∧ wr.cell? ⟨w1.heap.size, 11, none⟩ = some (Value.bool true) := ⟨hst.a.cell 0, hst.a.cell 1, hst.a.cell 2, hst.a.cell 3, hst.a.cell 4, hst.a.cell 5, hst.a.cell 6, hst.a.cell 7, hst.a.cell 8, hst.a.cell 9, hst.a.cell 10, hst.a.cell 11⟩
        obtain ⟨t0, t1, t2, t3, t4, t5, t6, t7, t8, t9, t10, t11⟩ : wr.cell? ⟨w3.heap.size, 0, none⟩ = some (Value.int .i64 (yb : Int)) ∧ wr.cell? ⟨w3.heap.size, 1, none⟩ = some (Value.int .i64 (Rb 0)) ∧ wr.cell? ⟨w3.heap.size, 2, none⟩ = some (Value.int .i64 (Rb 1)) ∧ wr.cell? ⟨w3.heap.size, 3, none⟩ = some (Value.int .i64 (Rb 2)) ∧ wr.cell? ⟨w3.heap.size, 4, none⟩ = some (Value.int .i64 (Rb 3)) ∧ wr.cell? ⟨w3.heap.size, 5, none⟩ = some (Value.int .i64 (Rb 4)) ∧ wr.cell? ⟨w3.heap.size, 6, none⟩ = some (Value.int .i64 (Rb 5)) ∧ wr.cell? ⟨w3.heap.size, 7, none⟩ = some (Value.int .i64 (Rb 6)) ∧ wr.cell? ⟨w3.heap.size, 8, none⟩ = some (Value.int .i64 (Rb 7)) ∧ wr.cell? ⟨w3.heap.size, 9, none⟩ = some (Value.bool db) ∧ wr.cell? ⟨w3.heap.size, 10, none⟩ = some (Value.bool flb) ∧ wr.cell? ⟨w3.heap.size, 11, none⟩ = some (Value.bool lb) := ⟨hst.b.cell 0, hst.b.cell 1, hst.b.cell 2, hst.b.cell 3, hst.b.cell 4, hst.b.cell 5, hst.b.cell 6, hst.b.cell 7, hst.b.cell 8, hst.b.cell 9, hst.b.cell 10, hst.b.cell 11⟩
        clear hst
        go_wp2
        go_ret
        exact ⟨rfl, HBL.out⟩
      obtain ⟨rfl, rfl, rfl, rfl, hrest⟩ := hgo.resolve_left (by simp)
      have HRST := Lib.hid hrest
      have HPOS := Lib.hid hpos
      have hdd : (da == da) = true := by simp
      have hff : (fla == fla) = true := by simp
      have HQ := fun X => eqRg (Ra 0) (Ra 1) (Ra 2) (Ra 3) (Ra 4) (Ra 5) (Ra 6) (Ra 7) X
      have f0 : wr.cell? ⟨w.heap.size, 0, none⟩ = some (.string nm) := hst.f.cell 0
      have f1 : wr.cell? ⟨w.heap.size, 1, none⟩ = some (.slice _ n c) := hst.f.cell 1
      have g0 : wr.cell? ⟨w.heap.size + 1, 0, none⟩ = some (.string nm) := hst.g.cell 0
      have g1 : wr.cell? ⟨w.heap.size + 1, 1, none⟩ = some (.slice _ m d) := hst.g.cell 1
      obtain ⟨s0, s1, s2, s3, s4, s5, s6, s7, s8, s9, s10, s11⟩ : wr.cell? ⟨w1.heap.size, 0, none⟩ = some (Value.int .i64 (xa : Int)) ∧ wr.cell? ⟨w1.heap.size, 1, none⟩ = some (Value.int .i64 (Ra 0)) ∧ wr.cell? ⟨w1.heap.size, 2, none⟩ = some (Value.int .i64 (Ra 1)) ∧ wr.cell? ⟨w1.heap.size, 3, none⟩ = some (Value.int .i64 (Ra 2)) ∧ wr.cell? ⟨w1.heap.size, 4, none⟩ = some (Value.int .i64 (Ra 3)) ∧ wr.cell? ⟨w1.heap.size, 5, none⟩ = some (Value.int .i64 (Ra 4)) ∧ wr.cell? ⟨w1.heap.size, 6, none⟩ = some (Value.int .i64 (Ra 5)) ∧ wr.cell? ⟨w1.heap.size, 7, none⟩ = some (Value.int .i64 (Ra 6)) ∧ wr.cell? ⟨w1.heap.size, 8, none⟩ = some (Value.int .i64 (Ra 7)) ∧ wr.cell? ⟨w1.heap.size, 9, none⟩ = some (Value.bool da) ∧ wr.cell? ⟨w1.heap.size, 10, none⟩ = some (Value.bool fla) ∧ wr.cell? ⟨w1.heap.size, 11, none⟩ = some (Value.bool false) := ⟨hst.a.cell 0, hst.a.cell 1, hst.a.cell 2, hst.a.cell 3, hst.a.cell 4, hst.a.cell 5, hst.a.cell 6, hst.a.cell 7, hst.a.cell 8, hst.a.cell 9, hst.a.cell 10, hst.a.cell 11⟩
      obtain ⟨t0, t1, t2, t3, t4, t5, t6, t7, t8, t9, t10, t11⟩ : wr.cell? ⟨w3.heap.size, 0, none⟩ = some (Value.int .i64 (yb : Int)) ∧ wr.cell? ⟨w3.heap.size, 1, none⟩ = some (Value.int .i64 (Ra 0)) ∧ wr.cell? ⟨w3.heap.size, 2, none⟩ = some (Value.int .i64 (Ra 1)) ∧ wr.cell? ⟨w3.heap.size, 3, none⟩ = some (Value.int .i64 (Ra 2)) ∧ wr.cell? ⟨w3.heap.size, 4, none⟩ = some (Value.int .i64 (Ra 3)) ∧ wr.cell? ⟨w3.heap.size, 5, none⟩ = some (Value.int .i64 (Ra 4)) ∧ wr.cell? ⟨w3.heap.size, 6, none⟩ = some (Value.int .i64 (Ra 5)) ∧ wr.cell? ⟨w3.heap.size, 7, none⟩ = some (Value.int .i64 (Ra 6)) ∧ wr.cell? ⟨w3.heap.size, 8, none⟩ = some (Value.int .i64 (Ra 7)) ∧ wr.cell? ⟨w3.heap.size, 9, none⟩ = some (Value.bool da) ∧ wr.cell? ⟨w3.heap.size, 10, none⟩ = some (Value.bool fla) ∧ wr.cell? ⟨w3.heap.size, 11, none⟩ = some (Value.bool false) := ⟨hst.b.cell 0, hst.b.cell 1, hst.b.cell 2, hst.b.cell 3, hst.b.cell 4, hst.b.cell 5, hst.b.cell 6, hst.b.cell 7, hst.b.cell 8, hst.b.cell 9, hst.b.cell 10, hst.b.cell 11⟩
      clear hst hpos hgo hrest
      cases da
      rotate_left
      · go_wp2
        go_ret
        exact ⟨rfl, HBL.out⟩
      cases fla
      rotate_left
      · go_wp2
        go_ret
        exact ⟨rfl, HBL.out⟩
      clear hdd hff
      obtain ⟨hyb, hgg, hnx⟩ := HRST.out rfl rfl
      have hxa := (HPOS.out rfl rfl rfl).1
      obtain ⟨q1, o1, eA, _, i0, i1, i2, i3, i4, i5, i6, i7⟩ := (HRC.out wr HBL.out).one hxa
      obtain ⟨q2, o2, eB, hlq2, y0, y1, y2, y3, y4, y5, y6, y7⟩ := (HRD.out wr HBL.out).one hyb
      have eA : A = _ := eA
      have eB : B = _ := eB
      rw [gIAt hxa, gIAt hyb] at hgg
      rw [gIAt hxa] at hnx
      rw [← hgg] at y0 y1 y2 y3 y4 y5 y6 y7
      have hck := HCK.out xa hxa
      have hdr : 0 ≤ C[xa].dfR ∧ C[xa].dfR < 8 := by
        have := (I8.good hck).a
        unfold I8.dfR
        split <;> omega
      have HDF := Lib.hid (fun X => rDefs C[xa] C[xa].dfR C[xa].dfB rfl rfl X)
      have hxn : xa < n := by rw [← HN.out]; exact hxa
      have hym : yb < m := by rw [← HM.out]; exact hyb
      have hx0 : (0 : Int) ≤ xa := by omega
      have hx1 : (xa : Int) < n := by omega
      have hy0 : (0 : Int) ≤ yb := by omega
      have hy1 : (yb : Int) < m := by omega
      have hyn : ¬ (m : Int) ≤ yb := by omega
      have hyz : ¬ (yb : Int) < 0 := by omega
      subst eA eB
      obtain ⟨ii, hii⟩ : ∃ i, C[xa] = i := ⟨_, rfl⟩
      rw [hii] at i0 i1 i2 i3 i4 i5 i6 i7 y0 y1 y2 y3 y4 y5 y6 y7 HDF hdr hnx
      have HNX := Lib.hid hnx
      obtain ⟨dr, hdre⟩ : ∃ x, ii.dfR = x := ⟨_, rfl⟩
      obtain ⟨db, hdbe⟩ : ∃ x, ii.dfB = x := ⟨_, rfl⟩
      rw [hdre, hdbe] at HDF HNX
      rw [hdre] at hdr
      obtain ⟨an, ean⟩ : ∃ an : Nat, dr = (an : Int) := ⟨dr.toNat, by omega⟩
      subst ean
      have han : an < 8 := by omega
      have ha0 : (0 : Int) ≤ an := by omega
      have ha1 : (an : Int) < 8 := by omega
      obtain ⟨j0, j1, j2, j3, j4, j5, j6, j7⟩ := ii
      unfold I8.val at HDF
      simp only at i0 i1 i2 i3 i4 i5 i6 i7 y0 y1 y2 y3 y4 y5 y6 y7 HDF
      clear hii hdre hdbe hck hgg hnx hdr hxa hyb HRST HPOS
      obtain ⟨wb, hwb⟩ : ∃ X, wr.alloc (.cells #[.int .i64 j0, .int .i64 j1, .int .i64 j2, .int .i64 j3, .int .i64 j4, .int .i64 j5, .int .i64 j6, .int .i64 j7] 47) = X := ⟨_, rfl⟩
      have hbb : Below wr.heap.size wr wb := by rw [← hwb]; exact belowAlloc wr _
      have HBI := Lib.hid (show Blk wb wr.heap.size 47 #[.int .i64 j0, .int .i64 j1, .int .i64 j2, .int .i64 j3, .int .i64 j4, .int .i64 j5, .int .i64 j6, .int .i64 j7] by rw [← hwb]; exact Blk.new wr _ _)
      have HSB := Lib.hid (HS.out.below hbb)
      have HWB := Lib.hid hwb

      have z0 := (hbb.cell (p := ⟨q2, o2 + yb * 8, none⟩) hlq2).trans y0
      have z1 := (hbb.cell (p := ⟨q2, o2 + yb * 8 + 1, none⟩) hlq2).trans y1
      have z2 := (hbb.cell (p := ⟨q2, o2 + yb * 8 + 2, none⟩) hlq2).trans y2
      have z3 := (hbb.cell (p := ⟨q2, o2 + yb * 8 + 3, none⟩) hlq2).trans y3
      have z4 := (hbb.cell (p := ⟨q2, o2 + yb * 8 + 4, none⟩) hlq2).trans y4
      have z5 := (hbb.cell (p := ⟨q2, o2 + yb * 8 + 5, none⟩) hlq2).trans y5
      have z6 := (hbb.cell (p := ⟨q2, o2 + yb * 8 + 6, none⟩) hlq2).trans y6
      have z7 := (hbb.cell (p := ⟨q2, o2 + yb * 8 + 7, none⟩) hlq2).trans y7
      clear hwb hbb hlq2 y0 y1 y2 y3 y4 y5 y6 y7
      go_upto_region 15 with fail
      rw [HWB.out]
      clear f0 f1 g0 g1 s0 t0 s1 t1 s2 t2 s3 t3 s4 t4 s5 t5 s6 t6 s7 t7 s8 t8 s9 t9 s10 t10 s11 t11
      clear i0 i1 i2 i3 i4 i5 i6 i7 HQ
      obtain ⟨x0, x1, x2, x3, x4, x5, x6, x7⟩ := boxFactsW HBI.out
      have f0 : wb.cell? ⟨w.heap.size, 0, none⟩ = some (.string nm) := HSB.out.f.cell 0
      have f1 : wb.cell? ⟨w.heap.size, 1, none⟩ = some (.slice _ n c) := HSB.out.f.cell 1
      have g0 : wb.cell? ⟨w.heap.size + 1, 0, none⟩ = some (.string nm) := HSB.out.g.cell 0
      have g1 : wb.cell? ⟨w.heap.size + 1, 1, none⟩ = some (.slice _ m d) := HSB.out.g.cell 1
      obtain ⟨s0, s1, s2, s3, s4, s5, s6, s7, s8, s9, s10, s11⟩ : wb.cell? ⟨w1.heap.size, 0, none⟩ = some (Value.int .i64 (xa : Int)) ∧ wb.cell? ⟨w1.heap.size, 1, none⟩ = some (Value.int .i64 (Ra 0)) ∧ wb.cell? ⟨w1.heap.size, 2, none⟩ = some (Value.int .i64 (Ra 1)) ∧ wb.cell? ⟨w1.heap.size, 3, none⟩ = some (Value.int .i64 (Ra 2)) ∧ wb.cell? ⟨w1.heap.size, 4, none⟩ = some (Value.int .i64 (Ra 3)) ∧ wb.cell? ⟨w1.heap.size, 5, none⟩ = some (Value.int .i64 (Ra 4)) ∧ wb.cell? ⟨w1.heap.size, 6, none⟩ = some (Value.int .i64 (Ra 5)) ∧ wb.cell? ⟨w1.heap.size, 7, none⟩ = some (Value.int .i64 (Ra 6)) ∧ wb.cell? ⟨w1.heap.size, 8, none⟩ = some (Value.int .i64 (Ra 7)) ∧ wb.cell? ⟨w1.heap.size, 9, none⟩ = some (Value.bool false) ∧ wb.cell? ⟨w1.heap.size, 10, none⟩ = some (Value.bool false) ∧ wb.cell? ⟨w1.heap.size, 11, none⟩ = some (Value.bool false) := ⟨HSB.out.a.cell 0, HSB.out.a.cell 1, HSB.out.a.cell 2, HSB.out.a.cell 3, HSB.out.a.cell 4, HSB.out.a.cell 5, HSB.out.a.cell 6, HSB.out.a.cell 7, HSB.out.a.cell 8, HSB.out.a.cell 9, HSB.out.a.cell 10, HSB.out.a.cell 11⟩
      obtain ⟨t0, t1, t2, t3, t4, t5, t6, t7, t8, t9, t10, t11⟩ : wb.cell? ⟨w3.heap.size, 0, none⟩ = some (Value.int .i64 (yb : Int)) ∧ wb.cell? ⟨w3.heap.size, 1, none⟩ = some (Value.int .i64 (Ra 0)) ∧ wb.cell? ⟨w3.heap.size, 2, none⟩ = some (Value.int .i64 (Ra 1)) ∧ wb.cell? ⟨w3.heap.size, 3, none⟩ = some (Value.int .i64 (Ra 2)) ∧ wb.cell? ⟨w3.heap.size, 4, none⟩ = some (Value.int .i64 (Ra 3)) ∧ wb.cell? ⟨w3.heap.size, 5, none⟩ = some (Value.int .i64 (Ra 4)) ∧ wb.cell? ⟨w3.heap.size, 6, none⟩ = some (Value.int .i64 (Ra 5)) ∧ wb.cell? ⟨w3.heap.size, 7, none⟩ = some (Value.int .i64 (Ra 6)) ∧ wb.cell? ⟨w3.heap.size, 8, none⟩ = some (Value.int .i64 (Ra 7)) ∧ wb.cell? ⟨w3.heap.size, 9, none⟩ = some (Value.bool false) ∧ wb.cell? ⟨w3.heap.size, 10, none⟩ = some (Value.bool false) ∧ wb.cell? ⟨w3.heap.size, 11, none⟩ = some (Value.bool false) := ⟨HSB.out.b.cell 0, HSB.out.b.cell 1, HSB.out.b.cell 2, HSB.out.b.cell 3, HSB.out.b.cell 4, HSB.out.b.cell 5, HSB.out.b.cell 6, HSB.out.b.cell 7, HSB.out.b.cell 8, HSB.out.b.cell 9, HSB.out.b.cell 10, HSB.out.b.cell 11⟩
      have HQI : ∀ X, (Op.equalIn 10000 47 (.agg #[.int .i64 j0, .int .i64 j1, .int .i64 j2, .int .i64 j3, .int .i64 j4, .int .i64 j5, .int .i64 j6, .int .i64 j7]) (.agg #[.int .i64 j0, .int .i64 j1, .int .i64 j2, .int .i64 j3, .int .i64 j4, .int .i64 j5, .int .i64 j6, .int .i64 j7])).run Tryd.prog X = .ok true X := fun X => by rw [eqInstIs]; simp
      go_wp2_with fail
      go_quiet (fail)
      obtain ⟨wq, hwq⟩ : ∃ X, wb.drewN nq = X := ⟨_, rfl⟩
      rw [hwq]
      have HSQ := Lib.hid (HSB.out.below (show Below wb.heap.size wb wq by rw [← hwq]; exact belowN wb _))
      have HBQ := Lib.hid (HBI.out.below' (show Below wb.heap.size wb wq by rw [← hwq]; exact belowN wb _))
      have hlr : w3.heap.size < wr.heap.size := HS.out.b.lt
      have HC5 := Lib.hid (chgRg8 wq (w.heap.size + 1 + 1) Ra)
      have HS5 := Lib.hid (HSQ.out.setR Ra)
      have HB5 := Lib.hid (HBQ.out.chg9 HC5.out (show wr.heap.size ≠ _ by have := HSQ.out.hp; have := HSQ.out.hq; omega))
      obtain ⟨w5, hw5⟩ : ∃ X, ((((((((wq.setCell ⟨w.heap.size + 1 + 1, 0, none⟩ (.int .i64 (Ra 0))).setCell ⟨w.heap.size + 1 + 1, 1, none⟩ (.int .i64 (Ra 1))).setCell ⟨w.heap.size + 1 + 1, 2, none⟩ (.int .i64 (Ra 2))).setCell ⟨w.heap.size + 1 + 1, 3, none⟩ (.int .i64 (Ra 3))).setCell ⟨w.heap.size + 1 + 1, 4, none⟩ (.int .i64 (Ra 4))).setCell ⟨w.heap.size + 1 + 1, 5, none⟩ (.int .i64 (Ra 5))).setCell ⟨w.heap.size + 1 + 1, 6, none⟩ (.int .i64 (Ra 6))).setCell ⟨w.heap.size + 1 + 1, 7, none⟩ (.int .i64 (Ra 7))) = X := ⟨_, rfl⟩
      have e5 : rg8 wq (w.heap.size + 1 + 1) Ra = w5 := hw5
      rw [e5] at HS5 HB5
      have HW5 := Lib.hid hw5
      clear f0 f1 g0 g1 s0 t0 s1 t1 s2 t2 s3 t3 s4 t4 s5 t5 s6 t6 s7 t7 s8 t8 s9 t9 s10 t10 s11 t11
      clear x0 x1 x2 x3 x4 x5 x6 x7 z0 z1 z2 z3 z4 z5 z6 z7 hwq hw5 e5 HC5 HQI
      obtain ⟨s0, s1, s2, s3, s4, s5, s6, s7, s8, s9, s10, s11⟩ : wq.cell? ⟨w1.heap.size, 0, none⟩ = some (.int .i64 (xa : Int)) ∧ wq.cell? ⟨w1.heap.size, 1, none⟩ = some (.int .i64 (Ra 0)) ∧ wq.cell? ⟨w1.heap.size, 2, none⟩ = some (.int .i64 (Ra 1)) ∧ wq.cell? ⟨w1.heap.size, 3, none⟩ = some (.int .i64 (Ra 2)) ∧ wq.cell? ⟨w1.heap.size, 4, none⟩ = some (.int .i64 (Ra 3)) ∧ wq.cell? ⟨w1.heap.size, 5, none⟩ = some (.int .i64 (Ra 4)) ∧ wq.cell? ⟨w1.heap.size, 6, none⟩ = some (.int .i64 (Ra 5)) ∧ wq.cell? ⟨w1.heap.size, 7, none⟩ = some (.int .i64 (Ra 6)) ∧ wq.cell? ⟨w1.heap.size, 8, none⟩ = some (.int .i64 (Ra 7)) ∧ wq.cell? ⟨w1.heap.size, 9, none⟩ = some (.bool false) ∧ wq.cell? ⟨w1.heap.size, 10, none⟩ = some (.bool false) ∧ wq.cell? ⟨w1.heap.size, 11, none⟩ = some (.bool false) := ⟨HSQ.out.a.cell 0, HSQ.out.a.cell 1, HSQ.out.a.cell 2, HSQ.out.a.cell 3, HSQ.out.a.cell 4, HSQ.out.a.cell 5, HSQ.out.a.cell 6, HSQ.out.a.cell 7, HSQ.out.a.cell 8, HSQ.out.a.cell 9, HSQ.out.a.cell 10, HSQ.out.a.cell 11⟩
      obtain ⟨⟨r0, r1, r2, r3, r4, r5, r6, r7⟩, fr0, fr1, fr2, fr3, fr4, fr5, fr6, fr7⟩ := blkFacts (show Blk wq (w.heap.size + 1 + 1) 28 #[.int .i64 (R0 0), .int .i64 (R0 1), .int .i64 (R0 2), .int .i64 (R0 3), .int .i64 (R0 4), .int .i64 (R0 5), .int .i64 (R0 6), .int .i64 (R0 7)] from HSQ.out.r)
      go_upto_region 18 with fail
      rw [HW5.out]
      clear s0 s1 s2 s3 s4 s5 s6 s7 s8 s9 s10 s11
      clear r0 r1 r2 r3 r4 r5 r6 r7 fr0 fr1 fr2 fr3 fr4 fr5 fr6 fr7
      obtain ⟨x0, x1, x2, x3, x4, x5, x6, x7⟩ := boxFactsW HB5.out
      go_wp2_with fail
      refine (HDF.out _).mono ?_
      rintro e1 w6 ⟨rfl, b6⟩
      have HS6 := Lib.hid (HS5.out.below b6)
      obtain ⟨xa1, hxa1⟩ : ∃ z, xa + 1 = z := ⟨_, rfl⟩
      obtain ⟨yb1, hyb1⟩ : ∃ z, yb + 1 = z := ⟨_, rfl⟩
      have hwxa : IntKind.i64.wrap ((xa : Int) + 1) = (xa1 : Int) := by rw [IntKind.wrap_i64]; omega
      have hwyb : IntKind.i64.wrap ((yb : Int) + 1) = (yb1 : Int) := by rw [IntKind.wrap_i64]; omega
      have hxn1 : xa1 ≤ n := by omega
      have hym1 : yb1 ≤ m := by omega
      rw [hxa1, hyb1] at HNX
      clear x0 x1 x2 x3 x4 x5 x6 x7 b6 hxa1 hyb1
      cases db
      · have HPT := Lib.hid (HNX.out 0)
        simp only [Bool.false_eq_true, if_false] at HPT
        obtain ⟨wt, hwt⟩ : ∃ X, w6 = X := ⟨_, rfl⟩
        obtain ⟨Rt, hRt⟩ : ∃ X, Ra = X := ⟨_, rfl⟩
        have HST7 : Hid (AkSt w #[.string nm, .slice (some ⟨q1, o1, none⟩) n c] #[.string nm, .slice (some ⟨q2, o2, none⟩) m d] w1.heap.size w3.heap.size Rt ⟨xa, Ra, false, false, false⟩ ⟨yb, Ra, false, false, false⟩ wt) := by rw [← hwt, ← hRt]; exact HS6
        rw [hRt] at HPT
        rw [hwt]
        clear hwt hRt
        obtain ⟨sa2, hsa2⟩ : ∃ s, locF C 256 xa1 Rt = s := ⟨_, rfl⟩
        obtain ⟨sb2, hsb2⟩ : ∃ s, locF D 256 yb1 Rt = s := ⟨_, rfl⟩
        have HA7 := Lib.hid (HLC.out xa1 hxn1 Rt wt HST7.out.bel)
        have HA8 := Lib.hid (fun X hX => HLD.out yb1 hym1 Rt X hX)
        rw [hsa2] at HA7
        rw [hsb2] at HA8
        have HPN : Hid (P xa1 yb1 Rt ∧ locF C 256 xa1 Rt = sa2 ∧ locF D 256 yb1 Rt = sb2) := Lib.hid ⟨HPT.out, hsa2, hsb2⟩
        unfold GivesStp fnV rgC stopC at HA7 HA8
        clear hsa2 hsb2
        have f0 : wt.cell? ⟨w.heap.size, 0, none⟩ = some (.string nm) := HST7.out.f.cell 0
        have f1 : wt.cell? ⟨w.heap.size, 1, none⟩ = some (.slice (some ⟨q1, o1, none⟩) n c) := HST7.out.f.cell 1
        obtain ⟨⟨r0, r1, r2, r3, r4, r5, r6, r7⟩, fr0, fr1, fr2, fr3, fr4, fr5, fr6, fr7⟩ := blkFacts (show Blk wt (w.heap.size + 1 + 1) 28 #[.int .i64 (Rt 0), .int .i64 (Rt 1), .int .i64 (Rt 2), .int .i64 (Rt 3), .int .i64 (Rt 4), .int .i64 (Rt 5), .int .i64 (Rt 6), .int .i64 (Rt 7)] from HST7.out.r)
        obtain ⟨s0, s1, s2, s3, s4, s5, s6, s7, s8, s9, s10, s11⟩ : wt.cell? ⟨w1.heap.size, 0, none⟩ = some (.int .i64 (xa : Int)) ∧ wt.cell? ⟨w1.heap.size, 1, none⟩ = some (.int .i64 (Ra 0)) ∧ wt.cell? ⟨w1.heap.size, 2, none⟩ = some (.int .i64 (Ra 1)) ∧ wt.cell? ⟨w1.heap.size, 3, none⟩ = some (.int .i64 (Ra 2)) ∧ wt.cell? ⟨w1.heap.size, 4, none⟩ = some (.int .i64 (Ra 3)) ∧ wt.cell? ⟨w1.heap.size, 5, none⟩ = some (.int .i64 (Ra 4)) ∧ wt.cell? ⟨w1.heap.size, 6, none⟩ = some (.int .i64 (Ra 5)) ∧ wt.cell? ⟨w1.heap.size, 7, none⟩ = some (.int .i64 (Ra 6)) ∧ wt.cell? ⟨w1.heap.size, 8, none⟩ = some (.int .i64 (Ra 7)) ∧ wt.cell? ⟨w1.heap.size, 9, none⟩ = some (.bool false) ∧ wt.cell? ⟨w1.heap.size, 10, none⟩ = some (.bool false) ∧ wt.cell? ⟨w1.heap.size, 11, none⟩ = some (.bool false) := ⟨HST7.out.a.cell 0, HST7.out.a.cell 1, HST7.out.a.cell 2, HST7.out.a.cell 3, HST7.out.a.cell 4, HST7.out.a.cell 5, HST7.out.a.cell 6, HST7.out.a.cell 7, HST7.out.a.cell 8, HST7.out.a.cell 9, HST7.out.a.cell 10, HST7.out.a.cell 11⟩
        go_wp2_with fail
        refine HA7.out.mono ?_
        rintro e1 w8 ⟨rfl, b8⟩
        have HS8 := Lib.hid (HST7.out.below b8)
        have HS9 := Lib.hid (HS8.out.setA sa2)
        obtain ⟨w9, hw9⟩ : ∃ X, ((((((((((((w8.setCell ⟨w1.heap.size, 0, none⟩ (.int .i64 (sa2.pos : Int))).setCell ⟨w1.heap.size, 1, none⟩ (.int .i64 (sa2.R 0))).setCell ⟨w1.heap.size, 2, none⟩ (.int .i64 (sa2.R 1))).setCell ⟨w1.heap.size, 3, none⟩ (.int .i64 (sa2.R 2))).setCell ⟨w1.heap.size, 4, none⟩ (.int .i64 (sa2.R 3))).setCell ⟨w1.heap.size, 5, none⟩ (.int .i64 (sa2.R 4))).setCell ⟨w1.heap.size, 6, none⟩ (.int .i64 (sa2.R 5))).setCell ⟨w1.heap.size, 7, none⟩ (.int .i64 (sa2.R 6))).setCell ⟨w1.heap.size, 8, none⟩ (.int .i64 (sa2.R 7))).setCell ⟨w1.heap.size, 9, none⟩ (.bool sa2.dn)).setCell ⟨w1.heap.size, 10, none⟩ (.bool sa2.fl)).setCell ⟨w1.heap.size, 11, none⟩ (.bool sa2.lg)) = X := ⟨_, rfl⟩
        have e9 : st12 w8 w1.heap.size sa2 = w9 := hw9
        rw [e9] at HS9
        have HW9 := Lib.hid hw9
        clear f0 f1 b8 hw9 e9 s0 s1 s2 s3 s4 s5 s6 s7 s8 s9 s10 s11
        clear r0 r1 r2 r3 r4 r5 r6 r7 fr0 fr1 fr2 fr3 fr4 fr5 fr6 fr7
        obtain ⟨s0, s1, s2, s3, s4, s5, s6, s7, s8, s9, s10, s11⟩ : w8.cell? ⟨w1.heap.size, 0, none⟩ = some (.int .i64 (xa : Int)) ∧ w8.cell? ⟨w1.heap.size, 1, none⟩ = some (.int .i64 (Ra 0)) ∧ w8.cell? ⟨w1.heap.size, 2, none⟩ = some (.int .i64 (Ra 1)) ∧ w8.cell? ⟨w1.heap.size, 3, none⟩ = some (.int .i64 (Ra 2)) ∧ w8.cell? ⟨w1.heap.size, 4, none⟩ = some (.int .i64 (Ra 3)) ∧ w8.cell? ⟨w1.heap.size, 5, none⟩ = some (.int .i64 (Ra 4)) ∧ w8.cell? ⟨w1.heap.size, 6, none⟩ = some (.int .i64 (Ra 5)) ∧ w8.cell? ⟨w1.heap.size, 7, none⟩ = some (.int .i64 (Ra 6)) ∧ w8.cell? ⟨w1.heap.size, 8, none⟩ = some (.int .i64 (Ra 7)) ∧ w8.cell? ⟨w1.heap.size, 9, none⟩ = some (.bool false) ∧ w8.cell? ⟨w1.heap.size, 10, none⟩ = some (.bool false) ∧ w8.cell? ⟨w1.heap.size, 11, none⟩ = some (.bool false) := ⟨HS8.out.a.cell 0, HS8.out.a.cell 1, HS8.out.a.cell 2, HS8.out.a.cell 3, HS8.out.a.cell 4, HS8.out.a.cell 5, HS8.out.a.cell 6, HS8.out.a.cell 7, HS8.out.a.cell 8, HS8.out.a.cell 9, HS8.out.a.cell 10, HS8.out.a.cell 11⟩
        have hzf : ∀ i, w8.frozen? ⟨w1.heap.size, i, none⟩ = false := fun i => HS8.out.a.frozen i
        go_upto_region 22 with fail
        rw [HW9.out]
        clear hzf s0 s1 s2 s3 s4 s5 s6 s7 s8 s9 s10 s11
        have HA9 := Lib.hid (HA8.out w9 HS9.out.bel)
        have g0 : w9.cell? ⟨w.heap.size + 1, 0, none⟩ = some (.string nm) := HS9.out.g.cell 0
        have g1 : w9.cell? ⟨w.heap.size + 1, 1, none⟩ = some (.slice (some ⟨q2, o2, none⟩) m d) := HS9.out.g.cell 1
        obtain ⟨⟨r0, r1, r2, r3, r4, r5, r6, r7⟩, fr0, fr1, fr2, fr3, fr4, fr5, fr6, fr7⟩ := blkFacts (show Blk w9 (w.heap.size + 1 + 1) 28 #[.int .i64 (Rt 0), .int .i64 (Rt 1), .int .i64 (Rt 2), .int .i64 (Rt 3), .int .i64 (Rt 4), .int .i64 (Rt 5), .int .i64 (Rt 6), .int .i64 (Rt 7)] from HS9.out.r)
        obtain ⟨t0, t1, t2, t3, t4, t5, t6, t7, t8, t9, t10, t11⟩ : w9.cell? ⟨w3.heap.size, 0, none⟩ = some (.int .i64 (yb : Int)) ∧ w9.cell? ⟨w3.heap.size, 1, none⟩ = some (.int .i64 (Ra 0)) ∧ w9.cell? ⟨w3.heap.size, 2, none⟩ = some (.int .i64 (Ra 1)) ∧ w9.cell? ⟨w3.heap.size, 3, none⟩ = some (.int .i64 (Ra 2)) ∧ w9.cell? ⟨w3.heap.size, 4, none⟩ = some (.int .i64 (Ra 3)) ∧ w9.cell? ⟨w3.heap.size, 5, none⟩ = some (.int .i64 (Ra 4)) ∧ w9.cell? ⟨w3.heap.size, 6, none⟩ = some (.int .i64 (Ra 5)) ∧ w9.cell? ⟨w3.heap.size, 7, none⟩ = some (.int .i64 (Ra 6)) ∧ w9.cell? ⟨w3.heap.size, 8, none⟩ = some (.int .i64 (Ra 7)) ∧ w9.cell? ⟨w3.heap.size, 9, none⟩ = some (.bool false) ∧ w9.cell? ⟨w3.heap.size, 10, none⟩ = some (.bool false) ∧ w9.cell? ⟨w3.heap.size, 11, none⟩ = some (.bool false) := ⟨HS9.out.b.cell 0, HS9.out.b.cell 1, HS9.out.b.cell 2, HS9.out.b.cell 3, HS9.out.b.cell 4, HS9.out.b.cell 5, HS9.out.b.cell 6, HS9.out.b.cell 7, HS9.out.b.cell 8, HS9.out.b.cell 9, HS9.out.b.cell 10, HS9.out.b.cell 11⟩
        go_wp2_with fail
        refine HA9.out.mono ?_
        rintro e1 w10 ⟨rfl, b10⟩
        have HS10 := Lib.hid (HS9.out.below b10)
        have HS11 := Lib.hid (HS10.out.setB sb2)
        clear g0 g1 b10 t0 t1 t2 t3 t4 t5 t6 t7 t8 t9 t10 t11
        clear r0 r1 r2 r3 r4 r5 r6 r7 fr0 fr1 fr2 fr3 fr4 fr5 fr6 fr7
        obtain ⟨t0, t1, t2, t3, t4, t5, t6, t7, t8, t9, t10, t11⟩ : w10.cell? ⟨w3.heap.size, 0, none⟩ = some (.int .i64 (yb : Int)) ∧ w10.cell? ⟨w3.heap.size, 1, none⟩ = some (.int .i64 (Ra 0)) ∧ w10.cell? ⟨w3.heap.size, 2, none⟩ = some (.int .i64 (Ra 1)) ∧ w10.cell? ⟨w3.heap.size, 3, none⟩ = some (.int .i64 (Ra 2)) ∧ w10.cell? ⟨w3.heap.size, 4, none⟩ = some (.int .i64 (Ra 3)) ∧ w10.cell? ⟨w3.heap.size, 5, none⟩ = some (.int .i64 (Ra 4)) ∧ w10.cell? ⟨w3.heap.size, 6, none⟩ = some (.int .i64 (Ra 5)) ∧ w10.cell? ⟨w3.heap.size, 7, none⟩ = some (.int .i64 (Ra 6)) ∧ w10.cell? ⟨w3.heap.size, 8, none⟩ = some (.int .i64 (Ra 7)) ∧ w10.cell? ⟨w3.heap.size, 9, none⟩ = some (.bool false) ∧ w10.cell? ⟨w3.heap.size, 10, none⟩ = some (.bool false) ∧ w10.cell? ⟨w3.heap.size, 11, none⟩ = some (.bool false) := ⟨HS10.out.b.cell 0, HS10.out.b.cell 1, HS10.out.b.cell 2, HS10.out.b.cell 3, HS10.out.b.cell 4, HS10.out.b.cell 5, HS10.out.b.cell 6, HS10.out.b.cell 7, HS10.out.b.cell 8, HS10.out.b.cell 9, HS10.out.b.cell 10, HS10.out.b.cell 11⟩
        have hzf : ∀ i, w10.frozen? ⟨w3.heap.size, i, none⟩ = false := fun i => HS10.out.b.frozen i
        go_wp2_with fail
        go_roundg g2
        case measure => omega
        case rel => exact ⟨k + 1, xa1, yb1, Rt, Rt, sa2, sb2, by omega, by go_num, HPN, HS11.out⟩
      · have HPT := Lib.hid (HNX.out (wrap32 v))
        simp only [if_true] at HPT
        have ka := (HS6.out.r.cell an).trans (rgCAt Ra han)
        have fa := HS6.out.r.frozen an
        obtain ⟨wt, hwt⟩ : ∃ X, w6.setCell ⟨w.heap.size + 1 + 1, an, none⟩ (.int .i64 (wrap32 v)) = X := ⟨_, rfl⟩
        obtain ⟨Rt, hRt⟩ : ∃ X, upR Ra (an : Int) (wrap32 v) = X := ⟨_, rfl⟩
        have HST7 := Lib.hid (HS6.out.put han (wrap32 v))
        rw [hwt, hRt] at HST7
        rw [hRt] at HPT
        have HWT := Lib.hid hwt
        have HWR := Lib.hid (fun X => rWrap v X)
        obtain ⟨vw, hvw⟩ : ∃ x, wrap32 v = x := ⟨_, rfl⟩
        rw [hvw] at HWT HWR
        clear hwt hRt hvw
        go_wp2_with fail
        refine (HWR.out _).mono ?_
        rintro e1 w66 ⟨rfl, rfl⟩
        go_upto_region 21 with fail
        rw [HWT.out]
        clear ka fa
        obtain ⟨sa2, hsa2⟩ : ∃ s, locF C 256 xa1 Rt = s := ⟨_, rfl⟩
        obtain ⟨sb2, hsb2⟩ : ∃ s, locF D 256 yb1 Rt = s := ⟨_, rfl⟩
        have HA7 := Lib.hid (HLC.out xa1 hxn1 Rt wt HST7.out.bel)
        have HA8 := Lib.hid (fun X hX => HLD.out yb1 hym1 Rt X hX)
        rw [hsa2] at HA7
        rw [hsb2] at HA8
        have HPN : Hid (P xa1 yb1 Rt ∧ locF C 256 xa1 Rt = sa2 ∧ locF D 256 yb1 Rt = sb2) := Lib.hid ⟨HPT.out, hsa2, hsb2⟩
        unfold GivesStp fnV rgC stopC at HA7 HA8
        clear hsa2 hsb2
        have f0 : wt.cell? ⟨w.heap.size, 0, none⟩ = some (.string nm) := HST7.out.f.cell 0
        have f1 : wt.cell? ⟨w.heap.size, 1, none⟩ = some (.slice (some ⟨q1, o1, none⟩) n c) := HST7.out.f.cell 1
        obtain ⟨⟨r0, r1, r2, r3, r4, r5, r6, r7⟩, fr0, fr1, fr2, fr3, fr4, fr5, fr6, fr7⟩ := blkFacts (show Blk wt (w.heap.size + 1 + 1) 28 #[.int .i64 (Rt 0), .int .i64 (Rt 1), .int .i64 (Rt 2), .int .i64 (Rt 3), .int .i64 (Rt 4), .int .i64 (Rt 5), .int .i64 (Rt 6), .int .i64 (Rt 7)] from HST7.out.r)
        obtain ⟨s0, s1, s2, s3, s4, s5, s6, s7, s8, s9, s10, s11⟩ : wt.cell? ⟨w1.heap.size, 0, none⟩ = some (.int .i64 (xa : Int)) ∧ wt.cell? ⟨w1.heap.size, 1, none⟩ = some (.int .i64 (Ra 0)) ∧ wt.cell? ⟨w1.heap.size, 2, none⟩ = some (.int .i64 (Ra 1)) ∧ wt.cell? ⟨w1.heap.size, 3, none⟩ = some (.int .i64 (Ra 2)) ∧ wt.cell? ⟨w1.heap.size, 4, none⟩ = some (.int .i64 (Ra 3)) ∧ wt.cell? ⟨w1.heap.size, 5, none⟩ = some (.int .i64 (Ra 4)) ∧ wt.cell? ⟨w1.heap.size, 6, none⟩ = some (.int .i64 (Ra 5)) ∧ wt.cell? ⟨w1.heap.size, 7, none⟩ = some (.int .i64 (Ra 6)) ∧ wt.cell? ⟨w1.heap.size, 8, none⟩ = some (.int .i64 (Ra 7)) ∧ wt.cell? ⟨w1.heap.size, 9, none⟩ = some (.bool false) ∧ wt.cell? ⟨w1.heap.size, 10, none⟩ = some (.bool false) ∧ wt.cell? ⟨w1.heap.size, 11, none⟩ = some (.bool false) := ⟨HST7.out.a.cell 0, HST7.out.a.cell 1, HST7.out.a.cell 2, HST7.out.a.cell 3, HST7.out.a.cell 4, HST7.out.a.cell 5, HST7.out.a.cell 6, HST7.out.a.cell 7, HST7.out.a.cell 8, HST7.out.a.cell 9, HST7.out.a.cell 10, HST7.out.a.cell 11⟩
        go_wp2_with fail
        refine HA7.out.mono ?_
        rintro e1 w8 ⟨rfl, b8⟩
        have HS8 := Lib.hid (HST7.out.below b8)
        have HS9 := Lib.hid (HS8.out.setA sa2)
        obtain ⟨w9, hw9⟩ : ∃ X, ((((((((((((w8.setCell ⟨w1.heap.size, 0, none⟩ (.int .i64 (sa2.pos : Int))).setCell ⟨w1.heap.size, 1, none⟩ (.int .i64 (sa2.R 0))).setCell ⟨w1.heap.size, 2, none⟩ (.int .i64 (sa2.R 1))).setCell ⟨w1.heap.size, 3, none⟩ (.int .i64 (sa2.R 2))).setCell ⟨w1.heap.size, 4, none⟩ (.int .i64 (sa2.R 3))).setCell ⟨w1.heap.size, 5, none⟩ (.int .i64 (sa2.R 4))).setCell ⟨w1.heap.size, 6, none⟩ (.int .i64 (sa2.R 5))).setCell ⟨w1.heap.size, 7, none⟩ (.int .i64 (sa2.R 6))).setCell ⟨w1.heap.size, 8, none⟩ (.int .i64 (sa2.R 7))).setCell ⟨w1.heap.size, 9, none⟩ (.bool sa2.dn)).setCell ⟨w1.heap.size, 10, none⟩ (.bool sa2.fl)).setCell ⟨w1.heap.size, 11, none⟩ (.bool sa2.lg)) = X := ⟨_, rfl⟩
        have e9 : st12 w8 w1.heap.size sa2 = w9 := hw9
        rw [e9] at HS9
        have HW9 := Lib.hid hw9
        clear f0 f1 b8 hw9 e9 s0 s1 s2 s3 s4 s5 s6 s7 s8 s9 s10 s11
        clear r0 r1 r2 r3 r4 r5 r6 r7 fr0 fr1 fr2 fr3 fr4 fr5 fr6 fr7
        obtain ⟨s0, s1, s2, s3, s4, s5, s6, s7, s8, s9, s10, s11⟩ : w8.cell? ⟨w1.heap.size, 0, none⟩ = some (.int .i64 (xa : Int)) ∧ w8.cell? ⟨w1.heap.size, 1, none⟩ = some (.int .i64 (Ra 0)) ∧ w8.cell? ⟨w1.heap.size, 2, none⟩ = some (.int .i64 (Ra 1)) ∧ w8.cell? ⟨w1.heap.size, 3, none⟩ = some (.int .i64 (Ra 2)) ∧ w8.cell? ⟨w1.heap.size, 4, none⟩ = some (.int .i64 (Ra 3)) ∧ w8.cell? ⟨w1.heap.size, 5, none⟩ = some (.int .i64 (Ra 4)) ∧ w8.cell? ⟨w1.heap.size, 6, none⟩ = some (.int .i64 (Ra 5)) ∧ w8.cell? ⟨w1.heap.size, 7, none⟩ = some (.int .i64 (Ra 6)) ∧ w8.cell? ⟨w1.heap.size, 8, none⟩ = some (.int .i64 (Ra 7)) ∧ w8.cell? ⟨w1.heap.size, 9, none⟩ = some (.bool false) ∧ w8.cell? ⟨w1.heap.size, 10, none⟩ = some (.bool false) ∧ w8.cell? ⟨w1.heap.size, 11, none⟩ = some (.bool false) := ⟨HS8.out.a.cell 0, HS8.out.a.cell 1, HS8.out.a.cell 2, HS8.out.a.cell 3, HS8.out.a.cell 4, HS8.out.a.cell 5, HS8.out.a.cell 6, HS8.out.a.cell 7, HS8.out.a.cell 8, HS8.out.a.cell 9, HS8.out.a.cell 10, HS8.out.a.cell 11⟩
        have hzf : ∀ i, w8.frozen? ⟨w1.heap.size, i, none⟩ = false := fun i => HS8.out.a.frozen i
        go_upto_region 22 with fail
        rw [HW9.out]
        clear hzf s0 s1 s2 s3 s4 s5 s6 s7 s8 s9 s10 s11
        have HA9 := Lib.hid (HA8.out w9 HS9.out.bel)
        have g0 : w9.cell? ⟨w.heap.size + 1, 0, none⟩ = some (.string nm) := HS9.out.g.cell 0
        have g1 : w9.cell? ⟨w.heap.size + 1, 1, none⟩ = some (.slice (some ⟨q2, o2, none⟩) m d) := HS9.out.g.cell 1
        obtain ⟨⟨r0, r1, r2, r3, r4, r5, r6, r7⟩, fr0, fr1, fr2, fr3, fr4, fr5, fr6, fr7⟩ := blkFacts (show Blk w9 (w.heap.size + 1 + 1) 28 #[.int .i64 (Rt 0), .int .i64 (Rt 1), .int .i64 (Rt 2), .int .i64 (Rt 3), .int .i64 (Rt 4), .int .i64 (Rt 5), .int .i64 (Rt 6), .int .i64 (Rt 7)] from HS9.out.r)
        obtain ⟨t0, t1, t2, t3, t4, t5, t6, t7, t8, t9, t10, t11⟩ : w9.cell? ⟨w3.heap.size, 0, none⟩ = some (.int .i64 (yb : Int)) ∧ w9.cell? ⟨w3.heap.size, 1, none⟩ = some (.int .i64 (Ra 0)) ∧ w9.cell? ⟨w3.heap.size, 2, none⟩ = some (.int .i64 (Ra 1)) ∧ w9.cell? ⟨w3.heap.size, 3, none⟩ = some (.int .i64 (Ra 2)) ∧ w9.cell? ⟨w3.heap.size, 4, none⟩ = some (.int .i64 (Ra 3)) ∧ w9.cell? ⟨w3.heap.size, 5, none⟩ = some (.int .i64 (Ra 4)) ∧ w9.cell? ⟨w3.heap.size, 6, none⟩ = some (.int .i64 (Ra 5)) ∧ w9.cell? ⟨w3.heap.size, 7, none⟩ = some (.int .i64 (Ra 6)) ∧ w9.cell? ⟨w3.heap.size, 8, none⟩ = some (.int .i64 (Ra 7)) ∧ w9.cell? ⟨w3.heap.size, 9, none⟩ = some (.bool false) ∧ w9.cell? ⟨w3.heap.size, 10, none⟩ = some (.bool false) ∧ w9.cell? ⟨w3.heap.size, 11, none⟩ = some (.bool false) := ⟨HS9.out.b.cell 0, HS9.out.b.cell 1, HS9.out.b.cell 2, HS9.out.b.cell 3, HS9.out.b.cell 4, HS9.out.b.cell 5, HS9.out.b.cell 6, HS9.out.b.cell 7, HS9.out.b.cell 8, HS9.out.b.cell 9, HS9.out.b.cell 10, HS9.out.b.cell 11⟩
        go_wp2_with fail
        refine HA9.out.mono ?_
        rintro e1 w10 ⟨rfl, b10⟩
        have HS10 := Lib.hid (HS9.out.below b10)
        have HS11 := Lib.hid (HS10.out.setB sb2)
        clear g0 g1 b10 t0 t1 t2 t3 t4 t5 t6 t7 t8 t9 t10 t11
        clear r0 r1 r2 r3 r4 r5 r6 r7 fr0 fr1 fr2 fr3 fr4 fr5 fr6 fr7
        obtain ⟨t0, t1, t2, t3, t4, t5, t6, t7, t8, t9, t10, t11⟩ : w10.cell? ⟨w3.heap.size, 0, none⟩ = some (.int .i64 (yb : Int)) ∧ w10.cell? ⟨w3.heap.size, 1, none⟩ = some (.int .i64 (Ra 0)) ∧ w10.cell? ⟨w3.heap.size, 2, none⟩ = some (.int .i64 (Ra 1)) ∧ w10.cell? ⟨w3.heap.size, 3, none⟩ = some (.int .i64 (Ra 2)) ∧ w10.cell? ⟨w3.heap.size, 4, none⟩ = some (.int .i64 (Ra 3)) ∧ w10.cell? ⟨w3.heap.size, 5, none⟩ = some (.int .i64 (Ra 4)) ∧ w10.cell? ⟨w3.heap.size, 6, none⟩ = some (.int .i64 (Ra 5)) ∧ w10.cell? ⟨w3.heap.size, 7, none⟩ = some (.int .i64 (Ra 6)) ∧ w10.cell? ⟨w3.heap.size, 8, none⟩ = some (.int .i64 (Ra 7)) ∧ w10.cell? ⟨w3.heap.size, 9, none⟩ = some (.bool false) ∧ w10.cell? ⟨w3.heap.size, 10, none⟩ = some (.bool false) ∧ w10.cell? ⟨w3.heap.size, 11, none⟩ = some (.bool false) := ⟨HS10.out.b.cell 0, HS10.out.b.cell 1, HS10.out.b.cell 2, HS10.out.b.cell 3, HS10.out.b.cell 4, HS10.out.b.cell 5, HS10.out.b.cell 6, HS10.out.b.cell 7, HS10.out.b.cell 8, HS10.out.b.cell 9, HS10.out.b.cell 10, HS10.out.b.cell 11⟩
        have hzf : ∀ i, w10.frozen? ⟨w3.heap.size, i, none⟩ = false := fun i => HS10.out.b.frozen i
        go_wp2_with fail
        go_roundg g2
        case measure => omega
        case rel => exact ⟨k + 1, xa1, yb1, Rt, Rt, sa2, sb2, by omega, by go_num, HPN, HS11.out⟩
end Go.Proofs.YtnnpkbonbemeaaaDoor
