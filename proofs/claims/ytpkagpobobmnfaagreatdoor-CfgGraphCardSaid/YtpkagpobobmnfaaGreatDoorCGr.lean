/-
  The pairs of a control flow graph, pure: as the program lists them, as the specification does; both lists have the same members.
-/
import Derived.Test.YtpkagpobobmnfaaGreatDoorCPure
import Derived.Test.YtpkagpobobmnfaaGreatDoorCRow
import Derived.Test.YtpkagpobobmnfaaGreatDoorCCb
import Derived.Test.YtpkagpobobmnfaaGreatDoorCAr
import Derived.Test.YtpkagpobobmnfaaGreatDoorCCc
import Derived.Test.YtpkagpobobmnfaaGreatDoorCRn
import Derived.Test.YtpkagpobobmnfaaGreatDoorCRr
import Derived.Test.YtpkagpobobmnfaaGreatDoorCCf
namespace Go.Proofs.YtpkagpobobmnfaaGreatDoor

/-- A successor as a pair. -/
def prN7 (k : Nat) (y : Nat) : Int × Int := ((k : Int), (y : Int))
def prI7 (k : Nat) (y : Int) : Int × Int := ((k : Int), y)
def grL (C : List I8) : Nat → Prs
  | 0 => []
  | k + 1 => grL C k ++ (sc C k).map (prN7 k)
def grS (C : List I8) : Nat → Prs
  | 0 => []
  | k + 1 => grS C k ++ (scS C k).map (prI7 k)
theorem grSame (C : List I8) : ∀ k p, p ∈ grL C k ↔ p ∈ grS C k
  | 0, p => Iff.rfl
  | k + 1, p => by
    rw [grL, grS, List.mem_append, List.mem_append, grSame C k p, List.mem_map, List.mem_map]
    refine or_congr Iff.rfl ⟨fun ⟨y, h1, h2⟩ => ⟨(y : Int), scSMem.2 ⟨y, h1, rfl⟩, h2⟩, fun ⟨x, h1, h2⟩ => ?_⟩
    obtain ⟨y, h3, rfl⟩ := scSMem.1 h1
    exact ⟨y, h3, h2⟩
theorem okRCongr {N : Int} {l m : Prs} (h : ∀ p, p ∈ l ↔ p ∈ m) : okR N l = okR N m := by
  unfold okR
  exact decide_eq_decide.2 ⟨fun g => ⟨g.1, g.2.1, fun p hp => g.2.2 p ((h p).2 hp)⟩, fun g => ⟨g.1, g.2.1, fun p hp => g.2.2 p ((h p).1 hp)⟩⟩
theorem nrmNCongr {N : Int} {l m : Prs} (h : ∀ p, p ∈ l ↔ p ∈ m) : nrmN N l = nrmN N m := by unfold nrmN; rw [okRCongr h]
theorem nrmLCongr {N : Int} {l m : Prs} (h : ∀ p, p ∈ l ↔ p ∈ m) : nrmL N l = nrmL N m := by
  unfold nrmL
  rw [okRCongr h, show hasP l = hasP m from funext fun a => funext fun b => decide_eq_decide.2 (h _)]
theorem scLen2 {C : List I8} {k : Nat} : (sc C k).length ≤ 2 := scLen
theorem grLLen (C : List I8) : ∀ k, (grL C k).length ≤ 2 * k
  | 0 => Nat.le_refl _
  | k + 1 => by
    rw [grL, List.length_append, List.length_map]
    have := grLLen C k
    have := scLen2 (C := C) (k := k)
    omega
theorem scSLen7 {C : List I8} {k : Nat} : (scS C k).length ≤ 2 := by
  unfold scS
  have := lenMk ((sc C k).map Int.ofNat)
  rw [List.length_map] at this
  have := scLen2 (C := C) (k := k)
  omega
theorem grSLen (C : List I8) : ∀ k, (grS C k).length ≤ 2 * k
  | 0 => Nat.le_refl _
  | k + 1 => by
    rw [grS, List.length_append, List.length_map]
    have := grSLen C k
    have := scSLen7 (C := C) (k := k)
    omega
/-- The graph: its error, its number, its pairs. -/
def grE (C : List I8) : Int := if cfE C = 0 then if 63 < C.length then 4 else 0 else cfE C
def grN (C : List I8) : Int := if grE C = 0 then nrmN ((C.length : Int) + 1) (grL C C.length) else 0
def grP (C : List I8) : Prs := if grE C = 0 then nrmL ((C.length : Int) + 1) (grL C C.length) else []
theorem grS_N (C : List I8) (N : Int) : nrmN N (grS C C.length) = nrmN N (grL C C.length) := nrmNCongr fun p => (grSame C _ p).symm
theorem grS_L (C : List I8) (N : Int) : nrmL N (grS C C.length) = nrmL N (grL C C.length) := nrmLCongr fun p => (grSame C _ p).symm
end Go.Proofs.YtpkagpobobmnfaaGreatDoor

namespace Go.Proofs.YtpkagpobobmnfaaGreatDoor
open Go Go.RowKit Go.Shelf
attribute [local go_sem] Oper.semAt_some

theorem two7 (W : World) (o1 o2 : Obj) {Z : World} (hZ : (W.alloc o1).alloc o2 = Z) : Z.heap[W.heap.size]? = some o1 ∧ Z.heap[W.heap.size + 1]? = some o2 ∧ Below W.heap.size W Z := by
  subst hZ
  refine ⟨((belowAlloc (W.alloc o1) o2).block W.heap.size (by simp)).trans (World.alloc_heap_new W o1), ?_, belowThen (belowAlloc _ _) (belowAlloc _ _)⟩
  have h := World.alloc_heap_new (W.alloc o1) o2
  rwa [World.size_alloc] at h
theorem ownCells7 {W : World} {b n k : Nat} {v : Value} {xs : List Value} {g : Nat} {e : TypeId} (h : W.ownsRow b e k v n xs) (hg : v.ownBlock = some g) : ∃ o : Obj, W.heap[g]? = some o ∧ o.isCells = true := by
  rcases h.2 with ⟨rfl, _⟩ | ⟨k, cap, cur, rfl, _, hk, _⟩
  · simp [Value.ownBlock] at hg
  · obtain rfl : k = g := by simpa [Value.ownBlock] using hg
    exact ⟨_, hk, rfl⟩
theorem infoRel7 : (Tryz.prog.info? 28).map (·.size) = some 2 := by kernel_rfl
theorem rpPut7 {X : World} {D : Nat} {x : Option (List Deferred)} {o : Obj} (hD : X.heap[D]? = some (.deferred x)) {A : Option Addr} {c : Nat} {l : Prs} (h : Rp X A c l) : Rp (X.putObj D o) A c l :=
  h.chg (F := fun q => q ≠ D) ⟨rfl, rfl, rfl, by simp, fun q _ hq => World.putObj_heap_other hq⟩ fun ad e hn => by
    obtain ⟨b, off, e', hb, hc⟩ := h.at_ hn
    rw [e] at e'
    injection e' with e'
    subst e'
    intro hbD
    have h0 := (hc 0 hn).1
    obtain ⟨o', h1, h2⟩ := cellHeap h0
    have h1 : X.heap[b]? = some o' := h1
    have hbD : b = D := hbD
    rw [hbD, hD] at h1
    injection h1 with h1
    subst h1
    cases h2
/-- The pairs when the instructions below k have been looked at, and of k's successors those of ps. -/
def grM (C : List I8) (k : Nat) (ps : List Nat) : Prs := grL C k ++ ps.map (prN7 k)
theorem grM0 {C : List I8} {k : Nat} : grM C k [] = grL C k := by unfold grM; simp
theorem grMEnd {C : List I8} {k : Nat} : grM C k (sc C k) = grL C (k + 1) := rfl
theorem grMS {C : List I8} {k : Nat} {ps : List Nat} {y : Nat} : grM C k (ps ++ [y]) = grM C k ps ++ [prN7 k y] := by unfold grM; rw [List.map_append, List.append_assoc]; rfl
theorem grMLen {C : List I8} {k : Nat} {ps : List Nat} (h : ps.length ≤ 2) : (grM C k ps).length ≤ 2 * k + 2 := by
  unfold grM
  rw [List.length_append, List.length_map]
  have := grLLen C k
  omega
/-- The graph under construction: its box, its row of pairs. -/
structure GrSt (w : World) (g : Nat) (n1 : Nat) (v : Value) (l : Prs) (X : World) : Prop where
  bel : Below w.heap.size w X
  rb : BoxR X (w.heap.size + 1) 0 (.slice none 0 0)
  gb : BoxR X g n1 v
  own : OwnP X (g + 1) v l
  lo : w.heap.size + 1 < g
theorem GrSt.chg {w : World} {g n1 : Nat} {v : Value} {l : Prs} {X Y : World} {F : Nat → Prop} (h : GrSt w g n1 v l X) (hc : Chg X Y F) (h0 : ∀ q, q ≤ g → F q) (hv : ∀ q, v.ownBlock = some q → F q) : GrSt w g n1 v l Y :=
  ⟨⟨hc.os.trans h.bel.os, hc.tape.trans h.bel.tape, hc.output.trans h.bel.output, Nat.le_trans h.bel.size hc.size, fun q hq => (hc.block q (Nat.lt_of_lt_of_le hq h.bel.size) (h0 q (by have := h.lo; omega))).trans (h.bel.block q hq)⟩, (hc.block _ h.rb.lt (h0 _ (by have := h.lo; omega))).trans h.rb, (hc.block _ h.gb.lt (h0 _ (Nat.le_refl _))).trans h.gb, h.own.chg hc hv, h.lo⟩
theorem GrSt.below {w : World} {g n1 : Nat} {v : Value} {l : Prs} {X Y : World} (h : GrSt w g n1 v l X) (hb : Below X.heap.size X Y) : GrSt w g n1 v l Y := h.chg (Chg.ofBelow hb fun _ => True) (fun _ _ => trivial) fun _ _ => trivial
/-- What lies in memory while the successors of k are visited. -/
structure GrIn (C : List I8) (w : World) (g n1 k b n : Nat) (A : Option Addr) (c : Nat) (Ds ps : List Nat) (X : World) : Prop where
  st : ∃ v, GrSt w g n1 v (grM C k ps) X ∧ ∀ q, v.ownBlock = some q → q < b ∨ b + 3 ≤ q
  ka : Boxed X b 3 (.int .i64 (k : Int))
  x1 : Boxed X (b + 1) 60 (.slice A n c)
  x2 : Boxed X (b + 2) 3 (.int .i64 (k : Int))
  op : OpenR Ds X
  ln : ps.length ≤ 2
theorem GrIn.own {C : List I8} {w : World} {g n1 k b n : Nat} {A : Option Addr} {c : Nat} {Ds ps : List Nat} {X X' : World} (h : GrIn C w g n1 k b n A c Ds ps X) {row : Option Nat} (hgr : X.grownBy X' row) (hr : ∀ q, row = some q → b + 3 ≤ q ∧ (∃ o, X.heap[q]? = some o ∧ o.isCells = false)) (hg : g < b) (hD : ∀ D ∈ Ds, D < b) : GrIn C w g n1 k b n A c Ds ps X' := by
  have hc : Chg X X' (fun q => row ≠ some q) := Chg.ofGrown hgr fun _ h => h
  have hlo : ∀ q, q < b + 3 → row ≠ some q := fun q hq e => by have := (hr q e).1; omega
  obtain ⟨v, hs, ha⟩ := h.st
  refine ⟨⟨v, hs.chg hc (fun q hq => hlo q (by omega)) fun q hq e => ?_, ha⟩, (hc.block _ h.ka.lt (hlo _ (by omega))).trans h.ka, (hc.block _ h.x1.lt (hlo _ (by omega))).trans h.x1, (hc.block _ h.x2.lt (hlo _ (by omega))).trans h.x2, h.op.chg hc fun D hDm => hlo D (by have := hD D hDm; omega), h.ln⟩
  obtain ⟨_, o2, ho2, hn⟩ := hr q e
  obtain ⟨o3, e3, hc3⟩ := ownCells7 hs.own hq
  rw [ho2] at e3
  injection e3 with e3
  subst e3
  rw [hn] at hc3; cases hc3
/-- One pair more. -/
theorem GrSt.push {w : World} {g n1 : Nat} {v : Value} {l : Prs} {X : World} (h : GrSt w g n1 v l X) (p : Int × Int) (hl : l.length ≤ 1000) (ty : TypeId) :
    ∃ v' w2, (Builtin.append_ #[26, 26] ty #[v, .slice (some ⟨X.heap.size, 0, none⟩) 1 1]).run Tryz.prog (X.alloc (.cells #[.int .i64 p.1, .int .i64 p.2] 66)) = .ok v' w2 ∧ w2.cell? ⟨g, 1, none⟩ = some v ∧ w2.frozen? ⟨g, 1, none⟩ = false ∧ (∃ A2 c2, v' = .slice A2 (l.length + 1) c2) ∧
      GrSt w g n1 v' (l ++ [p]) (w2.setCell ⟨g, 1, none⟩ v') ∧ Chg X (w2.setCell ⟨g, 1, none⟩ v') (fun q => q ≠ g ∧ v.ownBlock ≠ some q) ∧ (∀ q, v'.ownBlock = some q → v.ownBlock = some q ∨ X.heap.size ≤ q) := by
  have bX := belowAlloc X (.cells #[.int .i64 p.1, .int .i64 p.2] 66)
  have hsz : (X.alloc (.cells #[.int .i64 p.1, .int .i64 p.2] 66)).heap.size = X.heap.size + 1 := by simp
  have hr : Rp (X.alloc (.cells #[.int .i64 p.1, .int .i64 p.2] 66)) (some ⟨X.heap.size, 0, none⟩) 1 [p] := by
    have hB := Blk.new X 66 #[.int .i64 p.1, .int .i64 p.2]
    exact ⟨Nat.le_refl _, by decide, fun _ => ⟨_, 0, rfl, hB.lt, fun j hj => by
      have : j = 0 := by simpa using hj
      subst this
      exact ⟨hB.cell 0, hB.cell 1⟩⟩⟩
  have hlg := h.gb.lt
  obtain ⟨i0, hi, hz0, hz1, hz2⟩ := info_parts infoPair
  obtain ⟨v', w2, hrun, o0, hgr, _, hmv⟩ := run_append_own_at (P := Tryz.prog) (X.alloc (.cells #[.int .i64 p.1, .int .i64 p.2] 66)) (g + 1) 26 ty 66 i0 _ 2 16 Tryz.underlying26 hi hz0 hz1 hz2 rfl (by decide) v l.length (ct l) (h.own.alloc _) ⟨X.heap.size, 0, none⟩ 1 1 (ct [p]) (by rw [ctLen]; rfl) (ctCells hr rfl) (ctOne _) (by unfold maxLen; omega) (by omega) (by omega)
  have o1 : OwnP w2 (g + 1) v' (l ++ [p]) := by
    unfold OwnP
    rw [List.length_append, ctApp]
    exact o0
  have hc1 : Chg (X.alloc (.cells #[.int .i64 p.1, .int .i64 p.2] 66)) w2 (fun q => v.ownBlock ≠ some q) := Chg.ofGrown hgr fun _ h => h
  have hvg : ∀ q, q ≤ g → v.ownBlock ≠ some q := fun q hq e => by have := (h.own.lt e).1; omega
  have hs1 := (h.below bX).chg hc1 hvg
  have hgb2 : BoxR w2 g n1 v := (hc1.block _ (by omega) (hvg _ (Nat.le_refl _))).trans (h.gb.alloc _)
  have hrb2 : BoxR w2 (w.heap.size + 1) 0 (.slice none 0 0) := (hc1.block _ (by have := h.rb.lt; omega) (hvg _ (by have := h.lo; omega))).trans (h.rb.alloc _)
  have hc2 : Chg w2 (w2.setCell ⟨g, 1, none⟩ v') (fun q => q ≠ g) := Chg.setCell w2 ⟨g, 1, none⟩ _
  have hvg' : ∀ q, v'.ownBlock = some q → q ≠ g := fun q e => by have := (o1.lt e).1; omega
  have hbel2 : Below w.heap.size w w2 := ⟨hc1.os.trans (bX.os.trans h.bel.os), hc1.tape.trans (bX.tape.trans h.bel.tape), hc1.output.trans (bX.output.trans h.bel.output), by have := hc1.size; have := h.bel.size; omega, fun q hq => (hc1.block q (by have := h.bel.size; omega) (hvg q (by have := h.lo; omega))).trans ((bX.block q (by have := h.bel.size; omega)).trans (h.bel.block q hq))⟩
  obtain ⟨_, k1, _, k3⟩ := hgb2.facts
  obtain ⟨A2, c2, e2, _, _⟩ := o1.rd
  rw [List.length_append] at e2
  refine ⟨v', w2, hrun, k1, k3, ⟨A2, c2, e2⟩, ⟨hbel2.setCell (show w.heap.size ≤ g by have := h.lo; omega) _, ?_, hgb2.stored1 v', o1.chg hc2 hvg', h.lo⟩, ?_, ?_⟩
  · exact (hc2.block _ hrb2.lt (by have := h.lo; show _ ≠ g; omega)).trans hrb2
  · exact ⟨hc2.os.trans (hc1.os.trans bX.os), hc2.tape.trans (hc1.tape.trans bX.tape), hc2.output.trans (hc1.output.trans bX.output), by have := hc2.size; have := hc1.size; omega, fun q hq hF => (hc2.block q (by have := hc1.size; omega) hF.1).trans ((hc1.block q (by omega) hF.2).trans (bX.block q hq))⟩
  · intro q hq
    rcases hmv with e | e
    · exact .inl (e ▸ hq)
    · rw [e] at hq
      injection hq with hq
      right
      omega
def GivesGr (C : List I8) (w : World) (e : Ending) (w' : World) : Prop := GivesE (grN C) (grP C) (grE C) w e w'
set_option maxRecDepth 100000 in
set_option maxHeartbeats 40000000 in
set_option linter.unusedSimpArgs false in
theorem iGraph (nm : ByteArray) (C : List I8) (n : Nat) (hn : C.length = n) (A : Option Addr) (c : Nat) (w : World) (h : CdW w A c C) :
    Calls Tryz.prog 7 #[fnV nm A n c] w (GivesGr C w) := by
  obtain ⟨W, hW⟩ : ∃ W, (w.alloc (.cells #[.string nm, .slice A n c] 24)).alloc (.cells #[.int .i64 0, .slice none 0 0] 28) = W := ⟨_, rfl⟩
  obtain ⟨h1, h2, hbW⟩ := two7 w _ _ hW
  have hB : Blk W w.heap.size 24 #[.string nm, .slice A n c] := h1
  have HR := Lib.hid (show BoxR W (w.heap.size + 1) 0 (.slice none 0 0) from h2)
  have k0 : W.cell? ⟨w.heap.size, 0, none⟩ = some (.string nm) := hB.cell 0
  have k1 : W.cell? ⟨w.heap.size, 1, none⟩ = some (.slice A n c) := hB.cell 1
  have HCO := Lib.hid (iCodeOf nm C n hn A c W (h.below hbW))
  have HRD := Lib.hid (fun X (hX : Below w.heap.size w X) => h.rd.below stabI hX)
  have HW := Lib.hid hW
  have HBW := Lib.hid hbW
  have hle := h.rd.le
  have hmx := h.rd.max
  rw [hn] at hle
  unfold maxLen at hmx
  clear h hB hW hbW h1 h2
  unfold fnV at HCO ⊢
  unfold GivesGr GivesE
  by_cases hc : cfE C = 0
  rotate_left
  · have hne : (cfE C != 0) = true := by simpa using hc
    have e1 : grE C = cfE C := by unfold grE; rw [if_neg hc]
    have e2 : grN C = 0 := by unfold grN; rw [if_neg (by rw [e1]; exact hc)]
    have e3 : grP C = [] := by unfold grP; rw [if_neg (by rw [e1]; exact hc)]
    rw [e1, e2, e3]
    rw [cdV1 hc] at HCO
    generalize cfE C = E at HCO hne ⊢
    clear hc e1 e2 e3
    refine (callsIn_wide (n := 8)).1 ?_
    refine callsIn_of_wp_marks Tryz.func7 rfl trivial ?_ rfl
    simp only [Tryz.ntmps7, List.size_toArray, List.length_cons, List.length_nil, Nat.reduceAdd, Nat.reduceSub, Array.replicate_succ, Array.replicate_zero, List.push_toArray, List.append_toArray, List.nil_append, List.cons_append]
    gi_wp2_with fail
    rw [HW.out]
    refine ⟨trivial, (callsIn_wide.2 HCO.out).mono ?_⟩
    rintro e w1 ⟨rfl, b1⟩
    have HR1 := Lib.hid (HR.out.below b1)
    obtain ⟨r0, r1, fr0, fr1⟩ := HR1.out.facts
    have HB1 := Lib.hid (belowThen HBW.out b1)
    clear b1
    gi_wp2
    refine ⟨_, Blk.res2 (b := w.heap.size + 1) (T := 28) (cs := #[.int .i64 0, .slice none 0 0]) (HR1.out.stored 0 (.slice none 0 0)) rfl _ rfl Tryz.underlying28 rfl infoRel7, none, 0, rfl, Rp.nil, (HB1.out.setCell (Nat.le_succ _) _).setCell (Nat.le_succ _) _⟩
  have hok := cfOk hc
  have h64 := hok.len
  rw [hn] at h64
  rw [cdV0 hc, hc] at HCO
  obtain ⟨n1, hn1⟩ : ∃ n1, n + 1 = n1 := ⟨_, rfl⟩
  have hwn : IntKind.i64.wrap ((n : Int) + 1) = (n1 : Int) := by rw [IntKind.wrap_i64]; omega
  by_cases h63 : 63 < n
  · have d1 : decide ((64 : Int) < (n1 : Int)) = true := decide_eq_true (by omega)
    have e1 : grE C = 4 := by unfold grE; rw [if_pos hc, if_pos (by omega)]
    have e2 : grN C = 0 := by unfold grN; rw [if_neg (by rw [e1]; decide)]
    have e3 : grP C = [] := by unfold grP; rw [if_neg (by rw [e1]; decide)]
    rw [e1, e2, e3]
    clear hok hn hc e1 e2 e3
    refine (callsIn_wide (n := 8)).1 ?_
    refine callsIn_of_wp_marks Tryz.func7 rfl trivial ?_ rfl
    simp only [Tryz.ntmps7, List.size_toArray, List.length_cons, List.length_nil, Nat.reduceAdd, Nat.reduceSub, Array.replicate_succ, Array.replicate_zero, List.push_toArray, List.append_toArray, List.nil_append, List.cons_append]
    gi_wp2_with fail
    rw [HW.out]
    refine ⟨trivial, (callsIn_wide.2 HCO.out).mono ?_⟩
    rintro e w1 ⟨rfl, b1⟩
    obtain ⟨w2, hw2⟩ : ∃ w2, w1.alloc (.cells #[.int .i64 (n1 : Int), .slice none 0 0] 28) = w2 := ⟨_, rfl⟩
    have hb2 : Below w1.heap.size w1 w2 := by rw [← hw2]; exact belowAlloc _ _
    have hgb : BoxR w2 w1.heap.size n1 (.slice none 0 0) := by rw [← hw2]; exact BoxR.new _ _ _
    have HR1 := Lib.hid (HR.out.below (belowThen b1 hb2))
    obtain ⟨r0, r1, fr0, fr1⟩ := HR1.out.facts
    obtain ⟨g0, g1, fg0, fg1⟩ := hgb.facts
    have HB1 := Lib.hid (belowThen HBW.out (belowThen b1 hb2))
    clear b1 hb2 hgb
    subst hw2
    gi_wp2
    all_goals first
      | (exfalso; omega)
      | skip
    refine ⟨_, Blk.res2 (b := w.heap.size + 1) (T := 28) (cs := #[.int .i64 0, .slice none 0 0]) (HR1.out.stored 0 (.slice none 0 0)) rfl _ rfl Tryz.underlying28 rfl infoRel7, none, 0, rfl, Rp.nil, (HB1.out.setCell (Nat.le_succ _) _).setCell (Nat.le_succ _) _⟩
  have d1 : decide ((64 : Int) < (n1 : Int)) = false := decide_eq_false (by omega)
  have e1 : grE C = 0 := by unfold grE; rw [if_pos hc, if_neg (by omega)]
  have e2 : grN C = nrmN (n1 : Int) (grL C n) := by unfold grN; rw [if_pos e1, hn, ← hn1]; rfl
  have e3 : grP C = nrmL (n1 : Int) (grL C n) := by unfold grP; rw [if_pos e1, hn, ← hn1]; rfl
  rw [e1, e2, e3]
  have HNX := Lib.hid (fun k (hk : k < n) X (hX : Below w.heap.size w X) => iNextK C hok n hn k hk A c X (HRD.out X hX))
  have HOK := Lib.hid hok
  have HN := Lib.hid hn
  have hgl := grLLen C n
  have HNM := Lib.hid (fun A' c' X (hr : Rp X A' c' (grL C n)) => iNormalTop (n1 : Int) (grL C n) (grL C n).length rfl (by omega) A' c' X hr)
  clear hok hn hc e1 e2 e3 HRD hn1
  refine (callsIn_wide (n := 8)).1 ?_
  refine callsIn_of_wp_marks Tryz.func7 rfl trivial ?_ rfl
  simp only [Tryz.ntmps7, List.size_toArray, List.length_cons, List.length_nil, Nat.reduceAdd, Nat.reduceSub, Array.replicate_succ, Array.replicate_zero, List.push_toArray, List.append_toArray, List.nil_append, List.cons_append]
  gi_wp2_with fail
  rw [HW.out]
  refine ⟨trivial, (callsIn_wide.2 HCO.out).mono ?_⟩
  rintro e w1 ⟨rfl, b1⟩
  obtain ⟨w2, hw2⟩ : ∃ w2, w1.alloc (.cells #[.int .i64 (n1 : Int), .slice none 0 0] 28) = w2 := ⟨_, rfl⟩
  have hb2 : Below w1.heap.size w1 w2 := by rw [← hw2]; exact belowAlloc _ _
  have hgb : BoxR w2 w1.heap.size n1 (.slice none 0 0) := by rw [← hw2]; exact BoxR.new _ _ _
  obtain ⟨g0, g1, fg0, fg1⟩ := hgb.facts
  have hgs : w.heap.size + 1 < w1.heap.size := (HR.out.below b1).lt
  obtain ⟨g, hg⟩ : ∃ g, w1.heap.size = g := ⟨_, rfl⟩
  rw [hg] at hgb g0 g1 fg0 fg1 hgs
  have HS0 := Lib.hid (show GrSt w g n1 (.slice none 0 0) (grL C 0) w2 from ⟨belowThen HBW.out (belowThen b1 hb2), HR.out.below (belowThen b1 hb2), hgb, OwnP.nil _ _, hgs⟩)
  have HSZ := Lib.hid (show w2.heap.size = g + 1 by rw [← hw2, ← hg]; simp)
  have HW2 := Lib.hid hw2
  have HG := Lib.hid hg
  clear b1 hb2 hgb hw2 hg k0 k1
  gi_wp2_with fail
  rw [HW2.out, HG.out]
  gi_wp2_with fail
  obtain ⟨INV, hINV⟩ : ∃ INV : Act → World → Prop, INV = (fun a' w' => ∃ (u : Nat → Value) (Ds : List Nat) (k : Nat), a' = { tmps := #[u 0, u 1, .pointer (some ⟨w.heap.size + 1, 0, none⟩), u 3, .slice A n c, u 5, .pointer (some ⟨g, 0, none⟩), u 7, u 8, u 9, u 10, u 11, u 12, u 13, u 14, u 15, u 16, u 17, u 18, u 19, u 20, u 21, u 22, u 23, u 24, u 25, u 26, .int .i64 (n : Int), .int .i64 (k : Int), u 29, u 30, u 31, u 32, u 33, u 34, u 35, u 36, u 37, u 38, u 39, u 40, u 41, u 42, u 43, u 44, u 45], defers := Ds.map markR } ∧ Hid (∃ v, GrSt w g n1 v (grL C k) w') ∧ Hid (OpenR Ds w' ∧ Ds.Nodup ∧ ∀ D ∈ Ds, g + 1 ≤ D) ∧ k ≤ n) := ⟨_, rfl⟩
  obtain ⟨MU, hMU⟩ : ∃ MU : Act → World → Nat, MU = (fun a' _ => n - (intOf (a'.tmps.getD 28 undef)).toNat) := ⟨_, rfl⟩
  have HINV := Lib.hid hINV
  have HMU := Lib.hid hMU
  clear hINV hMU
  refine wpIn_loop INV MU ?_ ?_
  · rw [HINV.out]
    exact ⟨fun i => (#[.agg #[.string nm, .slice A n c], .pointer (some ⟨w.heap.size, 0, none⟩), undef, .int .i64 0, undef, .int .i64 0, undef, undef, undef, .tuple #[.slice A n c, .int .i64 0], .agg #[.string nm, .slice A n c], .tuple #[.slice A n c, .int .i64 0], .slice A n c, .int .i64 0, .int .i64 0, .bool false, undef, undef, .slice A n c, .int .i64 (n : Int), .int .i64 (n1 : Int), .agg #[.int .i64 (n1 : Int), .slice none 0 0], .pointer (some ⟨g, 0, none⟩), .int .i64 (n1 : Int), .bool false, undef, .slice A n c, undef, undef, undef, undef, undef, undef, undef, undef, undef, undef, undef, undef, undef, undef, undef, undef, undef, undef, undef] : Array Value).getD i undef, [], 0, rfl, Lib.hid ⟨_, HS0.out⟩, Lib.hid ⟨(fun _ h => by cases h), List.nodup_nil, (fun _ h => by cases h)⟩, Nat.zero_le _⟩
  intro a' wl hi
  rw [HINV.out] at hi
  obtain ⟨u, Ds, k, rfl, HS, HO, hk⟩ := hi
  clear HS0 g0 g1 fg0 fg1
  by_cases hlt : k < n
  · have hk0 : (0 : Int) ≤ k := by omega
    have hk1 : (k : Int) < n := by omega
    obtain ⟨v0, hst0⟩ := HS.out
    obtain ⟨X1, hX1⟩ : ∃ X1, wl.alloc (.cells #[.int .i64 (k : Int)] 3) = X1 := ⟨_, rfl⟩
    have hb1 : Below wl.heap.size wl X1 := by rw [← hX1]; exact belowAlloc wl _
    have hka : Boxed X1 wl.heap.size 3 (.int .i64 (k : Int)) := by rw [← hX1]; exact Boxed.new wl _ _
    have hz1 : X1.heap.size = wl.heap.size + 1 := by rw [← hX1]; simp
    have kc := hka.cell
    have HC := Lib.hid (HNX.out k hlt X1 (belowThen hst0.bel hb1))
    have HX1 := Lib.hid hX1
    have HB1 := Lib.hid hb1
    have HKA := Lib.hid hka
    have HZ1 := Lib.hid hz1
    have HST := Lib.hid hst0
    clear hX1 hb1 hka hz1 hst0
    gi_wp2_with fail
    rw [HX1.out]
    refine ⟨trivial, (callsIn_wide.2 HC.out).mono ?_⟩
    rintro e Y ⟨rfl, hseq, hY⟩
    rw [HZ1.out] at hseq ⊢
    have HSQ := Lib.hid (hseq 7 (by omega))
    have hge := entNx1
    have hwz : g < wl.heap.size := HST.out.gb.lt
    have hbY : Below X1.heap.size X1 Y := by rw [hY]; exact belowThen (belowAlloc X1 _) (belowAlloc _ _)
    have HP0 : Hid (GrIn C w g n1 k wl.heap.size n A c Ds [] Y) := by
      have hb2 := belowThen HB1.out hbY
      refine Lib.hid ⟨⟨v0, by rw [grM0]; exact HST.out.below hb2, fun q hq => .inl (HST.out.own.lt hq).2⟩, (hbY.block _ HKA.out.lt).trans HKA.out, ?_, ?_, HO.out.1.chg (Chg.ofBelow hb2 fun _ => True) fun _ _ => trivial, by simp⟩
      · rw [hY, ← HZ1.out]
        exact (Boxed.new X1 _ _).alloc _
      · have h := Boxed.new (X1.alloc (.cells #[.slice A n c] 60)) 3 (.int .i64 (k : Int))
        rw [World.size_alloc, HZ1.out] at h
        rw [hY]
        exact h
    have HDL := Lib.hid (fun D hD => HO.out.1.lt (D := D) hD)
    have hzY : Y.heap.size = wl.heap.size + 3 := by rw [hY]; simp [HZ1.out]
    have HZY := Lib.hid hzY
    have HYE := Lib.hid hY
    have HBY := Lib.hid hbY
    have hsl : (sc C k).length ≤ 2 := scLen
    clear hseq hbY hzY hY kc
    gi_wp2
    refine rangeClos (F := Fence.wide) (n := 8) rfl (by omega) (gf := 60) (lb := #[.pointer (some ⟨wl.heap.size + 1, 0, none⟩), .pointer (some ⟨wl.heap.size + 2, 0, none⟩)]) rfl trivial hge (encs := encN) (Kp := Keep2 (wl.heap.size + 1) (wl.heap.size + 2)) (L := sc C k) (w0 := Y) HSQ.out (fun h k => h.trans k) (fun W l o o' _ h hc _ => Keep2.put _ _ W l o o' h hc) (Below.refl _ _) (fun _ => rfl)
      (fun ps X => GrIn C w g n1 k wl.heap.size n A c Ds ps X) (fun _ _ _ => False) ?hI (fun _ _ _ _ _ h => h.elim) HP0.out
      (fun _ y => { tmps := #[u 0, u 1, .pointer (some ⟨w.heap.size + 1, 0, none⟩), u 3, .slice A n c, u 5, .pointer (some ⟨g, 0, none⟩), .pointer (some ⟨wl.heap.size, 0, none⟩), .int .i64 (y : Int), u 9, u 10, u 11, u 12, u 13, u 14, u 15, u 16, u 17, u 18, u 19, u 20, u 21, u 22, u 23, u 24, u 25, u 26, .int .i64 (n : Int), .int .i64 (k : Int), .bool true, .int .i64 (k : Int), .slice A n c, .int .i64 (k : Int), .func (.func 60) #[] #[.pointer (some ⟨wl.heap.size + 1, 0, none⟩), .pointer (some ⟨wl.heap.size + 2, 0, none⟩)], .int .i64 (y : Int), u 35, u 36, u 37, u 38, u 39, u 40, u 41, u 42, u 43, u 44, u 45], defers := [] }) (fun _ W => W) (fun _ W => World.grownBy.refl W none) (fun _ W => Keep2.refl _ _ W) ?assign ?body ?done (fun _ _ _ _ _ h _ => h.elim)
    case assign =>
      intro l y X K hK
      unfold encN
      gi_wp2
      exact hK
    case hI =>
      rintro ps X X' row h hgr hr
      exact h.own hgr (fun q e => ⟨by have := (hr q e).1; have := HZY.out; omega, by obtain ⟨_, o2, ho2, hn⟩ := hr q e; exact ⟨o2, ho2, hn⟩⟩) hwz HDL.out
    case body =>
      rintro l ps y rest X U hLL h hwl hlX _
      have hps : ps.length + 1 ≤ 2 := by
        have := congrArg List.length hLL
        rw [List.length_append, List.length_cons] at this
        omega
      obtain ⟨v, hst, hap⟩ := h.st
      have hlen := grMLen (C := C) (k := k) (ps := ps) (by omega)
      obtain ⟨v', w2, hrun, hc1, hf1, ⟨A2, c2, e2⟩, hst2, hch, hmv⟩ := hst.push (prN7 k y) (by omega) 26
      obtain ⟨A1, cc1, e1, _, _⟩ := hst.own.rd
      obtain ⟨_, t6, _, _⟩ := hst.gb.facts
      have t7 := h.ka.cell
      have hW9 : GrIn C w g n1 k wl.heap.size n A c Ds (ps ++ [y]) (w2.setCell ⟨g, 1, none⟩ v') := by
        have hne : ∀ q, wl.heap.size ≤ q → q < wl.heap.size + 3 → q ≠ g ∧ v.ownBlock ≠ some q := fun q h1 h2 => ⟨by omega, fun e => by have := hap q e; omega⟩
        refine ⟨⟨v', by rw [grMS]; exact hst2, fun q hq => ?_⟩, (hch.block _ h.ka.lt (hne _ (by omega) (by omega))).trans h.ka, (hch.block _ h.x1.lt (hne _ (by omega) (by omega))).trans h.x1, (hch.block _ h.x2.lt (hne _ (by omega) (by omega))).trans h.x2, fun D hD => ?_, by rw [List.length_append]; exact hps⟩
        · rcases hmv q hq with e | e
          · exact hap q e
          · right; have := h.x2.lt; omega
        · have hd := h.op D hD
          refine (hch.block D (h.op.lt hD) ⟨?_, fun e => ?_⟩).trans hd
          · have := HO.out.2.2 D hD
            omega
          · obtain ⟨o2, e2, hc⟩ := ownCells7 hst.own e
            rw [hd] at e2
            injection e2 with e2
            subst e2
            cases hc
      have HFIN := Lib.hid (show KeepsFrom Y.heap.size U (w2.setCell ⟨g, 1, none⟩ v') ∧ Keep2 (wl.heap.size + 1) (wl.heap.size + 2) U (w2.setCell ⟨g, 1, none⟩ v') ∧ GrIn C w g n1 k wl.heap.size n A c Ds (ps ++ [y]) (w2.setCell ⟨g, 1, none⟩ v') from by
        have hnc : ∀ q o, U.heap[q]? = some o → o.isCells = false → q ≠ g ∧ v.ownBlock ≠ some q := fun q o ho hoc => by
          refine And.intro (fun e => ?_) (fun e => ?_)
          · have hg := hst.gb
            unfold BoxR at hg
            rw [e, hg] at ho
            injection ho with ho
            rw [← ho] at hoc
            cases hoc
          · obtain ⟨o2, e2, hc⟩ := ownCells7 hst.own e
            rw [ho] at e2
            injection e2 with e2
            rw [e2, hc] at hoc
            cases hoc
        have hko : KeepsOthers U (w2.setCell ⟨g, 1, none⟩ v') := ⟨hch.size, fun q o ho hoc => (hch.block q (Array.getElem?_eq_some_iff.1 ho).1 (hnc q o ho hoc)).trans ho⟩
        refine ⟨hko.from _, ⟨hch.size, fun q hq o ho hc => ?_⟩, hW9⟩
        have hq2 : q = wl.heap.size + 1 ∨ q = wl.heap.size + 2 := hq
        exact (hch.block q (Array.getElem?_eq_some_iff.1 ho).1 ⟨by omega, fun e => by have := hap q e; omega⟩).trans ho)
      have t6a : (U.alloc (.cells #[.int .i64 (k : Int), .int .i64 (y : Int)] 66)).cell? ⟨g, 1, none⟩ = some v := ((belowAlloc U _).cell (World.block_lt_of_cell? _ _ t6)).trans t6
      subst e1
      subst e2
      unfold prN7 at hrun
      simp only at hrun
      clear hap hW9 hst2 hch hmv h hLL hps hlen hwl hlX hst
      gi_wp2_with (gi_at_builtin; refine wpListIn_app9 _ rfl (.tmp 36) (.tmp 40) 26 rfl rfl rfl hrun ?_)
      exact HFIN.out
    case done =>
      rintro R X hR h hK2
      have HS2 := Lib.hid (show ∃ v, GrSt w g n1 v (grL C (k + 1)) X by obtain ⟨v, h1, _⟩ := h.st; rw [grMEnd] at h1; exact ⟨v, h1⟩)
      have HOD : Hid (OpenR (R :: Ds) X ∧ (R :: Ds).Nodup ∧ ∀ D ∈ R :: Ds, g + 1 ≤ D) := Lib.hid (by
        have hzy := HZY.out
        refine ⟨fun D hD => ?_, List.nodup_cons.2 ⟨fun h => ?_, HO.out.2.1⟩, fun D hD => ?_⟩
        · rcases List.mem_cons.1 hD with rfl | hD
          · exact hK2
          · exact h.op D hD
        · have := HDL.out _ h; omega
        · rcases List.mem_cons.1 hD with rfl | hD
          · omega
          · exact HO.out.2.2 D hD)
      clear h hK2
      gi_wp2
      refine ⟨?_, ?_⟩
      · rw [HINV.out]
        exact ⟨fun i => (#[u 0, u 1, undef, u 3, undef, u 5, undef, .pointer (some ⟨wl.heap.size, 0, none⟩), u 8, u 9, u 10, u 11, u 12, u 13, u 14, u 15, u 16, u 17, u 18, u 19, u 20, u 21, u 22, u 23, u 24, u 25, u 26, undef, undef, .bool true, .int .i64 (k : Int), .slice A n c, .int .i64 (k : Int), .func (.func 60) #[] #[.pointer (some ⟨wl.heap.size + 1, 0, none⟩), .pointer (some ⟨wl.heap.size + 1 + 1, 0, none⟩)], u 34, u 35, u 36, u 37, u 38, u 39, u 40, u 41, u 42, .int .i64 ((k + 1 : Nat) : Int), u 44, u 45] : Array Value).getD i undef, R :: Ds, k + 1, rfl, HS2, HOD, hlt⟩
      · rw [HMU.out]
        show n - (intOf (.int .i64 ((k : Int) + 1))).toNat < n - (intOf (.int .i64 (k : Int))).toNat
        simp only [intOf]
        omega
  · have hkn : n = k := by omega
    subst hkn
    obtain ⟨v0, hst0⟩ := HS.out
    obtain ⟨A1, cc1, e1, hr1, _⟩ := hst0.own.rd
    subst e1
    obtain ⟨g0, g1, _, _⟩ := hst0.gb.facts
    have HC := Lib.hid (HNM.out A1 cc1 wl hr1)
    unfold GivesR at HC
    have HRB := Lib.hid hst0.rb
    have HBL := Lib.hid hst0.bel
    clear hst0 hr1
    gi_wp2_with fail
    refine ⟨trivial, (callsIn_wide.2 HC.out).mono ?_⟩
    rintro e X ⟨A9, c9, rfl, hr9, b9⟩
    have hrb := HRB.out.below b9
    have HO9 := Lib.hid (show OpenR Ds X from HO.out.1.chg (Chg.ofBelow b9 fun _ => True) fun _ _ => trivial)
    have HRB9 := Lib.hid hrb
    have HR9 := Lib.hid hr9
    have HBL9 := Lib.hid (belowThen HBL.out b9)
    obtain ⟨r0, r1, fr0, fr1⟩ := hrb.facts
    clear hrb hr9 b9
    gi_wp2
    refine leaveR (B := g + 1) (K := fun Z => BoxR Z (w.heap.size + 1) (nrmN (n1 : Int) (grL C n)) (.slice A9 (nrmL (n1 : Int) (grL C n)).length c9) ∧ Rp Z A9 c9 (nrmL (n1 : Int) (grL C n)) ∧ Below w.heap.size w Z) (fun Z D hD hd hK => ⟨(World.putObj_heap_other (by omega)).trans hK.1, rpPut7 hd hK.2.1, belowPutR hK.2.2 (by omega)⟩) (fun Z hK => ?_) Ds _ HO.out.2.1 HO.out.2.2 ?_ ⟨HRB9.out.stored _ _, ?_, ?_⟩
    · exact ⟨_, Blk.res2 (b := w.heap.size + 1) (T := 28) (cs := #[.int .i64 (nrmN (n1 : Int) (grL C n)), .slice A9 (nrmL (n1 : Int) (grL C n)).length c9]) hK.1 rfl _ rfl Tryz.underlying28 rfl infoRel7, A9, c9, rfl, hK.2.1, hK.2.2⟩
    · have hch : Chg X ((X.setCell ⟨w.heap.size + 1, 0, none⟩ (.int .i64 (nrmN (n1 : Int) (grL C n)))).setCell ⟨w.heap.size + 1, 1, none⟩ (.slice A9 (nrmL (n1 : Int) (grL C n)).length c9)) (fun q => q ≠ w.heap.size + 1) := (Chg.setCell X ⟨w.heap.size + 1, 0, none⟩ _).trans (Chg.setCell _ ⟨w.heap.size + 1, 1, none⟩ _) fun _ _ h => h
      exact HO9.out.chg hch fun D hD => by have := HO.out.2.2 D hD; show D ≠ _; omega
    · have hch : Chg X ((X.setCell ⟨w.heap.size + 1, 0, none⟩ (.int .i64 (nrmN (n1 : Int) (grL C n)))).setCell ⟨w.heap.size + 1, 1, none⟩ (.slice A9 (nrmL (n1 : Int) (grL C n)).length c9)) (fun q => q ≠ w.heap.size + 1) := (Chg.setCell X ⟨w.heap.size + 1, 0, none⟩ _).trans (Chg.setCell _ ⟨w.heap.size + 1, 1, none⟩ _) fun _ _ h => h
      exact HR9.out.chg hch fun ad e hn => HR9.out.apart HRB9.out ad e hn
    · exact (HBL9.out.setCell (Nat.le_succ _) _).setCell (Nat.le_succ _) _
end Go.Proofs.YtpkagpobobmnfaaGreatDoor
