/-
  Iterators of Loops that read one row alone; what a loop over headers leaves.
-/
import Derived.Test.YtpkagpobobmnfaaGreatDoorCJs
namespace Go.Proofs.YtpkagpobobmnfaaGreatDoor
open Go Go.RowKit Go.Shelf

theorem rdPlain9 {w : World} {A : Option Addr} {c : Nat} {l : List Int} (h : Rd w A c l) (hl : 0 < l.length) : ∃ b off, A = some ⟨b, off, none⟩ ∧ b < w.heap.size ∧ ∀ j (_ : j < l.length), w.cell? ⟨b, off + j, none⟩ = some (.int .i64 (l.getD j 0)) := by
  obtain ⟨⟨b, off, spot⟩, e, hb, hc⟩ := Rds.at_ h (by simpa using hl)
  have h0 := hc 0 (.int .i64 l[0]) (by simp [List.getElem?_eq_getElem hl])
  have hspot : spot = none := by simpa [Addr.add] using World.cell?_spot h0
  subst hspot
  refine ⟨b, off, e, hb, fun j hj => ?_⟩
  have := hc j (.int .i64 l[j]) (by simp [List.getElem?_eq_getElem hj])
  rw [Addr.add_lit] at this
  rw [this]
  simp [List.getD, hj]
theorem containsB9 (l : List Int) (n : Int) : l.contains n = memB l n := by
  rw [Bool.eq_iff_iff]; simp [memB]
theorem iContains9 (l : List Int) (m : Nat) (hm : l.length = m) (n : Int) (r : Bool) (hr : memB l n = r) (A : Option Addr) (c : Nat) (w : World) (ha : Rd w A c l) :
    Calls Tryz.prog 44 #[.slice A m c, .int .i64 n] w fun e w' => e = .returned (.bool r) ∧ w = w' := by
  subst hr
  subst hm
  rcases Nat.eq_zero_or_pos l.length with h0 | h0
  · obtain rfl : l = [] := List.eq_nil_of_length_eq_zero h0
    exact (Tryz.slices_Contains_int_empty A c n w).mono fun e w' ⟨h1, h2⟩ => ⟨by rw [h1]; rfl, h2.symm⟩
  · obtain ⟨b, off, rfl, _, hc⟩ := rdPlain9 ha h0
    have h1 := ha.le
    have h2 := ha.max
    unfold maxLen at h2
    refine (Tryz.slices_Contains_int b off l.length c l n w (Nat.le_refl _) (by omega) hc).mono fun e w' ⟨h1, h2⟩ => ⟨by rw [h1, List.take_length, containsB9], h2.symm⟩
theorem belowLow9 {B B' : Nat} {a b : World} (h : Below B a b) (hB : B' ≤ B) : Below B' a b := ⟨h.os, h.tape, h.output, h.size, fun k hk => h.block k (by omega)⟩
/-- The block of a row that holds something. -/
def blkL (A : Option Addr) : List Nat → Nat
  | [] => 0
  | _ :: _ => match A with
    | some ad => ad.block
    | none => 0
abbrev KeepL (A : Option Addr) (L : List Nat) (X Y : World) : Prop := Keep2 (blkL A L) (blkL A L) X Y
theorem KeepL.rd {A : Option Addr} {L : List Nat} {X Y : World} (h : KeepL A L X Y) {c : Nat} (hr : Rd X A c (L.map Int.ofNat)) : Rd Y A c (L.map Int.ofNat) :=
  ⟨Rds.le hr, Rds.max hr, fun hn => by
    obtain ⟨ad, e, hl, hc⟩ := Rds.at_ hr hn
    subst e
    refine ⟨ad, rfl, Nat.lt_of_lt_of_le hl h.1, fun j v hj => ?_⟩
    have hv := hc j v hj
    obtain ⟨o, h1, h2⟩ := cellHeap hv
    rw [addBlock] at h1
    have hq : ad.block = blkL (some ad) L := by
      cases L with
      | nil => simp at hn
      | cons _ _ => rfl
    have e : Y.cell? (ad.add j) = X.cell? (ad.add j) := World.cell?_of_block (by rw [addBlock, h.2 ad.block (.inl hq) o h1 h2, h1])
    rw [e, hv]⟩
theorem blkLt {A : Option Addr} {L : List Nat} {X : World} {c B : Nat} (hr : Rd X A c (L.map Int.ofNat)) (hB : X.heap.size ≤ B) (h0 : 0 < B) : blkL A L < B := by
  cases L with
  | nil => exact h0
  | cons x t =>
    obtain ⟨ad, e, hl, _⟩ := Rds.at_ hr (by simp [iv])
    subst e
    show ad.block < B
    omega
theorem iValuesK (L : List Nat) (n : Nat) (hn : L.length = n) (A : Option Addr) (c : Nat) (w : World) (hr : Rd w A c (L.map Int.ofNat)) :
    Calls Tryz.prog 56 #[.slice A n c] w fun e Y => e = .returned (.func (.func 100) #[] #[.pointer (some ⟨w.heap.size, 0, none⟩)]) ∧
      (∀ m, 3 ≤ m → SeqC Fence.wide m Tryz.prog 100 #[.pointer (some ⟨w.heap.size, 0, none⟩)] encN (KeepL A L) L Y) ∧ Y = w.alloc (.cells #[.slice A n c] 33) := by
  have HIT := Lib.hid (valSeqK L n hn A c w.heap.size (w.alloc (.cells #[.slice A n c] 33)) (Rd.below hr (belowAlloc w _)) ((Blk.new w _ _).cell 0) (KeepL A L) (fun X Y h hr => h.rd hr))
  clear hr
  go_enter Tryz.func56, Tryz.ntmps56
  go_wp2
  go_ret
  exact ⟨rfl, HIT.out, rfl⟩
set_option maxRecDepth 100000 in
set_option maxHeartbeats 2000000 in
/-- Loops' back, at a memory behind the one in which the table of predecessors was laid. -/
theorem backK (P : Nat → List Nat) (n1 k : Nat) (hk : k < n1) (A : Option Addr) (c b : Nat) (w0 X : World) (hX : Below w0.heap.size w0 X) (hr : RdF w0 A c (fun x => (P x).map Int.ofNat) n1) (hb : X.cell? ⟨b, 0, none⟩ = some (.slice A n1 c)) :
    Calls Tryz.prog 55 #[.int .i64 (k : Int), .pointer (some ⟨b, 0, none⟩)] X fun e Y => e = .returned (.func (.func 100) #[] #[.pointer (some ⟨X.heap.size, 0, none⟩)]) ∧
      (∃ A' c' m, Rd w0 A' c' ((P k).map Int.ofNat) ∧ (∀ m, 3 ≤ m → SeqC Fence.wide m Tryz.prog 100 #[.pointer (some ⟨X.heap.size, 0, none⟩)] encN (KeepL A' (P k)) (P k) Y) ∧ Y = X.alloc (.cells #[.slice A' m c'] 33)) := by
  have hcl := hr.le
  have hcm := hr.max
  unfold maxLen at hcm
  obtain ⟨ad, A', c', hA, hbl, hcc, hrr⟩ := hr.one (k := k) hk
  subst hA
  have hcc := (hX.cell (p := ad.add k) (by rw [addBlock]; exact hbl)).trans hcc
  obtain ⟨m, hm⟩ : ∃ m, ((P k).map Int.ofNat).length = m := ⟨_, rfl⟩
  rw [hm] at hcc
  have hm2 : (P k).length = m := by rw [← hm, List.length_map]
  have HV := Lib.hid (iValuesK (P k) m hm2 A' c' X (Rd.below hrr hX))
  have HR := Lib.hid hrr
  have hk0 : (0 : Int) ≤ k := by omega
  have hk1 : (k : Int) < n1 := by omega
  clear hr hrr hm hm2 hX hbl
  go_enter Tryz.func55, Tryz.ntmps55
  go_wp2_with fail
  refine HV.out.mono ?_
  rintro e Y ⟨rfl, hit, hY⟩
  have HIT := Lib.hid hit
  have HY := Lib.hid hY
  clear hit hY
  go_wp2
  go_ret
  exact ⟨rfl, A', c', m, HR.out, HIT.out, HY.out⟩
theorem isLNot {X : World} {base D : Nat} {F : Nat → Prop} {o : Obj} (hD : X.heap[D]? = some o) (ho : o.isCells = false) : ∀ {vs : List Value} {ls : List (List Int)}, IsL X base F vs ls → IsL X base (fun g => g ≠ D) vs ls
  | [], [], _ => trivial
  | _ :: _, _ :: _, h => ⟨h.1, fun g hg e => by
      obtain ⟨o2, ho2, hc⟩ := ownCells9 h.1 hg
      subst e
      rw [hD] at ho2
      injection ho2 with ho2
      subst ho2
      rw [ho] at hc
      exact absurd hc (by decide), isLNot hD ho h.2.2⟩
theorem LoSt.keepR {B0 X : World} {n k : Nat} {g : Nat → List Nat} {v : Value} (h : LoSt B0 n g k v X) {D : Nat} {o : Obj} (hD : X.heap[D]? = some (.deferred (some []))) (hlo : B0.heap.size ≤ D) : LoSt B0 n g k v (X.putObj D o) := by
  obtain ⟨⟨vs, h1, h2⟩, h3⟩ := h
  have hc : Chg X (X.putObj D o) (fun q => q ≠ D) := ⟨rfl, rfl, rfl, by simp, fun q _ hq => World.putObj_heap_other hq⟩
  refine ⟨⟨vs, ownChg h1 hc fun g hg e => ?_, ((isLNot hD rfl h2).chg hc fun g hg _ => hg).mono fun _ _ => trivial⟩, belowPutR h3 hlo⟩
  obtain ⟨o2, ho2, hcc⟩ := ownCells9 h1 hg
  subst e
  rw [hD] at ho2
  injection ho2 with ho2
  subst ho2
  cases hcc
/-- What lies in memory while the predecessors of h are looked at. -/
structure LoIn (C : List I8) (n : Nat) (wl : World) (h : Nat) (L ps : List Nat) (X : World) : Prop where
  ex : ∃ v, Boxed X (wl.heap.size + 1) 33 v ∧ OwnI X (wl.heap.size + 2) v ((ps.filter fun s => dmB n (sc C) h s).map Int.ofNat)
  hd : Boxed X wl.heap.size 3 (.int .i64 (h : Int))
  bel : Below wl.heap.size wl X
  ln : ps.length ≤ L.length
theorem LoIn.own {C : List I8} {n : Nat} {wl : World} {h B : Nat} {L ps : List Nat} {X X' : World} (hi : LoIn C n wl h L ps X) {row : Option Nat} (hgr : X.grownBy X' row) (hr : ∀ q, row = some q → B ≤ q ∧ (∃ o, X.heap[q]? = some o ∧ o.isCells = false)) (hB : wl.heap.size + 2 ≤ B) : LoIn C n wl h L ps X' := by
  obtain ⟨⟨v, h1, h2⟩, h3, h4, h5⟩ := hi
  have hc : Chg X X' (fun q => row ≠ some q) := Chg.ofGrown hgr fun _ h => h
  have hlo : ∀ q, q < B → row ≠ some q := fun q hq e => by have := (hr q e).1; omega
  refine ⟨⟨v, (hc.block _ h1.lt (hlo _ (by omega))).trans h1, ownChg h2 hc fun g hg e => ?_⟩, (hc.block _ h3.lt (hlo _ (by omega))).trans h3, ⟨hc.os.trans h4.os, hc.tape.trans h4.tape, hc.output.trans h4.output, Nat.le_trans h4.size hc.size, fun q hq => (hc.block q (Nat.lt_of_lt_of_le hq h4.size) (hlo q (by omega))).trans (h4.block q hq)⟩, h5⟩
  obtain ⟨_, o2, ho2, hn⟩ := hr g e
  obtain ⟨o, ho, hoc⟩ := ownCells9 h2 hg
  rw [ho] at ho2
  injection ho2 with ho2
  subst ho2
  rw [hoc] at hn; cases hn
theorem runAppL (w : World) (ty : TypeId) (base : Nat) (v : Value) (vs : List Value) (hown : OwnL w base v vs) (A : Option Addr) (m c : Nat) (news : List Value) (hm : m = news.length) (hr : Rds w A c news) (h1 : ∀ u ∈ news, u.oneCell' = true) (hb : vs.length + news.length ≤ 100000) (hbase : base ≤ w.heap.size) :
    ∃ v' w', (Builtin.append_ #[57, 57] ty #[v, .slice A m c]).run Tryz.prog w = .ok v' w' ∧ OwnL w' base v' (vs ++ news) ∧ w.grownBy w' v.ownBlock := by
  obtain ⟨i0, hi, hz0, hz1, hz2⟩ := info_parts infoSl
  obtain ⟨v', w', hrun, k1, _, k2, _⟩ := runApp (P := Tryz.prog) (w := w) base 57 ty 33 i0 _ 24 Tryz.underlying57 hi hz0 hz1 hz2 rfl v vs.length vs hown A m c news hm hr h1 (by omega) (by unfold maxLen; omega) hbase
  refine ⟨v', w', hrun, ?_, k2⟩
  unfold OwnL
  rw [List.length_append, ← hm]
  exact k1
/-- append of one loop onto the loops found. -/
theorem loPush {B0 X : World} {n k : Nat} {g : Nat → List Nat} {v : Value} {A8 : Option Addr} {q8 c8 lc : Nat} (h : LoSt B0 n g k v X) (hk : k ≤ 1000) (hbk : bkB n g k = true) (ho : OwnI X B0.heap.size (.slice A8 q8 c8) (lpL n g k)) (hl : Rds X (some ⟨lc, 0, none⟩) 1 [.slice A8 q8 c8]) (ty : TypeId) :
    ∃ v9 X9, (Builtin.append_ #[57, 57] ty #[v, .slice (some ⟨lc, 0, none⟩) 1 1]).run Tryz.prog X = .ok v9 X9 ∧ LoSt B0 n g (k + 1) v9 X9 ∧ ∀ D : Nat, X.heap[D]? = some (Obj.deferred (some [])) → X9.heap[D]? = some (Obj.deferred (some [])) := by
  obtain ⟨⟨vs, h1, h2⟩, h3⟩ := h
  have hvl : vs.length ≤ k := by rw [h2.len]; exact lpPLen
  obtain ⟨v9, X9, hrun, hO, hG⟩ := runAppL X ty B0.heap.size v vs h1 (some ⟨lc, 0, none⟩) 1 1 [.slice A8 q8 c8] rfl hl (by intro u hu; rw [List.mem_singleton] at hu; subst hu; rfl) (by simp; omega) h3.size
  have hI1 := apart9 h1 h2
  have hone : IsL X B0.heap.size (fun _ => True) [.slice A8 q8 c8] [lpL n g k] := ⟨ho, fun _ _ => trivial, trivial⟩
  have hI2 := apart9 h1 hone
  have hc := Chg.ofGrown hG (F := fun g => v.ownBlock ≠ some g) fun _ h => h
  have hPS := lpPS (n := n) (g := g) (k := k)
  rw [if_pos hbk] at hPS
  refine ⟨v9, X9, hrun, ⟨⟨_, hO, ?_⟩, h3.grown hG h3.size fun q hq => (World.ownsRow.lt h1 q hq).1⟩, fun D hD => ?_⟩
  · rw [hPS]
    exact IsL.append ((hI1.chg hc fun _ h _ => h).mono fun _ _ => trivial) ((hI2.chg hc fun _ h _ => h).mono fun _ _ => trivial)
  · refine (hc.block D (Array.getElem?_eq_some_iff.1 hD).1 fun e => ?_).trans hD
    obtain ⟨o2, ho2, hcc⟩ := ownCells9 h1 e
    rw [hD] at ho2
    injection ho2 with ho2
    subst ho2
    cases hcc
/-! What lies in memory while a loop is laid down: the body sorted; the header too; both in one row; that row in a list; the list appended. -/
def LoP5 (Z : World) (D : List Nat) (A7 : Option Addr) (c7 : Nat) (X : World) : Prop := Below Z.heap.size Z X ∧ Rd X A7 c7 (mk (D.map Int.ofNat))
def LoP6 (Z : World) (D : List Nat) (h lb : Nat) (A7 : Option Addr) (c7 : Nat) (X : World) : Prop := LoP5 Z D A7 c7 X ∧ OwnI X Z.heap.size (.slice (some ⟨lb, 0, none⟩) 1 1) [(h : Int)]
def LoP7 (Z : World) (n : Nat) (g : Nat → List Nat) (h : Nat) (A8 : Option Addr) (q8 c8 : Nat) (X : World) : Prop := Below Z.heap.size Z X ∧ OwnI X Z.heap.size (.slice A8 q8 c8) (lpL n g h)
def LoP8 (Z : World) (n : Nat) (g : Nat → List Nat) (h lc : Nat) (A8 : Option Addr) (q8 c8 : Nat) (X : World) : Prop := LoP7 Z n g h A8 q8 c8 X ∧ Rds X (some ⟨lc, 0, none⟩) 1 [.slice A8 q8 c8]
theorem litOwn9 (w : World) (base : Nat) (h : base ≤ w.heap.size) (x : Int) : OwnI (w.alloc (.cells #[.int .i64 x] 3)) base (.slice (some ⟨w.heap.size, 0, none⟩) 1 1) [x] :=
  ⟨rfl, .inr ⟨w.heap.size, 1, #[.int .i64 x], rfl, h, heap_alloc_new w _, Nat.le_refl _, by unfold maxLen; omega, rfl, rfl⟩⟩
theorem loP6a {Z X : World} {D : List Nat} {h : Nat} {A7 : Option Addr} {c7 : Nat} (hb : Below (Z.alloc (.cells #[.int .i64 (h : Int)] 3)).heap.size (Z.alloc (.cells #[.int .i64 (h : Int)] 3)) X) (hr : Rd X A7 c7 (mk (D.map Int.ofNat))) : LoP6 Z D h Z.heap.size A7 c7 X :=
  ⟨⟨belowThen (belowAlloc Z _) hb, hr⟩, ownChg (litOwn9 Z Z.heap.size (Nat.le_refl _) h) (Chg.ofBelow hb fun _ => True) fun _ _ => trivial⟩
theorem loP6b {Z X : World} {D : List Nat} {h : Nat} {A7 : Option Addr} {c7 : Nat} (hp : LoP5 Z D A7 c7 X) : LoP6 Z D h X.heap.size A7 c7 (X.alloc (.cells #[.int .i64 (h : Int)] 3)) :=
  ⟨⟨belowThen hp.1 (belowAlloc X _), Rd.below hp.2 (belowAlloc X _)⟩, litOwn9 X _ hp.1.size h⟩
theorem loP7 {Z X : World} {D : List Nat} {h lb n q7 q8 : Nat} {g : Nat → List Nat} {A7 : Option Addr} {c7 : Nat} (hp : LoP6 Z D h lb A7 c7 X) (hq : (mk (D.map Int.ofNat)).length = q7) (hl : [(h : Int)] ++ mk (D.map Int.ofNat) = lpL n g h) (hq8 : (lpL n g h).length = q8) (hn : q7 ≤ 1000) (ty : TypeId) :
    ∃ A8 c8 X9, (Builtin.append_ #[33, 33] ty #[.slice (some ⟨lb, 0, none⟩) 1 1, .slice A7 q7 c7]).run Tryz.prog X = .ok (.slice A8 q8 c8) X9 ∧ LoP7 Z n g h A8 q8 c8 X9 := by
  obtain ⟨⟨hb, hr⟩, ho⟩ := hp
  obtain ⟨i0, hi, hz0, hz1, hz2⟩ := info_parts infoInt
  obtain ⟨v', w', hrun, k1, _, hgr, _⟩ := runApp (P := Tryz.prog) (w := X) Z.heap.size 33 ty 3 i0 _ 8 Tryz.underlying33 hi hz0 hz1 hz2 rfl (.slice (some ⟨lb, 0, none⟩) 1 1) 1 (iv [(h : Int)]) ho A7 q7 c7 (iv (mk (D.map Int.ofNat))) (by rw [iv, List.length_map]; exact hq.symm) hr (ivOne _) (by omega) (by unfold maxLen; omega) hb.size
  have ho' : OwnI w' Z.heap.size v' (lpL n g h) := by
    rw [← hl]
    unfold OwnI iv
    rw [List.length_append, List.map_append, hq]
    exact k1
  obtain ⟨A8, c8, e, _⟩ := ho'.rd
  rw [hq8] at e
  subst e
  exact ⟨A8, c8, w', hrun, hb.grown hgr hb.size fun q hq => (World.ownsRow.lt ho q hq).1, ho'⟩
theorem loP8 {Z X : World} {h n q8 : Nat} {g : Nat → List Nat} {A8 : Option Addr} {c8 : Nat} (hp : LoP7 Z n g h A8 q8 c8 X) : LoP8 Z n g h X.heap.size A8 q8 c8 (X.alloc (.cells #[.slice A8 q8 c8] 33)) :=
  ⟨⟨belowThen hp.1 (belowAlloc X _), ownChg hp.2 (Chg.ofBelow (belowAlloc X _) fun _ => True) fun _ _ => trivial⟩, litV9 X _ _⟩
theorem loP9 {B0 Z X : World} {h lc n q8 : Nat} {g : Nat → List Nat} {v : Value} {A8 : Option Addr} {c8 : Nat} {Ds : List Nat} (hs : LoSt B0 n g h v Z) (hO : OpenR Ds Z) (hk : h ≤ 1000) (hbk : bkB n g h = true) (hp : LoP8 Z n g h lc A8 q8 c8 X) (ty : TypeId) :
    ∃ v9 X9, (Builtin.append_ #[57, 57] ty #[v, .slice (some ⟨lc, 0, none⟩) 1 1]).run Tryz.prog X = .ok v9 X9 ∧ LoSt B0 n g (h + 1) v9 X9 ∧ OpenR Ds X9 := by
  obtain ⟨⟨hb, ho⟩, hl⟩ := hp
  have hz := hs.bel.size
  obtain ⟨v9, X9, hrun, h1, h2⟩ := loPush (hs.below hb) hk hbk (ownMono9 ho hz) hl ty
  exact ⟨v9, X9, hrun, h1, fun D hD => h2 D ((hb.block D (hO.lt hD)).trans (hO D hD))⟩
end Go.Proofs.YtpkagpobobmnfaaGreatDoor
