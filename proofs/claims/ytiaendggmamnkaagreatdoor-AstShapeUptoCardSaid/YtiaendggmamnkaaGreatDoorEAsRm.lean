/-
  renewStatement: a statement's lists are replaced by copies; what then lies in memory.
-/
import Derived.Test.YtiaendggmamnkaaGreatDoorEAsDm
import Derived.Test.YtiaendggmamnkaaGreatDoorEAsCv
namespace Go.Proofs.YtiaendggmamnkaaGreatDoor
open Go Go.RowKit

theorem GM.up {B dx : Nat} : ∀ {d : Nat} {w : World} {b o : Nat} {t : Sm}, GM B dx d w b o t → GM B dx (d + 1) w b o t
  | 0, _, _, _, _, h => h.elim
  | _ + 1, _, _, _, _, ⟨hg, h0, h1, h2, h3, h4, h5, h6, ⟨v7, h7, r7⟩, v8, h8, r8⟩ => ⟨hg, h0, h1, h2, h3, h4, h5, h6, ⟨v7, h7, r7.mono fun _ _ _ h => h.up⟩, v8, h8, r8.mono fun _ _ _ h => h.up⟩
/-- The expressions' cell holds a copy. -/
def St6 (dx : Nat) (X : World) (g i n : Nat) (es : List Ex) (p : SlA) (Y : World) : Prop :=
  ∃ X1, Below X.heap.size X X1 ∧ RdE 5 (GX X.heap.size dx) X1 p.A p.c es ∧ (∀ d, RowN X.heap.size 37 5 (fun _ _ => False) (NX X.heap.size (fun _ _ => False) d) X1 p.A es) ∧ Y = X1.setCell ⟨g, i, none⟩ (.slice p.A n p.c)
/-- A block's cell holds a copy, cell by cell. -/
def St7 (X : World) (g i n : Nat) (A : Option Addr) (c : Nat) (p : SlA) (Y : World) : Prop :=
  ∃ X1 Lr, Below X.heap.size X X1 ∧ Lr.length = n ∧ RdE 9 (Raw 9) X A c Lr ∧ RdE 9 (Raw 9) X1 p.A p.c Lr ∧ FreshRow X1 X.heap.size p.A (n * 9) 54 ∧ Y = X1.setCell ⟨g, i, none⟩ (.slice p.A n p.c)
section
variable {dx D : Nat} {w X Y : World} {A1 : Option Addr} {c1 : Nat} {l : List Sm} {z : Nat} {P P' : Nat → Nat → Prop} {L : List SlA} {S : List (List Sm)} {v : Value} {g0 i n c : Nat} {A : Option Addr} {cur0 : Array Value} {p : SlA}
theorem nilSlX {B n c : Nat} {w : World} {A A' : Option Addr} {c' : Nat} {l : List Ex} (hn : n = 0) (hc : c' ≤ maxLen) (h : SlE 5 (GX B dx) w (.slice A n c) l) : SlE 5 (GX B dx) w (.slice A' n c') l := by
  obtain ⟨A2, c2, e, hr⟩ := h
  injection e with e1 e2 e3
  have hl : l = [] := List.eq_nil_of_length_eq_zero (by omega)
  subst hl
  exact ⟨A', c', by rw [e2], Nat.zero_le _, hc, fun h => absurd h (by simp)⟩
theorem nilSlM {B d n c : Nat} {w : World} {A A' : Option Addr} {c' : Nat} {l : List Sm} (hn : n = 0) (hc : c' ≤ maxLen) (h : SlE 9 (GM B dx d) w (.slice A n c) l) : SlE 9 (GM B dx d) w (.slice A' n c') l := by
  obtain ⟨A2, c2, e, hr⟩ := h
  injection e with e1 e2 e3
  have hl : l = [] := List.eq_nil_of_length_eq_zero (by omega)
  subst hl
  exact ⟨A', c', by rw [e2], Nat.zero_le _, hc, fun h => absurd h (by simp)⟩
theorem CtM.put6 (h : CtM dx D w X A1 c1 l z P L S v) (hg0 : w.heap.size ≤ g0) (hcur : X.heap[g0]? = some (.cells cur0 54 (0, 0))) (hp : X.cell? ⟨g0, i, none⟩ = some (.slice A n c)) {es : List Ex} (hn : es.length = n) (hr : RdE 5 (GX w.heap.size dx) X A c es) (hs : St6 dx X g0 i n es p Y) :
    KpM w.heap.size dx D P P X Y ∧ CtM dx D w Y A1 c1 l z P L S v ∧ (∃ cur', Y.heap[g0]? = some (.cells cur' 54 (0, 0)) ∧ cur'.size = cur0.size) ∧ Y.cell? ⟨g0, i, none⟩ = some (.slice p.A n p.c) ∧ (∀ q u, q ≠ i → X.cell? ⟨g0, q, none⟩ = some u → Y.cell? ⟨g0, q, none⟩ = some u) ∧ Chg X Y (fun q => q ≠ g0) ∧ AllX w.heap.size Y (.slice p.A n p.c) es := by
  obtain ⟨X1, hb, hr1, hn1, rfl⟩ := hs
  have hBX := h.bel.size
  have hrB : RdE 5 (GX w.heap.size dx) X1 p.A p.c es := rebaseX hr1 hn1
  have hold : SlE 5 (GX w.heap.size dx) X1 (.slice A n c) es := ⟨A, c, by rw [hn], hr.below (stabGX _ dx) hb⟩
  have hall : AllX w.heap.size X1 (.slice p.A n p.c) es := ⟨p.A, p.c, by rw [hn], fun d => (hn1 d).baseX hBX⟩
  obtain ⟨k1, k2, k3, k4, k5, k6⟩ := h.putCell hg0 hcur hb hp (A' := p.A) (c' := p.c) (fun d l hl => nilSlM (notBoth (hl.mono fun _ _ _ h => h.to) (hold.mono fun _ _ _ h => h.to)) hr1.max hl)
    (fun l hl => by
      have e : l = es := hl.uniq hold fun _ _ _ _ hx hy => EX.uniq hx.to hy.to
      subst e
      exact ⟨p.A, p.c, by rw [hn], hrB⟩)
    (fun d l h0 hl => absurd (notBoth (hl.mono fun _ _ _ h => h.to) (hold.mono fun _ _ _ h => h.to)) (by omega))
    (fun l hl => by
      have e : l = es := hl.uniq hold fun _ _ _ _ hx hy => EX.uniq hx.to hy.to
      subst e
      exact hall) fun _ _ h => h
  refine ⟨k1, k2, k3, k4, k5, k6, ?_⟩
  have hg0l : g0 < X.heap.size := (Array.getElem?_eq_some_iff.1 hcur).1
  exact hall.chg (chgSet16 X1 g0 i _) fun b _ ht e => by
    subst e
    rcases ht with ht | ⟨cur, ht⟩
    · omega
    · rw [(hb.block b hg0l).trans hcur] at ht
      injection ht with ht
      injection ht with _ ht _
      exact absurd ht (by decide)
theorem CtM.put7 (h : CtM dx D w X A1 c1 l z P L S v) (hg0 : w.heap.size ≤ g0) (hcur : X.heap[g0]? = some (.cells cur0 54 (0, 0))) (hp : X.cell? ⟨g0, i, none⟩ = some (.slice A n c)) {D2 : Nat} {ts : List Sm} (hn : ts.length = n) (hr : RdE 9 (GM w.heap.size dx D2) X A c ts) (hs : St7 X g0 i n A c p Y) (hP : ∀ g n, P g n → P' g n) (hPn : ∀ g, 0 < n → p.A = some ⟨g, 0, none⟩ → P' g n) :
    KpM w.heap.size dx D P P' X Y ∧ CtM dx D w Y A1 c1 l z P' L S v ∧ (∃ cur', Y.heap[g0]? = some (.cells cur' 54 (0, 0)) ∧ cur'.size = cur0.size) ∧ Y.cell? ⟨g0, i, none⟩ = some (.slice p.A n p.c) ∧ (∀ q u, q ≠ i → X.cell? ⟨g0, q, none⟩ = some u → Y.cell? ⟨g0, q, none⟩ = some u) ∧ Chg X Y (fun q => q ≠ g0) ∧ RdE 9 (GM w.heap.size dx D2) Y p.A p.c ts ∧ FreshRow Y w.heap.size p.A (n * 9) 54 := by
  obtain ⟨X1, Lr, hb, hL, hra, hra1, hf, rfl⟩ := hs
  have hBX := h.bel.size
  have hg0l : g0 < X.heap.size := (Array.getElem?_eq_some_iff.1 hcur).1
  have hraX1 : RdE 9 (Raw 9) X1 A c Lr := hra.below (fun _ _ _ _ _ hl hb h j hj => (hb.cell hl).trans (h j hj)) hb
  have H7 := fun d l (hl : SlE 9 (GM w.heap.size dx d) X1 (.slice A n c) l) => GM.row hL hraX1 hra1 (hf.mono hBX) (Below.refl _ _) d l hl
  have hold : SlE 9 (GM w.heap.size dx D2) X1 (.slice A n c) ts := ⟨A, c, by rw [hn], hr.below (stabGM _ dx D2) hb⟩
  have HN : ∀ l, SlE 5 (GX w.heap.size dx) X1 (.slice A n c) l → n = 0 := fun l hl => notBoth (hold.mono fun _ _ _ h => h.to) (hl.mono fun _ _ _ h => h.to)
  have hgE : ∀ b, Ty w.heap.size 37 X1 b → b ≠ g0 := fun b ht e => by
    subst e
    rcases ht with ht | ⟨cur, ht⟩
    · omega
    · rw [(hb.block b hg0l).trans hcur] at ht
      injection ht with ht
      injection ht with _ ht _
      exact absurd ht (by decide)
  have H6 : ∀ l, SlE 5 (GX w.heap.size dx) X1 (.slice A n c) l → SlE 5 (GX w.heap.size dx) X1 (.slice p.A n p.c) l := fun l hl => nilSlX (HN l hl) hra1.max hl
  obtain ⟨k1, k2, k3, k4, k5, k6⟩ := h.putCell (P' := P') hg0 hcur hb hp (A' := p.A) (c' := p.c) H7 H6
    (fun d l h0 _ => by
      obtain ⟨g, cur, e1, e2, e3, e4⟩ := hf (by omega)
      exact ⟨g, cur, e1, by omega, e3, e4, hPn g h0 e1⟩)
    (fun l hl => by
      have h0 := HN l hl
      obtain ⟨_, _, e, _⟩ := hl
      injection e with _ e2 _
      subst h0
      exact nilAllX e2.symm) hP
  refine ⟨k1, k2, k3, k4, k5, k6, ?_, (hf.mono hBX).over fun g cur _ hg => heapSet _ hg⟩
  obtain ⟨A9, c9, e, hr9⟩ := H7 D2 ts hold
  injection e with e1 _ e3
  subst e1 e3
  exact hr9.over (by simp) fun b o x _ hx => hx.put ((hb.cell hg0l).trans hp) hgE H7 H6
/-- What is done of a row stays so. -/
theorem DoneM.step {B : Nat} {S S' : Nat → Nat → Prop} {a : List Sm} {k : Nat} (h : DoneM B X S g0 a k) (hS : ∀ g n, S g n → S' g n) (hg0 : B ≤ g0) (hcur : X.heap[g0]? = some (.cells cur0 54 (0, 0))) (hc : Chg X Y (fun q => q ≠ g0)) (hfr : ∀ g cur, B ≤ g → X.heap[g]? = some (.cells cur 54 (0, 0)) → ∃ cur', Y.heap[g]? = some (.cells cur' 54 (0, 0)) ∧ cur'.size = cur.size) (hcell : ∀ q u, q < k * 9 → X.cell? ⟨g0, q, none⟩ = some u → Y.cell? ⟨g0, q, none⟩ = some u) : DoneM B Y S' g0 a k := fun j hj => by
  obtain ⟨h6, h78⟩ := h j hj
  refine ⟨fun hja => ?_, fun q hq => ?_⟩
  · obtain ⟨v, e, hx⟩ := h6 hja
    refine ⟨v, hcell _ _ (by omega) e, hx.chg hc fun b _ ht e => ?_⟩
    subst e
    rcases ht with ht | ⟨cur, ht⟩
    · omega
    · rw [hcur] at ht
      injection ht with ht
      injection ht with _ ht _
      exact absurd ht (by decide)
  · obtain ⟨A, m, c, e, hx⟩ := h78 q hq
    refine ⟨A, m, c, hcell _ _ (by omega) e, fun h0 => ?_⟩
    obtain ⟨g, cur, e1, e2, e3, e4, e5⟩ := hx h0
    obtain ⟨cur', q1, q2⟩ := hfr g cur e2 e3
    exact ⟨g, cur', e1, e2, q1, by omega, hS _ _ e5⟩
end
section
variable {dx D1 : Nat} {w X Y1 Y2 Y3 : World} {A1 : Option Addr} {c1 : Nat} {l : List Sm} {z : Nat} {L : List SlA} {S : List (List Sm)} {v : Value} {g0 n0 c0 k n6 c6 n7 c7 n8 c8 : Nat} {A6 A7 A8 : Option Addr} {a : List Sm} {p6 p7 p8 : SlA}
/-- One statement's lists are renewed. -/
theorem CtM.renew (h : CtM dx (D1 + 1) w X A1 c1 l z (PendW g0 n0 L) L S v) (hrow : RdE 9 (GM w.heap.size dx (D1 + 1)) X (some ⟨g0, 0, none⟩) c0 a) (hfr : FreshRow X w.heap.size (some ⟨g0, 0, none⟩) (n0 * 9) 54) (hd : DoneM w.heap.size X (Pend L) g0 a k) (hk : k < a.length) (hn0 : a.length = n0)
    (hp6 : X.cell? ⟨g0, k * 9 + 6, none⟩ = some (.slice A6 n6 c6)) (hp7 : X.cell? ⟨g0, k * 9 + 7, none⟩ = some (.slice A7 n7 c7)) (hp8 : X.cell? ⟨g0, k * 9 + 8, none⟩ = some (.slice A8 n8 c8)) (hn6 : a[k].val.exprs.length = n6) (hn7 : a[k].fst.length = n7) (hn8 : a[k].snd.length = n8)
    (s6 : St6 dx X g0 (k * 9 + 6) n6 a[k].val.exprs p6 Y1) (s7 : St7 Y1 g0 (k * 9 + 7) n7 A7 c7 p7 Y2) (s8 : St7 Y2 g0 (k * 9 + 8) n8 A8 c8 p8 Y3) (e7 : p7.n = n7) (e8 : p8.n = n8) :
    CtM dx (D1 + 1) w Y3 A1 c1 l z (PendW g0 n0 (pshS p8 (pshS p7 L))) L S v ∧ RdE 9 (GM w.heap.size dx (D1 + 1)) Y3 (some ⟨g0, 0, none⟩) c0 a ∧ FreshRow Y3 w.heap.size (some ⟨g0, 0, none⟩) (n0 * 9) 54 ∧ DoneM w.heap.size Y3 (Pend (pshS p8 (pshS p7 L))) g0 a (k + 1) ∧
      (RdE 9 (GM w.heap.size dx (D1 + 1)) Y3 p7.A p7.c a[k].fst ∧ FreshRow Y3 w.heap.size p7.A (n7 * 9) 54) ∧ (RdE 9 (GM w.heap.size dx (D1 + 1)) Y3 p8.A p8.c a[k].snd ∧ FreshRow Y3 w.heap.size p8.A (n8 * 9) 54) ∧
      (Y3.cell? ⟨g0, k * 9 + 6, none⟩ = some (.slice p6.A n6 p6.c) ∧ Y3.cell? ⟨g0, k * 9 + 7, none⟩ = some (.slice p7.A n7 p7.c) ∧ Y3.cell? ⟨g0, k * 9 + 8, none⟩ = some (.slice p8.A n8 p8.c) ∧ ∀ q u, q < 6 → X.cell? ⟨g0, k * 9 + q, none⟩ = some u → Y3.cell? ⟨g0, k * 9 + q, none⟩ = some u) := by
  obtain ⟨g9, cur0, eg, hg0, hcur, hcs⟩ := hfr (by omega)
  injection eg with eg
  injection eg with eg _ _
  subst eg
  have hP7 : ∀ g n, PendW g0 n0 L g n → PendW g0 n0 (pshS p7 L) g n := fun g n q => q.imp id Pend.psh
  have hP8 : ∀ g n, PendW g0 n0 (pshS p7 L) g n → PendW g0 n0 (pshS p8 (pshS p7 L)) g n := fun g n q => q.imp id Pend.psh
  have rd : ∀ W, RdE 9 (GM w.heap.size dx (D1 + 1)) W (some ⟨g0, 0, none⟩) c0 a → GM w.heap.size dx (D1 + 1) W g0 (k * 9) a[k] := fun W hW => by
    obtain ⟨b, o, e, _, hx⟩ := hW.one hk
    injection e with e
    injection e with p1 p2 _
    subst p1 p2
    rwa [Nat.zero_add] at hx
  obtain ⟨_, _, _, _, _, _, _, ⟨v6, y6, B6, d6, q6, r6⟩, _⟩ := rd X hrow
  subst q6
  rw [hp6] at y6
  injection y6 with y6
  injection y6 with i1 i2 i3
  subst i1 i3
  obtain ⟨K1, h1, ⟨cur1, hcur1, hs1⟩, y16, o1, ch1, all1⟩ := h.put6 hg0 hcur hp6 hn6 r6 s6
  have hrow1 := hrow.over K1.size K1.gm
  obtain ⟨_, _, _, _, _, _, _, _, ⟨v7, y7, B7, d7, q7, r7⟩, _⟩ := rd Y1 hrow1
  subst q7
  have hp71 := o1 _ _ (by omega) hp7
  rw [hp71] at y7
  injection y7 with y7
  injection y7 with i1 i2 i3
  subst i1 i3
  obtain ⟨K2, h2, ⟨cur2, hcur2, hs2⟩, y27, o2, ch2, r72, f72⟩ := h1.put7 (P' := PendW g0 n0 (pshS p7 L)) hg0 hcur1 hp71 hn7 r7 s7 hP7 fun g h0 eA => .inr (e7 ▸ Pend.top (by omega) eA)
  have hrow2 := hrow1.over K2.size K2.gm
  obtain ⟨_, _, _, _, _, _, _, _, _, v8, y8, B8, d8, q8, r8⟩ := rd Y2 hrow2
  subst q8
  have hp82 := o2 _ _ (by omega) (o1 _ _ (by omega) hp8)
  rw [hp82] at y8
  injection y8 with y8
  injection y8 with i1 i2 i3
  subst i1 i3
  obtain ⟨K3, h3, ⟨cur3, hcur3, hs3⟩, y38, o3, ch3, r83, f83⟩ := h2.put7 (P' := PendW g0 n0 (pshS p8 (pshS p7 L))) hg0 hcur2 hp82 hn8 r8 s8 hP8 fun g h0 eA => .inr (e8 ▸ Pend.top (by omega) eA)
  have hrow3 := hrow2.over K3.size K3.gm
  have y36 := o3 _ _ (by omega) (o2 _ _ (by omega) y16)
  have y37 := o3 _ _ (by omega) y27
  have r73 : RdE 9 (GM w.heap.size dx (D1 + 1)) Y3 p7.A p7.c a[k].fst := (r72.mono16 fun _ _ _ h => h.up).over K3.size K3.gm
  have f73 := f72.over K3.fr
  have notE : ∀ (W : World) (cur : Array Value), W.heap[g0]? = some (.cells cur 54 (0, 0)) → ∀ b, Ty w.heap.size 37 W b → b ≠ g0 := fun W cur hW b ht e => by
    subst e
    rcases ht with ht | ⟨cur, ht⟩
    · omega
    · rw [hW] at ht
      injection ht with ht
      injection ht with _ ht _
      exact absurd ht (by decide)
  have all3 : AllX w.heap.size Y3 (.slice p6.A n6 p6.c) a[k].val.exprs := (all1.chg ch2 fun b _ ht => notE _ _ hcur1 b ht).chg ch3 fun b _ ht => notE _ _ hcur2 b ht
  have hd1 := hd.step (S' := Pend L) (fun _ _ h => h) hg0 hcur ch1 K1.fr fun q u hq hu => o1 q u (by omega) hu
  have hd2 := hd1.step (S' := Pend (pshS p7 L)) (fun _ _ h => h.psh) hg0 hcur1 ch2 K2.fr fun q u hq hu => o2 q u (by omega) hu
  have hd3 := hd2.step (S' := Pend (pshS p8 (pshS p7 L))) (fun _ _ h => h.psh) hg0 hcur2 ch3 K3.fr fun q u hq hu => o3 q u (by omega) hu
  refine ⟨h3, hrow3, fun hm => ⟨g0, cur3, rfl, hg0, hcur3, by omega⟩, fun j hj => ?_, ⟨r73, f73⟩, ⟨r83.mono16 fun _ _ _ h => h.up, f83⟩, y36, y37, y38, fun q u hq hu => o3 _ _ (by omega) (o2 _ _ (by omega) (o1 _ _ (by omega) hu))⟩
  rcases Nat.lt_or_ge j k with hjk | hjk
  · exact hd3 j hjk
  · have ej : j = k := by omega
    subst ej
    refine ⟨fun _ => ⟨_, y36, all3⟩, fun q hq => ?_⟩
    rcases hq with rfl | rfl
    · refine ⟨p7.A, n7, p7.c, y37, fun h0 => ?_⟩
      obtain ⟨g, cur, q1, q2, q3, q4⟩ := f73 (by omega)
      exact ⟨g, cur, q1, q2, q3, q4, (e7 ▸ Pend.top (p := p7) (by omega) q1 : Pend (pshS p7 L) g n7).psh⟩
    · refine ⟨p8.A, n8, p8.c, y38, fun h0 => ?_⟩
      obtain ⟨g, cur, q1, q2, q3, q4⟩ := f83 (by omega)
      exact ⟨g, cur, q1, q2, q3, q4, e8 ▸ Pend.top (p := p8) (by omega) q1⟩
end
set_option maxRecDepth 100000 in
set_option maxHeartbeats 1000000 in
theorem iRenewM {dx g o n6 c6 n7 c7 n8 c8 : Nat} {A6 A7 A8 : Option Addr} {es : List Ex} {cur : Array Value} (X : World) (hcur : X.heap[g]? = some (.cells cur 54 (0, 0))) (hn : es.length = n6) (hs : Tr.szL es ≤ 4000000) (h7s : n7 ≤ 4000000) (h8s : n8 ≤ 4000000)
    (hp6 : X.cell? ⟨g, o + 6, none⟩ = some (.slice A6 n6 c6)) (hp7 : X.cell? ⟨g, o + 7, none⟩ = some (.slice A7 n7 c7)) (hp8 : X.cell? ⟨g, o + 8, none⟩ = some (.slice A8 n8 c8)) (hr6 : RdE 5 (EX dx) X A6 c6 es)
    (H7 : ∀ p Y1, St6 dx X g (o + 6) n6 es p Y1 → ∃ L7, L7.length = n7 ∧ RdE 9 (Raw 9) Y1 A7 c7 L7) (H8 : ∀ p Y1 p7 Y2, St6 dx X g (o + 6) n6 es p Y1 → St7 Y1 g (o + 7) n7 A7 c7 p7 Y2 → ∃ L8, L8.length = n8 ∧ RdE 9 (Raw 9) Y2 A8 c8 L8) :
    Calls Tryz.prog 68 #[.pointer (some ⟨g, o, none⟩)] X fun e Y => e = .returned (.tuple #[]) ∧ ∃ p6 p7 p8 Y1 Y2, St6 dx X g (o + 6) n6 es p6 Y1 ∧ St7 Y1 g (o + 7) n7 A7 c7 p7 Y2 ∧ St7 Y2 g (o + 8) n8 A8 c8 p8 Y ∧ p7.n = n7 ∧ p8.n = n8 := by
  have HC := Lib.hid (iCloneX dx es n6 c6 hn hs A6 X hr6)
  have hgl : g < X.heap.size := (Array.getElem?_eq_some_iff.1 hcur).1
  have hz : ∀ i, X.frozen? ⟨g, i, none⟩ = false := fun i => Joins.unfrozen_of_block hcur i
  have HZ := Lib.hid hz
  have HP := Lib.hid (And.intro hp6 (And.intro hp7 hp8))
  have HH7 := Lib.hid H7
  have HH8 := Lib.hid H8
  clear hr6 hn hs H7 H8 hz hp7 hp8 hcur
  go_enter Tryz.func68, Tryz.ntmps68
  go_wp2_with fail
  refine HC.out.mono ?_
  rintro e X1 ⟨B6, d6, rfl, h1, h2, hb1⟩
  obtain ⟨Y1, hY1⟩ : ∃ Y, X1.setCell ⟨g, o + 6, none⟩ (.slice B6 n6 d6) = Y := ⟨_, rfl⟩
  have s6 : St6 dx X g (o + 6) n6 es ⟨B6, n6, d6⟩ Y1 := ⟨X1, hb1, h1, h2, hY1.symm⟩
  have x6 := (hb1.cell (p := ⟨g, o + 6, none⟩) hgl).trans HP.out.1
  have f6 := (hb1.frozen (p := ⟨g, o + 6, none⟩) hgl).trans (HZ.out _)
  have y7 : Y1.cell? ⟨g, o + 7, none⟩ = some (.slice A7 n7 c7) := by rw [← hY1, World.cell?_setCell_other _ _ _ _ fun e => by injection e with _ e _; omega]; exact (hb1.cell (p := ⟨g, o + 7, none⟩) hgl).trans HP.out.2.1
  have y8 : Y1.cell? ⟨g, o + 8, none⟩ = some (.slice A8 n8 c8) := by rw [← hY1, World.cell?_setCell_other _ _ _ _ fun e => by injection e with _ e _; omega]; exact (hb1.cell (p := ⟨g, o + 8, none⟩) hgl).trans HP.out.2.2
  have fz1 : ∀ i, Y1.frozen? ⟨g, i, none⟩ = false := fun i => by rw [← hY1]; simpa using (hb1.frozen (p := ⟨g, i, none⟩) hgl).trans (HZ.out _)
  have hgl1 : g < Y1.heap.size := by rw [← hY1]; simpa using Nat.lt_of_lt_of_le hgl hb1.size
  obtain ⟨L7, hL7, hra7⟩ := HH7.out _ _ s6
  have HC7 := Lib.hid (iCopyRM L7 n7 c7 hL7 h7s A7 Y1 hra7)
  have HS6 := Lib.hid s6
  have HY1 := Lib.hid hY1
  have HRA7 := Lib.hid (And.intro hL7 hra7)
  have HF1 := Lib.hid fz1
  have HQ8 := Lib.hid y8
  clear s6 hY1 h1 h2 hb1 hL7 hra7 fz1 y8
  go_upto_region 1 with fail
  rw [HY1.out]
  go_wp2_with fail
  refine HC7.out.mono ?_
  rintro e X2 ⟨_, rfl, B7, d7, rfl, h1, h2, hb2⟩
  obtain ⟨Y2, hY2⟩ : ∃ Y, X2.setCell ⟨g, o + 7, none⟩ (.slice B7 n7 d7) = Y := ⟨_, rfl⟩
  have s7 : St7 Y1 g (o + 7) n7 A7 c7 ⟨B7, n7, d7⟩ Y2 := ⟨X2, L7, hb2, HRA7.out.1, HRA7.out.2, h1, h2, hY2.symm⟩
  have x7 := (hb2.cell (p := ⟨g, o + 7, none⟩) hgl1).trans y7
  have f7 := (hb2.frozen (p := ⟨g, o + 7, none⟩) hgl1).trans (HF1.out _)
  have z8 : Y2.cell? ⟨g, o + 8, none⟩ = some (.slice A8 n8 c8) := by rw [← hY2, World.cell?_setCell_other _ _ _ _ fun e => by injection e with _ e _; omega]; exact (hb2.cell (p := ⟨g, o + 8, none⟩) hgl1).trans HQ8.out
  have fz2 : ∀ i, Y2.frozen? ⟨g, i, none⟩ = false := fun i => by rw [← hY2]; simpa using (hb2.frozen (p := ⟨g, i, none⟩) hgl1).trans (HF1.out _)
  have hgl2 : g < Y2.heap.size := by rw [← hY2]; simpa using Nat.lt_of_lt_of_le hgl1 hb2.size
  obtain ⟨L8, hL8, hra8⟩ := HH8.out _ _ _ _ HS6.out s7
  have HC8 := Lib.hid (iCopyRM L8 n8 c8 hL8 h8s A8 Y2 hra8)
  have HS7 := Lib.hid s7
  have HY2 := Lib.hid hY2
  have HRA8 := Lib.hid (And.intro hL8 hra8)
  have HF2 := Lib.hid fz2
  clear s7 hY2 h1 h2 hb2 hL8 hra8 fz2 y7
  go_upto_region 2 with fail
  rw [HY2.out]
  go_wp2_with fail
  refine HC8.out.mono ?_
  rintro e X3 ⟨_, rfl, B8, d8, rfl, h1, h2, hb3⟩
  have x8 := (hb3.cell (p := ⟨g, o + 8, none⟩) hgl2).trans z8
  have f8 := (hb3.frozen (p := ⟨g, o + 8, none⟩) hgl2).trans (HF2.out _)
  have HS8 := Lib.hid (show St7 Y2 g (o + 8) n8 A8 c8 ⟨B8, n8, d8⟩ (X3.setCell ⟨g, o + 8, none⟩ (.slice B8 n8 d8)) from ⟨X3, L8, hb3, HRA8.out.1, HRA8.out.2, h1, h2, rfl⟩)
  clear h1 h2 hb3
  go_wp2_with fail
  go_end0
  exact ⟨rfl, ⟨B6, n6, d6⟩, ⟨B7, n7, d7⟩, ⟨B8, n8, d8⟩, Y1, Y2, HS6.out, HS7.out, HS8.out, rfl, rfl⟩
end Go.Proofs.YtiaendggmamnkaaGreatDoor
