/-
  The contract of the iterator extensions.
-/
import Derived.Test.YtjioiaeiggjneaaDoorKSeqS
import Derived.Test.YtjioiaeiggjneaaDoorKLinX
import Derived.Test.YtjioiaeiggjneaaDoorKLinF
namespace Go.Proofs.YtjioiaeiggjneaaDoor
open Go Go.RowKit Go.Shelf
attribute [local go_sem] Oper.semAt_some

theorem yieldWide {m m' : Nat} {P : Program} {l : Nat} {args : Array Value} {W : World} {R : Ending → World → Prop} (h : YieldAt Fence.wide m P l args W R) : YieldAt Fence.wide m' P l args W R := by
  obtain ⟨fn, tmps, assign, body, hy, h1, h2⟩ := h
  exact ⟨fn, tmps, assign, body, hy, h1, fun c cs _ => h2 c cs (room_wide _)⟩
/-- Integers of numbers. -/
def nI (l : List Nat) : List Int := l.map Int.ofNat
theorem resExt {tmps : Array Value} {b : Nat} {r : Bool} {W : World} (hp : tmps.getD 6 undef = .pointer (some ⟨b, 0, none⟩)) (hB : Boxed W b 4 (.bool r)) : (results Tryd.f41 tmps).run Tryd.prog W = .ok (.bool r) W := by
  have hc := hB.cell
  have hp' : tmps[6]?.getD undef = .pointer (some ⟨b, 0, none⟩) := by simpa using hp
  simp [results, hp', asAddr, loadVar, isAgg, run_underlying Tryd.underlying4, go_sem, hc]
/-- What extensions reads: the table and the predecessors. -/
structure FixG (N : Nat) (f : Nat → Nat → Bool) (A : Option Addr) (c : Nat) (W : World) : Prop where
  tbl : Tbl W
  bef : Bef W A c N f
theorem adB (a : Addr) (n : Nat) : (a.add n).block = a.block := by unfold Addr.add; split <;> rfl
theorem befKeep {N : Nat} {f : Nat → Nat → Bool} {A : Option Addr} {c : Nat} {W0 W W' : World} (h0 : Bef W0 A c N f) (h : Bef W A c N f) (hc : Chg W W' (fun q => q < W0.heap.size)) : Bef W' A c N f :=
  ⟨h.le, h.max, fun hp => by
    obtain ⟨ad, e, lt, _⟩ := h0.at_ hp
    obtain ⟨ad', e', lt', hcell⟩ := h.at_ hp
    rw [e] at e'
    injection e' with e'
    subst e'
    exact ⟨ad, e, Nat.lt_of_lt_of_le lt' hc.size, fun j u hu => (World.cell?_of_block (by rw [adB]; exact hc.block _ lt' lt)).trans (hcell j u hu)⟩⟩
theorem tblKeep {W W' : World} (h : Tbl W) (hc : W'.heap[0]? = W.heap[0]?) : Tbl W' := fun j hj => (World.cell?_of_block (by exact hc)).trans (h j hj)
theorem FixG.keep {N : Nat} {f : Nat → Nat → Bool} {A : Option Addr} {c : Nat} {W0 W W' : World} (h0 : FixG N f A c W0) (h : FixG N f A c W) (hc : Chg W W' (fun q => q < W0.heap.size)) : FixG N f A c W' :=
  ⟨tblKeep h.tbl (hc.block _ h.tbl.block h0.tbl.block), befKeep h0.bef h.bef hc⟩
/-- What lies in memory while extensions works: the numbers chosen so far and the variables that the closure sees. -/
structure ExtSt (base be bb yb bx l N : Nat) (A : Option Addr) (c : Nat) (S : Nat → Prop) (t : List Nat) (v : Value) (W : World) : Prop where
  own : OwnI W base v (nI t)
  row : ∀ g, v.ownBlock = some g → S g
  hbe : Boxed W be 25 v
  hbb : Boxed W bb 43 (.slice A N c)
  hyb : Boxed W yb 46 (.func (.yield l) #[] #[])
  hbx : Boxed W bx 73 (.func (.func 41) #[] #[.pointer (some ⟨be, 0, none⟩), .pointer (some ⟨bb, 0, none⟩), .pointer (some ⟨yb, 0, none⟩), .pointer (some ⟨bx, 0, none⟩)])
  inS : S be ∧ S bb ∧ S yb ∧ S bx
  low : ∀ q, S q → base ≤ q
section
variable {base be bb yb bx l N : Nat} {A : Option Addr} {c : Nat} {S S' : Nat → Prop} {t : List Nat} {v : Value} {W W' : World}
theorem ExtSt.chg (h : ExtSt base be bb yb bx l N A c S t v W) {F : Nat → Prop} (hc : Chg W W' F) (h1 : F be) (h2 : F bb) (h3 : F yb) (h4 : F bx) (h5 : ∀ g, v.ownBlock = some g → F g) : ExtSt base be bb yb bx l N A c S t v W' :=
  ⟨ownChg h.own hc h5, h.row, (hc.block _ h.hbe.lt h1).trans h.hbe, (hc.block _ h.hbb.lt h2).trans h.hbb, (hc.block _ h.hyb.lt h3).trans h.hyb, (hc.block _ h.hbx.lt h4).trans h.hbx, h.inS, h.low⟩
theorem ExtSt.grow (h : ExtSt base be bb yb bx l N A c S t v W) (hs : ∀ q, S q → S' q) (hb : ∀ q, S' q → base ≤ q) : ExtSt base be bb yb bx l N A c S' t v W :=
  ⟨h.own, fun g hg => hs g (h.row g hg), h.hbe, h.hbb, h.hyb, h.hbx, ⟨hs _ h.inS.1, hs _ h.inS.2.1, hs _ h.inS.2.2.1, hs _ h.inS.2.2.2⟩, hb⟩
theorem ExtSt.all (h : ExtSt base be bb yb bx l N A c S t v W) (hc : Chg W W' S) : ExtSt base be bb yb bx l N A c S t v W' := h.chg hc h.inS.1 h.inS.2.1 h.inS.2.2.1 h.inS.2.2.2 h.row
end
/-- What one call of the closure leaves. -/
structure ExtOut (base be bb yb bx l N : Nat) (f : Nat → Nat → Bool) (A : Option Addr) (c : Nat) (S : Nat → Prop) (v : Value) (W W' : World) : Prop where
  fix : FixG N f A c W'
  keeps : KeepsFrom base W W'
  same : ∀ q, q < W.heap.size → S q → q ≠ be → v.ownBlock ≠ some q → W'.heap[q]? = W.heap[q]?
/-- The closure's contract, by how many numbers are still to come. -/
def ExtSaid (base be bb yb bx l N : Nat) (f : Nat → Nat → Bool) (A : Option Addr) (c : Nat) (L : List (List Nat)) (J Jx : List (List Nat) → (Nat → Prop) → World → Prop) (k : Nat) : Prop :=
  ∀ (s : Nat) (t : List Nat) (pre post : List (List Nat)) (S : Nat → Prop) (v : Value) (W : World), t.length + k = N → s < B64 → ExtSt base be bb yb bx l N A c S t v W → J pre S W → FixG N f A c W → base ≤ W.heap.size →
    L = pre ++ ((exts N f k s).map fun x => t ++ x) ++ post →
    Calls Tryd.prog 41 #[.int .u64 s, .pointer (some ⟨be, 0, none⟩), .pointer (some ⟨bb, 0, none⟩), .pointer (some ⟨yb, 0, none⟩), .pointer (some ⟨bx, 0, none⟩)] W fun e W' =>
      ExtOut base be bb yb bx l N f A c S v W W' ∧
      ((e = .returned (.bool true) ∧ ∃ S' v', (∀ q, S q → S' q) ∧ ExtSt base be bb yb bx l N A c S' t v' W' ∧ J (pre ++ (exts N f k s).map fun x => t ++ x) S' W' ∧ ∀ g, v'.ownBlock = some g → v.ownBlock = some g ∨ W.heap.size ≤ g) ∨
       (e = .returned (.bool false) ∧ ∃ S' pre', (∀ q, S q → S' q) ∧ Jx pre' S' W'))
/-- What yield owes. -/
def YieldOk (base l N : Nat) (f : Nat → Nat → Bool) (A : Option Addr) (c : Nat) (L : List (List Nat)) (J Jx : List (List Nat) → (Nat → Prop) → World → Prop) : Prop :=
  ∀ (pre : List (List Nat)) (x : List Nat) (post : List (List Nat)) (S : Nat → Prop) (v : Value) (W1 : World), L = pre ++ x :: post → J pre S W1 → FixG N f A c W1 → OwnI W1 base v (nI x) → (∀ q, S q → base ≤ q) →
    YieldAt Fence.wide 0 Tryd.prog l #[v] W1 fun e W' => (FixG N f A c W' ∧ Chg W1 W' S ∧ KeepsFrom base W1 W') ∧ ((e = .returned (.bool true) ∧ J (pre ++ [x]) S W') ∨ (e = .returned (.bool false) ∧ Jx (pre ++ [x]) S W'))
section
variable {base be bb yb bx l N : Nat} {f : Nat → Nat → Bool} {A : Option Addr} {c : Nat} {L : List (List Nat)} {J Jx : List (List Nat) → (Nat → Prop) → World → Prop}
set_option maxRecDepth 100000 in
set_option maxHeartbeats 2000000 in
theorem extLeaf {W0 : World} (h0 : FixG N f A c W0) (hW0 : W0.heap.size = base) (hJ : ∀ p, AbidesS base (J p)) (hJx : ∀ p, AbidesS base (Jx p)) (hY : YieldOk base l N f A c L J Jx) : ExtSaid base be bb yb bx l N f A c L J Jx 0 := by
  intro s t pre post S v W ht hs hst hj hg hb hL
  obtain ⟨D, d, rfl, hrd, _⟩ := hst.own.rd
  refine (callsIn_wide (n := 8)).1 ?_
  refine callsIn_of_wp_marks Tryd.func41 rfl trivial ?_ rfl
  simp only [Tryd.ntmps41, List.size_toArray, List.length_cons, List.length_nil, Nat.reduceAdd, Nat.reduceSub, Array.replicate_succ, Array.replicate_zero, List.push_toArray, List.append_toArray, List.nil_append, List.cons_append]
  obtain ⟨V, hV⟩ : ∃ V, (W.alloc (.cells #[.int .u64 s] 51)).alloc (.cells #[.bool false] 4) = V := ⟨_, rfl⟩
  have hzV : V.heap.size = W.heap.size + 2 := by rw [← hV]; simp
  have hbV : Below W.heap.size W V := by rw [← hV]; exact (belowAlloc W _).alloc (by simp) _
  have cV : ∀ F, Chg W V F := fun F => Chg.ofBelow hbV F
  have b1 : Boxed V (W.heap.size + 1) 4 (.bool false) := by rw [← hV]; have h := Boxed.new (W.alloc (.cells #[.int .u64 s] 51)) 4 (.bool false); rwa [World.size_alloc] at h
  have HSV := Lib.hid (hst.all (cV _))
  have HB1 := Lib.hid b1
  have k1 := HSV.out.hbe.cell
  have k2 := HSV.out.hbb.cell
  have k3 := HSV.out.hyb.cell
  have k6 := b1.cell
  have hlenD : (nI t).length = N := by unfold nI; rw [List.length_map]; omega
  rw [hlenD] at k1
  have hjV := hJ pre S W V hj (cV _)
  have hgV := h0.keep hg (cV _)
  have hlow : ∀ q, joinS S W V q → base ≤ q := fun q hq => hq.elim (hst.low q) fun h => by omega
  have hyq := yieldWide (m' := 7) (hY pre t post (joinS S W V) (.slice D (nI t).length d) V (by rw [hL, exts]; simp) hjV hgV HSV.out.own hlow)
  obtain ⟨fn, tmps, assign, body, hy, hR⟩ := hyq
  rw [hlenD] at hy
  have HR := Lib.hid hR
  have hlowV : ∀ q, S q → base ≤ q := hst.low
  have HSG := Lib.hid (HSV.out.grow (S' := joinS S W V) (fun q h => .inl h) hlow)
  have hmem : joinS S W V (W.heap.size + 1) := .inr ⟨by omega, by omega⟩
  have HST := Lib.hid hst
  clear hR hj hjV hgV hrd b1 hL hst
  gi_wp2_with fail
  refine HR.out.mono ?_
  rintro e W2 ⟨⟨hg2, hc2, hk2⟩, hres⟩
  have hne : ∀ q, joinS S W V q → q < V.heap.size → W2.heap[q]? = V.heap[q]? := fun q h hq => hc2.block q hq h
  have B2 : Boxed W2 (W.heap.size + 1) 4 (.bool false) := (hc2.block _ (by omega) hmem).trans HB1.out
  have hz2 := hc2.size
  -- the box of the result is stored
  have hstep : ∀ r, ∃ W3, W2.setCell ⟨W.heap.size + 1, 0, none⟩ (.bool r) = W3 ∧ Boxed W3 (W.heap.size + 1) 4 (.bool r) ∧ ExtOut base be bb yb bx l N f A c S (.slice D (nI t).length d) W W3 ∧ Chg W2 W3 (fun q => ¬ joinS S W V q ∧ ¬ NC W2 base q) ∧ W3.heap.size = W2.heap.size ∧ Chg W2 W3 (fun q => q ≠ W.heap.size + 1) := fun r => by
    have c3 : Chg W2 (W2.setCell ⟨W.heap.size + 1, 0, none⟩ (.bool r)) (fun q => q ≠ W.heap.size + 1) := Chg.setCell W2 ⟨W.heap.size + 1, 0, none⟩ (.bool r)
    refine ⟨_, rfl, B2.set _, ⟨h0.keep hg2 (c3.mono fun q h => by omega), ⟨by have := c3.size; omega, fun k o hk ho hoc => ?_⟩, fun q hq hs _ _ => ?_⟩, c3.mono fun q h e => h.1 (e ▸ hmem), by simp, c3⟩
    · have hlt := (Array.getElem?_eq_some_iff.1 ho).1
      exact (c3.block k (by omega) (by omega)).trans (hk2.same k o hk ((hbV.block k hlt).trans ho) hoc)
    · exact (c3.block q (by omega) (by omega)).trans ((hne q (.inl hs) (by omega)).trans (hbV.block q hq))
  rcases hres with ⟨rfl, hj2⟩ | ⟨rfl, hj2⟩
  · obtain ⟨W3, hW3, B3, hout, hcj, hz3, hc3⟩ := hstep true
    have k7 := B2.frozen
    have k8 := B2.cell
    have k9 := B3.cell
    have HO := Lib.hid hout
    have HJ3 : Hid (J (pre ++ (exts N f 0 s).map fun x => t ++ x) (joinS S W V) W3) := by
      have h := hJ _ _ _ _ hj2 hcj
      rw [joinS_same hz3] at h
      rw [exts]
      simpa using Lib.hid h
    have HS3 := Lib.hid ((HSG.out.all hc2).chg hc3 (by have := HST.out.hbe.lt; omega) (by have := HST.out.hbb.lt; omega) (by have := HST.out.hyb.lt; omega) (by have := HST.out.hbx.lt; omega) (fun g hg => by have := (World.ownsRow.lt HST.out.own g hg).2; omega))
    gi_wp2
    exact ⟨_, resExt rfl B3, HO.out, .inl ⟨rfl, _, _, fun q h => .inl h, HS3.out, HJ3.out, fun g h => .inl h⟩⟩
  · obtain ⟨W3, hW3, B3, hout, hcj, hz3, hc3⟩ := hstep false
    have k7 := B2.frozen
    have k8 := B2.cell
    have HO := Lib.hid hout
    have HJ3 : Hid (Jx (pre ++ [t]) (joinS S W V) W3) := by
      have h := hJx _ _ _ _ hj2 hcj
      rw [joinS_same hz3] at h
      exact Lib.hid h
    gi_wp2
    exact ⟨_, resExt rfl B3, HO.out, .inr ⟨rfl, _, _, fun q h => .inl h, HJ3.out⟩⟩
/-- What lies in memory between two rounds of the closure's range. -/
structure ExtIn (base be bb yb bx l N : Nat) (f : Nat → Nat → Bool) (A : Option Addr) (c s : Nat) (S S' : Nat → Prop) (t : List Nat) (v v' : Value) (W W' : World) : Prop where
  sub : ∀ q, S q → S' q
  st : ExtSt base be bb yb bx l N A c S' t v' W'
  fix : FixG N f A c W'
  bd : Boxed W' W.heap.size 51 (.int .u64 s)
  br : Boxed W' (W.heap.size + 1) 4 (.bool false)
  inS : S' W.heap.size ∧ S' (W.heap.size + 1)
  same : ∀ q, q < W.heap.size → S q → q ≠ be → v.ownBlock ≠ some q → W'.heap[q]? = W.heap[q]?
  moved : ∀ g, v'.ownBlock = some g → v.ownBlock = some g ∨ W.heap.size + 2 ≤ g
  keeps : KeepsFrom base W W'
  size : W.heap.size + 2 ≤ W'.heap.size
theorem ExtIn.quiet {s : Nat} {S S' : Nat → Prop} {t : List Nat} {v v' : Value} {W0 W X Y : World} (h0 : FixG N f A c W0) (hW0 : W0.heap.size = base) (hW : base ≤ W.heap.size) (hst : ExtSt base be bb yb bx l N A c S t v W)
    (h : ExtIn base be bb yb bx l N f A c s S S' t v v' W X) {F : Nat → Prop} (hc : Chg X Y F) (h1 : ∀ q, q < W.heap.size + 2 → F q) (h2 : ∀ g, v'.ownBlock = some g → F g) :
    ExtIn base be bb yb bx l N f A c s S (joinS S' X Y) t v v' W Y :=
  ⟨fun q hq => .inl (h.sub q hq), (h.st.chg hc (h1 _ (by have := hst.hbe.lt; omega)) (h1 _ (by have := hst.hbb.lt; omega)) (h1 _ (by have := hst.hyb.lt; omega)) (h1 _ (by have := hst.hbx.lt; omega)) h2).grow (fun q hq => .inl hq) (fun q hq => hq.elim (h.st.low q) fun hh => by have := h.size; omega),
    h0.keep h.fix (hc.mono fun q hq => h1 q (by omega)), (hc.block _ h.bd.lt (h1 _ (by omega))).trans h.bd, (hc.block _ h.br.lt (h1 _ (by omega))).trans h.br, ⟨.inl h.inS.1, .inl h.inS.2⟩,
    fun q hq hs hne hv => (hc.block q (by have := h.size; omega) (h1 q (by omega))).trans (h.same q hq hs hne hv), h.moved,
    ⟨by have := h.keeps.size; have := hc.size; omega, fun k o hk ho hoc => by
      have hlt := (Array.getElem?_eq_some_iff.1 ho).1
      exact (hc.block k (by have := h.size; omega) (h1 k (by omega))).trans (h.keeps.same k o hk ho hoc)⟩, Nat.le_trans h.size hc.size⟩
/-- The extensions that begin with t and a. -/
def blk (N : Nat) (f : Nat → Nat → Bool) (k s : Nat) (t : List Nat) (a : Nat) : List (List Nat) := (exts N f k (addS s a)).map fun x => (t ++ [a]) ++ x
theorem blkAll {k s : Nat} {t : List Nat} : ((exts N f (k + 1) s).map fun x => t ++ x) = (nxtL N f s).flatMap (blk N f k s t) := by
  rw [exts, List.map_flatMap]
  congr 1
  funext a
  unfold blk
  rw [List.map_map]
  congr 1
  funext x
  simp
theorem wpListIn_app' {F : Fence} {n : Nat} {P : Program} (w : World) {ops : Array Oper} {rest : List Oper} {o : Oper} {a : Act} {Q : Exit → Act → World → Prop} (hgd : o.guard = none) (s x : Operand) (t : TypeId)
    (ho : o.op = .call { callee := .builtin .append, args := #[s, x], argTypes := #[t, t] }) {v' vx v2 : Value} {w2 : World} (hs : a.eval s = v') (hx : a.eval x = vx)
    (hrun : (Builtin.append_ #[t, t] o.type #[v', vx]).run P w = .ok v2 w2) (h : wpListIn F n P ops Q rest (a.put o.dst v2) w2) : wpListIn F n P ops Q (o :: rest) a w := by
  refine wpListIn_plain hgd fun K hK => ?_
  unfold Oper.wpIn
  refine ⟨?_, ?_⟩
  · simp [Oper.about, ho, resolve, Target.leads]
  · rw [Oper.semAt_plain F _ _ (by rw [ho]; intro c hc'; cases hc')]
    unfold execOp
    simp only [ho, resolve, invoke, builtin, Sem.run_bind, Sem.run_pure, Result.andThen_ok, List.map_toArray, List.map_cons, List.map_nil, hs, hx, hrun]
    exact hK _ _ h
theorem boxNe {W : World} {a b : Nat} {T T' : TypeId} {v v' : Value} (h : Boxed W a T v) (h' : Boxed W b T' v') (hne : T ≠ T') : a ≠ b := fun e => by
  subst e
  have h2 : some (Obj.cells #[v] T (0, 0)) = some (Obj.cells #[v'] T' (0, 0)) := h.symm.trans h'
  injection h2 with h2
  injection h2 with _ h3
  exact hne h3
theorem ExtOut.quiet {S : Nat → Prop} {v : Value} {W0 W X Y : World} (h0 : FixG N f A c W0) (hW0 : W0.heap.size = base) (hW : base ≤ W.heap.size) (h : ExtOut base be bb yb bx l N f A c S v W X) {F : Nat → Prop} (hc : Chg X Y F) (h1 : ∀ q, q < W.heap.size → F q) : ExtOut base be bb yb bx l N f A c S v W Y :=
  ⟨h0.keep h.fix (hc.mono fun q hq => h1 q (by omega)), ⟨by have := h.keeps.size; have := hc.size; omega, fun k o hk ho hoc => by
      have hlt := (Array.getElem?_eq_some_iff.1 ho).1
      exact (hc.block k (by have := h.keeps.size; omega) (h1 k hlt)).trans (h.keeps.same k o hk ho hoc)⟩,
    fun q hq hs hne hv => (hc.block q (by have := h.keeps.size; omega) (h1 q hq)).trans (h.same q hq hs hne hv)⟩
theorem ownCells {W : World} {b n : Nat} {v : Value} {xs : List Value} {g : Nat} {e : TypeId} (h : W.ownsRow b e 1 v n xs) (hg : v.ownBlock = some g) : ∃ o : Obj, W.heap[g]? = some o ∧ o.isCells = true := by
  rcases h.2 with ⟨rfl, _⟩ | ⟨k, cap, cur, rfl, _, hk, _⟩
  · simp [Value.ownBlock] at hg
  · obtain rfl : k = g := by simpa [Value.ownBlock] using hg
    exact ⟨_, hk, rfl⟩
set_option maxRecDepth 100000 in
set_option maxHeartbeats 2000000 in
theorem extStep (hN : N ≤ 64) {W0 : World} (h0 : FixG N f A c W0) (hW0 : W0.heap.size = base) (hJ : ∀ p, AbidesS base (J p)) (hJx : ∀ p, AbidesS base (Jx p)) {k : Nat} (ih : ExtSaid base be bb yb bx l N f A c L J Jx k) : ExtSaid base be bb yb bx l N f A c L J Jx (k + 1) := by
  intro s t pre post S v W ht hs hst hj hg hb hL
  obtain ⟨D, d, hv, hrd, _⟩ := hst.own.rd
  refine (callsIn_wide (n := 8)).1 ?_
  refine callsIn_of_wp_marks Tryd.func41 rfl trivial ?_ rfl
  simp only [Tryd.ntmps41, List.size_toArray, List.length_cons, List.length_nil, Nat.reduceAdd, Nat.reduceSub, Array.replicate_succ, Array.replicate_zero, List.push_toArray, List.append_toArray, List.nil_append, List.cons_append]
  obtain ⟨V, hV⟩ : ∃ V, (W.alloc (.cells #[.int .u64 s] 51)).alloc (.cells #[.bool false] 4) = V := ⟨_, rfl⟩
  have hzV : V.heap.size = W.heap.size + 2 := by rw [← hV]; simp
  have hbV : Below W.heap.size W V := by rw [← hV]; exact (belowAlloc W _).alloc (by simp) _
  have cV : ∀ F, Chg W V F := fun F => Chg.ofBelow hbV F
  have b0 : Boxed V W.heap.size 51 (.int .u64 s) := by rw [← hV]; exact (Boxed.new W _ _).alloc _
  have b1 : Boxed V (W.heap.size + 1) 4 (.bool false) := by rw [← hV]; have h := Boxed.new (W.alloc (.cells #[.int .u64 s] 51)) 4 (.bool false); rwa [World.size_alloc] at h
  have hlow : ∀ q, joinS S W V q → base ≤ q := fun q hq => hq.elim (hst.low q) fun h => by omega
  have HIV : Hid (ExtIn base be bb yb bx l N f A c s S (joinS S W V) t v v W V) := Lib.hid ⟨fun q h => .inl h, (hst.all (cV _)).grow (fun q h => .inl h) hlow, h0.keep hg (cV _), b0, b1, ⟨.inr ⟨by omega, by omega⟩, .inr ⟨by omega, by omega⟩⟩, fun q hq _ _ _ => hbV.block q hq, fun g h => .inl h, ⟨hbV.size, fun k o _ ho _ => (hbV.block k (Array.getElem?_eq_some_iff.1 ho).1).trans ho⟩, by omega⟩
  have hjV := hJ pre S W V hj (cV _)
  have HJV := Lib.hid hjV
  have HST := Lib.hid hst
  have k0 := b0.cell
  have k1 := HIV.out.st.hbe.cell
  have k2 := HIV.out.st.hbb.cell
  have hlenD : (nI t).length = t.length := by unfold nI; rw [List.length_map]
  rw [hv, hlenD] at k1
  obtain ⟨m, hm⟩ : ∃ m, t.length = m := ⟨_, rfl⟩
  rw [hm] at k1 ht hlenD
  have hmN : ((m : Int) == (N : Int)) = false := by simp; omega
  have HNX := Lib.hid (iNext N hN f A c s V HIV.out.fix.bef HIV.out.fix.tbl)
  have HL := Lib.hid hL
  clear hrd b0 b1 hL hst hj hjV
  gi_wp2_with fail
  refine ⟨trivial, (callsIn_wide.2 HNX.out).mono ?_⟩
  rintro e W2 ⟨rfl, hb2⟩
  have c2 : ∀ F, Chg V W2 F := fun F => Chg.ofBelow hb2 F
  have HI2 := Lib.hid (HIV.out.quiet h0 hW0 hb HST.out (c2 fun _ => True) (fun _ _ => trivial) (fun _ _ => trivial))
  have HJ2 := Lib.hid (hJ _ _ _ _ HJV.out (c2 _))
  have hseq := numsB 7 (by omega) (nxtS N f s) (nxtSLt hN f s) W2 HI2.out.fix.tbl
  rw [nxtSBits hN] at hseq
  have hz2 := hb2.size
  have HSQ := Lib.hid hseq
  clear hseq
  gi_wp2
  refine rangeBound (F := Fence.wide) (n := 8) rfl (by omega) (gf := 19) (bd := #[.int .u64 (nxtS N f s)]) rfl trivial enters47 HSQ.out (fun h k hT => k (h hT)) keepT_b (Below.refl _ _) (fun _ => rfl)
    (fun ps W' => ∃ S' v', ExtIn base be bb yb bx l N f A c s S S' t v v' W W' ∧ J (pre ++ ps.flatMap (blk N f k s t)) S' W')
    (fun cd _ W' => cd = .ret ∧ ∃ S' pre', (∀ q, S q → S' q) ∧ S' (W.heap.size + 1) ∧ Jx pre' S' W' ∧ ExtOut base be bb yb bx l N f A c S v W W' ∧ Boxed W' (W.heap.size + 1) 4 (.bool false))
    ?hI ?hIx ⟨_, _, HI2.out, by simpa using HJ2.out⟩
    (fun x => { tmps := #[.int .u64 s, .pointer (some ⟨be, 0, none⟩), .pointer (some ⟨bb, 0, none⟩), .pointer (some ⟨yb, 0, none⟩), .pointer (some ⟨bx, 0, none⟩), .pointer (some ⟨W.heap.size, 0, none⟩), .pointer (some ⟨W.heap.size + 1, 0, none⟩), .int .i64 x, .slice D m d, .int .i64 m, .slice A N c, .int .i64 N, .bool false, undef, undef, undef, .slice A N c, .int .u64 s, .int .u64 (nxtS N f s), .func (.func 19) #[.int .u64 (nxtS N f s)] #[], .int .i64 x, undef, undef, undef, undef, undef, undef, undef, undef, undef, undef, undef, undef, undef, undef, undef], defers := [] }) ?assign ?body ?done ?stop
  case hI =>
    rintro ps X Y row ⟨S', v', h1, h2⟩ hgr hr
    have hc : Chg X Y (fun q => row ≠ some q) := Chg.ofGrown hgr fun _ h => h
    refine ⟨joinS S' X Y, v', h1.quiet h0 hW0 hb HST.out hc (fun q hq e => by have := (hr q e).1; omega) (fun g hg e => ?_), hJ _ _ _ _ h2 (hc.mono fun q hq e => hq.2 ⟨by have := (hr q e).1; omega, (hr q e).2⟩)⟩
    obtain ⟨o, ho, hoc⟩ := (hr g e).2
    obtain ⟨o', ho', hoc'⟩ := ownCells h1.st.own hg
    rw [ho] at ho'; cases ho'; rw [hoc] at hoc'; cases hoc'
  case hIx =>
    rintro cd ps X Y row ⟨rfl, S', pre', h1, h2, h3, h4, h5⟩ hgr hr
    have hc : Chg X Y (fun q => row ≠ some q) := Chg.ofGrown hgr fun _ h => h
    have hlt := h5.lt
    exact ⟨rfl, joinS S' X Y, pre', fun q hq => .inl (h1 q hq), .inl h2, hJx _ _ _ _ h3 (hc.mono fun q hq e => hq.2 ⟨by have := (hr q e).1; omega, (hr q e).2⟩), h4.quiet h0 hW0 hb hc (fun q hq e => by have := (hr q e).1; omega), (hc.block _ hlt (fun e => by have := (hr _ e).1; omega)).trans h5⟩
  case assign =>
    intro lr x X K hK
    gi_wp2
    exact hK
  case body =>
    rintro lr ps x rest U hLL ⟨S', v', h1, h2⟩
    obtain ⟨hxN, hxc⟩ := nxtMem.1 (show x ∈ nxtL N f s by rw [hLL]; simp)
    obtain ⟨i0, hi, hq0, hq1, hq2⟩ := info_parts infoInt
    have hl1 : (nI t).length = m := hlenD
    have hUb : base ≤ U.heap.size := by have := h1.size; omega
    have hownU : U.ownsRow base 3 1 v' m (iv (nI t)) := by have h := h1.st.own; unfold OwnI at h; rwa [hl1] at h
    obtain ⟨v2, w2, hrun, o2, _, g2, mv⟩ := runApp (P := Tryd.prog) (U.alloc (.cells #[.int .i64 x] 3)) base 25 25 3 i0 _ 8 Tryd.underlying25 hi hq0 hq1 hq2 rfl v' m (iv (nI t)) (World.ownsRow.alloc hownU _) (some ⟨U.heap.size, 0, none⟩) 1 1 (iv [(x : Int)]) rfl (litI U x) (ivOne _) (by omega) (by unfold maxLen; omega) (by simp; omega)
    obtain ⟨gr, cap, rfl⟩ : ∃ gr cap, v2 = .slice (some ⟨gr, 0, none⟩) (m + 1) cap := by
      rcases o2.2 with ⟨_, h⟩ | ⟨gr, cap, cur, h, _⟩
      · omega
      · exact ⟨gr, cap, h⟩
    obtain ⟨q1, q2, q3, q4, q5⟩ := Boxed.appended (tmp := .cells #[.int .i64 x] 3) h1.st.hbe (by decide) hownU hUb (h1.st.low _ h1.st.inS.1) o2 g2
    obtain ⟨Z, hZ⟩ : ∃ Z, w2.setCell ⟨be, 0, none⟩ (.slice (some ⟨gr, 0, none⟩) (m + 1) cap) = Z := ⟨_, rfl⟩
    have cZ : Chg U Z (fun q => q ≠ be ∧ v'.ownBlock ≠ some q) := by
      rw [← hZ]
      exact ((Chg.alloc U (.cells #[.int .i64 x] 3) _).trans (Chg.ofGrown g2 (F := fun q => q ≠ be ∧ v'.ownBlock ≠ some q) fun _ h => h.2) fun _ _ h => h).trans ((Chg.setCell w2 ⟨be, 0, none⟩ (.slice (some ⟨gr, 0, none⟩) (m + 1) cap)).mono (G := fun q => q ≠ be ∧ v'.ownBlock ≠ some q) fun _ h => h.1) fun _ _ h => h
    rw [hZ] at q2 q3 q4 q5
    have fbb := cZ.block _ h1.st.hbb.lt ⟨boxNe h1.st.hbb h1.st.hbe (by decide), fun e => h1.st.hbb.not_row (by decide) h1.st.own e.symm⟩
    have fyb := cZ.block _ h1.st.hyb.lt ⟨boxNe h1.st.hyb h1.st.hbe (by decide), fun e => h1.st.hyb.not_row (by decide) h1.st.own e.symm⟩
    have fbx := cZ.block _ h1.st.hbx.lt ⟨boxNe h1.st.hbx h1.st.hbe (by decide), fun e => h1.st.hbx.not_row (by decide) h1.st.own e.symm⟩
    have fbd := cZ.block _ h1.bd.lt ⟨boxNe h1.bd h1.st.hbe (by decide), fun e => h1.bd.not_row (by decide) h1.st.own e.symm⟩
    have fbr := cZ.block _ h1.br.lt ⟨boxNe h1.br h1.st.hbe (by decide), fun e => h1.br.not_row (by decide) h1.st.own e.symm⟩
    have hzZ := cZ.size
    have hrow2 : ∀ g, (Value.slice (some ⟨gr, 0, none⟩) (m + 1) cap).ownBlock = some g → v'.ownBlock = some g ∨ U.heap.size ≤ g := fun g hg2 => by
      rcases mv with ⟨g0, cap, e1, e2⟩ | h | ⟨_, h⟩
      · left; rw [e1]; injection e2 with e2; rw [e2] at hg2; exact hg2
      · right; rw [h] at hg2; injection hg2 with hg2; rw [World.size_alloc] at hg2; omega
      · exact absurd h (by decide)
    have hlowZ : ∀ q, joinS S' U Z q → base ≤ q := fun q hq => hq.elim (h1.st.low q) fun h => by omega
    have e1 : nI (t ++ [x]) = nI t ++ [(x : Int)] := by unfold nI; rw [List.map_append]; rfl
    have stZ : ExtSt base be bb yb bx l N A c (joinS S' U Z) (t ++ [x]) (.slice (some ⟨gr, 0, none⟩) (m + 1) cap) Z := ⟨by
        unfold OwnI
        rw [e1, List.length_append, hl1]
        have : iv (nI t ++ [(x : Int)]) = iv (nI t) ++ iv [(x : Int)] := by unfold iv; rw [List.map_append]
        rw [this]
        exact q3, fun g hg2 => (hrow2 g hg2).elim (fun h => .inl (h1.st.row g h)) fun h => .inr ⟨h, (World.ownsRow.lt q3 g hg2).2⟩, q2, fbb.trans h1.st.hbb, fyb.trans h1.st.hyb, fbx.trans h1.st.hbx, ⟨.inl h1.st.inS.1, .inl h1.st.inS.2.1, .inl h1.st.inS.2.2.1, .inl h1.st.inS.2.2.2⟩, hlowZ⟩
    have fixZ := h0.keep h1.fix (cZ.mono (G := fun q => q < W0.heap.size) fun q hq => ⟨fun e => by have := h1.st.low _ h1.st.inS.1; omega, fun e => by have := h1.st.low _ (h1.st.row q e); omega⟩)
    have jZ := hJ _ _ _ _ h2 (cZ.mono (G := fun q => ¬ S' q ∧ ¬ NC U base q) fun q hq => ⟨fun e => hq.1 (e ▸ h1.st.inS.1), fun e => hq.1 (h1.st.row q e)⟩)
    have jD := hJ _ _ _ _ jZ (Chg.drewN Z 1 _)
    rw [joinS_same (by rfl)] at jD
    have HIH := Lib.hid (ih (addS s x) (t ++ [x]) (pre ++ ps.flatMap (blk N f k s t)) (rest.flatMap (blk N f k s t) ++ post) (joinS S' U Z) (.slice (some ⟨gr, 0, none⟩) (m + 1) cap) Z.drew (by rw [List.length_append, List.length_singleton, hm]; omega) (addLt hs (by omega)) (stZ.chg (F := fun _ => True) (Chg.drewN Z 1 _) trivial trivial trivial trivial fun _ _ => trivial) jD (h0.keep fixZ (Chg.drewN Z 1 _)) (by show base ≤ Z.heap.size; omega) (by rw [HL.out, blkAll, hLL, List.flatMap_append, List.flatMap_cons]; simp [blk, List.append_assoc]))
    have HW := Lib.hid (fun w' => iWith s x hs (by omega) w')
    have kb := h1.st.hbe.cell
    have kb2 := q1.cell
    have kf2 := q1.frozen
    have kx := stZ.hbx.cell
    have kd : Z.cell? ⟨W.heap.size, 0, none⟩ = some (.int .u64 s) := Boxed.cell (fbd.trans h1.bd)
    have hbU : (U.alloc (.cells #[.int .i64 x] 3)).cell? ⟨be, 0, none⟩ = some v' := (h1.st.hbe.alloc _).cell
    have hv2 : ∀ q, (Value.slice (some ⟨gr, 0, none⟩) (m + 1) cap).ownBlock = some q → v.ownBlock = some q ∨ W.heap.size + 2 ≤ q := fun q hq => (hrow2 q hq).elim (h1.moved q) fun h => .inr (by have := h1.size; omega)
    have hvW : ∀ q, v.ownBlock = some q → q < W.heap.size := fun q hq => (World.ownsRow.lt HST.out.own q hq).2
    have hbeW := HST.out.hbe.lt
    have hz1 := h1.size
    have hU4 : ∀ W4, ExtOut base be bb yb bx l N f A c (joinS S' U Z) (.slice (some ⟨gr, 0, none⟩) (m + 1) cap) Z.drew W4 → (∀ q, q < W.heap.size → S q → q ≠ be → v.ownBlock ≠ some q → W4.heap[q]? = W.heap[q]?) ∧ W4.heap[W.heap.size]? = U.heap[W.heap.size]? ∧ W4.heap[W.heap.size + 1]? = U.heap[W.heap.size + 1]? ∧ Z.heap.size ≤ W4.heap.size ∧ KeepsFrom base U W4 := fun W4 ho => by
      have hzs : Z.heap.size ≤ W4.heap.size := ho.keeps.size
      refine ⟨fun q hq hs hne hv => ?_, ?_, ?_, hzs, (q4.from base).trans ⟨ho.keeps.size, ho.keeps.same⟩⟩
      · refine (ho.same q (by show q < Z.heap.size; omega) (.inl (h1.sub q hs)) hne fun e => (hv2 q e).elim hv fun h => by omega).trans ((cZ.block q (by omega) ⟨hne, fun e => (h1.moved q e).elim hv fun h => by omega⟩).trans (h1.same q hq hs hne hv))
      · exact (ho.same _ (by show W.heap.size < Z.heap.size; omega) (.inl h1.inS.1) (by omega) fun e => (hv2 _ e).elim (fun h => by have := hvW _ h; omega) fun h => by omega).trans fbd
      · exact (ho.same _ (by show W.heap.size + 1 < Z.heap.size; omega) (.inl h1.inS.2) (by omega) fun e => (hv2 _ e).elim (fun h => by have := hvW _ h; omega) fun h => by omega).trans fbr
    gi_wp2_with (gi_at_builtin; refine wpListIn_app' _ rfl (.tmp 21) (.tmp 23) 25 rfl rfl rfl hrun ?_)
    rename_i K2 hK2
    have hk : ∀ r W4, ExtOut base be bb yb bx l N f A c (joinS S' U Z) (.slice (some ⟨gr, 0, none⟩) (m + 1) cap) Z.drew W4 → ((r = true ∧ (∃ S4 v4, (∀ q, joinS S' U Z q → S4 q) ∧ ExtSt base be bb yb bx l N A c S4 (t ++ [x]) v4 W4 ∧ J (pre ++ ps.flatMap (blk N f k s t) ++ (exts N f k (addS s x)).map fun y => (t ++ [x]) ++ y) S4 W4 ∧ ∀ g, v4.ownBlock = some g → (Value.slice (some ⟨gr, 0, none⟩) (m + 1) cap).ownBlock = some g ∨ Z.drew.heap.size ≤ g)) ∨ (r = false ∧ (∃ S4 pre4, (∀ q, joinS S' U Z q → S4 q) ∧ Jx pre4 S4 W4))) → K2 { tmps := #[.int .u64 s, .pointer (some ⟨be, 0, none⟩), .pointer (some ⟨bb, 0, none⟩), .pointer (some ⟨yb, 0, none⟩), .pointer (some ⟨bx, 0, none⟩), .pointer (some ⟨W.heap.size, 0, none⟩), .pointer (some ⟨W.heap.size + 1, 0, none⟩), .int .i64 x, .slice D m d, .int .i64 m, .slice A N c, .int .i64 N, .bool false, undef, undef, undef, .slice A N c, .int .u64 s, .int .u64 (nxtS N f s), .func (.func 19) #[.int .u64 (nxtS N f s)] #[], .int .i64 x, v', .int .i64 x, .slice (some ⟨U.heap.size, 0, none⟩) 1 1, .slice (some ⟨gr, 0, none⟩) (m + 1) cap, .func (.func 41) #[] #[.pointer (some ⟨be, 0, none⟩), .pointer (some ⟨bb, 0, none⟩), .pointer (some ⟨yb, 0, none⟩), .pointer (some ⟨bx, 0, none⟩)], .int .u64 s, .int .i64 x, .int .u64 (addS s x), (.bool r), (.bool !r), undef, undef, undef, undef, undef], defers := [] } W4 := fun r W4 ho h => by
      obtain ⟨u1, u2, u3, u4, u5⟩ := hU4 W4 ho
      have HO := Lib.hid ho
      rcases h with ⟨rfl, S4, v4, hsub, st4, j4, mv4⟩ | ⟨rfl, S4, pre4, hsub, j4⟩
      · refine hK2 _ _ ?_
        dsimp only [Bool.not_true]
        obtain ⟨g4, cap4, rfl⟩ : ∃ g4 cap4, v4 = .slice (some ⟨g4, 0, none⟩) (m + 1) cap4 := by
          have h := st4.own
          unfold OwnI at h
          rw [e1, List.length_append, hl1] at h
          rcases h.2 with ⟨_, h⟩ | ⟨gr, cap, cur, h, _⟩
          · exact absurd h (by simp)
          · exact ⟨gr, cap, h⟩
        have k4 := st4.hbe.cell
        have f4 := st4.hbe.frozen
        have hown4 : W4.ownsRow base 3 1 (.slice (some ⟨g4, 0, none⟩) (m + 1) cap4) (m + 1) (iv (nI t) ++ iv [(x : Int)]) := by
          have h := st4.own
          unfold OwnI at h
          rw [e1, List.length_append, hl1] at h
          have : iv (nI t ++ [(x : Int)]) = iv (nI t) ++ iv [(x : Int)] := by unfold iv; rw [List.map_append]
          rw [this] at h
          exact h
        have hcap : m + 1 ≤ cap4 := by
          rcases hown4.2 with ⟨h, _⟩ | ⟨_, _, _, h, _, _, hc, _⟩
          · cases h
          · injection h with _ _ h; omega
        have hmc : cap4 ≤ maxLen := by
          rcases hown4.2 with ⟨h, _⟩ | ⟨_, _, _, h, _, _, _, hc, _⟩
          · cases h
          · injection h with _ _ h; omega
        unfold maxLen at hmc
        have hw1 : IntKind.i64.wrap (((m + 1 : Nat) : Int) - 1) = (m : Int) := by rw [IntKind.wrap_i64]; omega
        have hw2 : IntKind.i64.wrap ((m : Int) + 1 - 1) = (m : Int) := by rw [IntKind.wrap_i64]; omega
        have hi1 : (0 : Int) ≤ (m : Int) := by omega
        have hi2 : (m : Int) ≤ (cap4 : Int) := by omega
        have hi3 : m ≤ cap4 := by omega
        have HFIN := Lib.hid (show KeepsFrom W2.heap.size U (W4.setCell ⟨be, 0, none⟩ (.slice (some ⟨g4, 0, none⟩) m cap4)) ∧ Tbl (W4.setCell ⟨be, 0, none⟩ (.slice (some ⟨g4, 0, none⟩) m cap4)) ∧ ∃ S5 v5, ExtIn base be bb yb bx l N f A c s S S5 t v v5 W (W4.setCell ⟨be, 0, none⟩ (.slice (some ⟨g4, 0, none⟩) m cap4)) ∧ J (pre ++ (ps ++ [x]).flatMap (blk N f k s t)) S5 (W4.setCell ⟨be, 0, none⟩ (.slice (some ⟨g4, 0, none⟩) m cap4)) from by
          have c5 : Chg W4 (W4.setCell ⟨be, 0, none⟩ (.slice (some ⟨g4, 0, none⟩) m cap4)) (fun q => q ≠ be) := Chg.setCell W4 ⟨be, 0, none⟩ _
          have hg4 : g4 ≠ be := fun e => st4.hbe.not_row (by decide) hown4 (by rw [e]; rfl)
          have own5 := ownChg (ownShort hown4 (by unfold iv; rw [List.length_map]; exact hl1)) c5 (fun q hq => by have h : some g4 = some q := hq; injection h with h; rw [← h]; exact hg4)
          have i4 : S4 be := st4.inS.1
          have j5 := hJ _ _ _ _ j4 (c5.mono (G := fun q => ¬ S4 q ∧ ¬ NC W4 base q) fun q hq e => hq.1 (by rw [e]; exact i4))
          rw [joinS_same (by simp)] at j5
          have ko : KeepsFrom base U (W4.setCell ⟨be, 0, none⟩ (.slice (some ⟨g4, 0, none⟩) m cap4)) := u5.trans ((KeepsOthers.setCell W4 _ _).from base)
          have hbase : base ≤ be := h1.st.low _ h1.st.inS.1
          have fix5 := h0.keep HO.out.fix (c5.mono (G := fun q => q < W0.heap.size) fun q hq e => by omega)
          refine ⟨⟨ko.size, fun k o hk ho hoc => ko.same k o (by omega) ho hoc⟩, fix5.tbl, S4, .slice (some ⟨g4, 0, none⟩) m cap4, ⟨fun q hq => hsub q (.inl (h1.sub q hq)), ⟨by unfold OwnI; rw [hl1]; exact own5, fun q hq => st4.row q hq, st4.hbe.set _, st4.hbb.other (boxNe st4.hbb st4.hbe (by decide)) _, st4.hyb.other (boxNe st4.hyb st4.hbe (by decide)) _, st4.hbx.other (boxNe st4.hbx st4.hbe (by decide)) _, st4.inS, st4.low⟩, fix5,
            (c5.block _ (by omega) (by omega)).trans (u2.trans h1.bd), (c5.block _ (by omega) (by omega)).trans (u3.trans h1.br), ⟨hsub _ (.inl h1.inS.1), hsub _ (.inl h1.inS.2)⟩, fun q hq hs hne hv => (c5.block q (by omega) hne).trans (u1 q hq hs hne hv), fun q hq => ?_, h1.keeps.trans ko, by have := c5.size; omega⟩, ?_⟩
          · rcases mv4 q hq with h | h
            · exact hv2 q h
            · right
              have h : Z.heap.size ≤ q := h
              omega
          · rw [List.flatMap_append, List.flatMap_cons, List.flatMap_nil, List.append_nil, ← List.append_assoc]
            exact j5)
        gi_wp2
        exact ⟨HFIN.out.1, fun _ => HFIN.out.2.1, HFIN.out.2.2⟩
      · refine hK2 _ _ ?_
        dsimp only [Bool.not_false]
        have B4 : Boxed W4 (W.heap.size + 1) 4 (.bool false) := u3.trans h1.br
        have k4 := B4.cell
        have f4 := B4.frozen
        have HFIN := Lib.hid (show KeepsFrom W2.heap.size U (W4.setCell ⟨W.heap.size + 1, 0, none⟩ (.bool false)) ∧ ∃ S4 pre4, (∀ q, S q → S4 q) ∧ S4 (W.heap.size + 1) ∧ Jx pre4 S4 (W4.setCell ⟨W.heap.size + 1, 0, none⟩ (.bool false)) ∧ ExtOut base be bb yb bx l N f A c S v W (W4.setCell ⟨W.heap.size + 1, 0, none⟩ (.bool false)) ∧ Boxed (W4.setCell ⟨W.heap.size + 1, 0, none⟩ (.bool false)) (W.heap.size + 1) 4 (.bool false) from by
          have c5 := Chg.setCell W4 ⟨W.heap.size + 1, 0, none⟩ (.bool false)
          have i4 : S4 (W.heap.size + 1) := hsub _ (.inl h1.inS.2)
          have j5 := hJx _ _ _ _ j4 (c5.mono (G := fun q => ¬ S4 q ∧ ¬ NC W4 base q) fun q hq e => hq.1 (by rw [e]; exact i4))
          rw [joinS_same (by simp)] at j5
          have ko : KeepsFrom base U (W4.setCell ⟨W.heap.size + 1, 0, none⟩ (.bool false)) := u5.trans ((KeepsOthers.setCell W4 _ _).from base)
          refine ⟨⟨ko.size, fun k o hk ho hoc => ko.same k o (by omega) ho hoc⟩, S4, pre4, fun q hq => hsub q (.inl (h1.sub q hq)), i4, j5, ⟨h0.keep HO.out.fix (c5.mono fun q hq e => by have h : q = W.heap.size + 1 := e; omega), h1.keeps.trans ko, fun q hq hs hne hv => (c5.block q (by omega) (fun e => by have h : q = W.heap.size + 1 := e; omega)).trans (u1 q hq hs hne hv)⟩, B4.set _⟩)
        gi_wp2
        exact ⟨HFIN.out.1, rfl, HFIN.out.2⟩
    have HIH2 : Hid (Calls Tryd.prog 41 #[.int .u64 (addS s x), .pointer (some ⟨be, 0, none⟩), .pointer (some ⟨bb, 0, none⟩), .pointer (some ⟨yb, 0, none⟩), .pointer (some ⟨bx, 0, none⟩)] Z.drew fun e W4 => ∃ r, e = .returned (.bool r) ∧ ExtOut base be bb yb bx l N f A c (joinS S' U Z) (.slice (some ⟨gr, 0, none⟩) (m + 1) cap) Z.drew W4 ∧ ((r = true ∧ (∃ S4 v4, (∀ q, joinS S' U Z q → S4 q) ∧ ExtSt base be bb yb bx l N A c S4 (t ++ [x]) v4 W4 ∧ J (pre ++ ps.flatMap (blk N f k s t) ++ (exts N f k (addS s x)).map fun y => (t ++ [x]) ++ y) S4 W4 ∧ ∀ g, v4.ownBlock = some g → (Value.slice (some ⟨gr, 0, none⟩) (m + 1) cap).ownBlock = some g ∨ Z.drew.heap.size ≤ g)) ∨ (r = false ∧ (∃ S4 pre4, (∀ q, joinS S' U Z q → S4 q) ∧ Jx pre4 S4 W4)))) := Lib.hid (HIH.out.mono fun e W4 h => h.2.elim (fun h2 => ⟨true, h2.1, h.1, .inl ⟨rfl, h2.2⟩⟩) fun h2 => ⟨false, h2.1, h.1, .inr ⟨rfl, h2.2⟩⟩)
    gi_region_with (first
      | (refine ⟨trivial, (CallsIn.inRound lr (callsIn_wide.2 (HW.out _))).mono ?_⟩; rintro e w' ⟨rfl, rfl⟩)
      | (refine ⟨trivial, (CallsIn.inRound lr (callsIn_wide.2 HIH2.out)).mono ?_⟩; rintro e W4 ⟨r, rfl, ho, h⟩))
    all_goals exact hk _ _ ho h
  case done =>
    rintro R X hR ⟨S', v', h1, h2⟩ hK
    have hbx := h1.br
    have kf := hbx.frozen
    have kc := hbx.cell
    have hlt := hbx.lt
    obtain ⟨Y, hYe⟩ : ∃ Y, X.setCell ⟨W.heap.size + 1, 0, none⟩ (.bool true) = Y := ⟨_, rfl⟩
    have cY : Chg X Y (fun q => q ≠ W.heap.size + 1) := by rw [← hYe]; exact Chg.setCell X ⟨W.heap.size + 1, 0, none⟩ (.bool true)
    have bY : Boxed Y (W.heap.size + 1) 4 (.bool true) := by rw [← hYe]; exact hbx.set _
    have zY : Y.heap.size = X.heap.size := by rw [← hYe]; simp
    have hKY : Y.heap[R]? = some (.deferred (some [])) := (cY.block _ (Array.getElem?_eq_some_iff.1 hK).1 (by omega)).trans hK
    have cZ : ∀ o', Chg Y (Y.putObj R o') (fun q => q ≠ R) := fun o' => ⟨rfl, rfl, rfl, by simp, fun q _ hq => World.putObj_heap_other hq⟩
    have HFIN : Hid (∀ o', Boxed (Y.putObj R o') (W.heap.size + 1) 4 (.bool true) ∧ ExtOut base be bb yb bx l N f A c S v W (Y.putObj R o') ∧ ∃ S' v', (∀ q, S q → S' q) ∧ ExtSt base be bb yb bx l N A c S' t v' (Y.putObj R o') ∧ J (pre ++ (exts N f (k + 1) s).map fun x => t ++ x) S' (Y.putObj R o') ∧ ∀ g, v'.ownBlock = some g → v.ownBlock = some g ∨ W.heap.size ≤ g) := Lib.hid fun o' => by
      have hrow : ∀ g, v'.ownBlock = some g → g ≠ W.heap.size + 1 ∧ g ≠ R := fun g hg2 => by
        have hne : g ≠ W.heap.size + 1 := by
          rcases h1.moved g hg2 with h | h
          · have := (World.ownsRow.lt HST.out.own g h).2; omega
          · omega
        refine ⟨hne, fun e => ?_⟩
        obtain ⟨o, ho, hoc⟩ := ownCells h1.st.own hg2
        rw [e, hK] at ho; cases ho; cases hoc
      have w1 := HST.out.hbe.lt
      have w2 := HST.out.hbb.lt
      have w3 := HST.out.hyb.lt
      have w4 := HST.out.hbx.lt
      refine ⟨((cZ o').block _ bY.lt (by omega)).trans bY, ((ExtOut.quiet h0 hW0 hb ⟨h1.fix, h1.keeps, h1.same⟩ cY fun q hq => by omega).quiet h0 hW0 hb (cZ o') fun q hq => by omega), S', v', h1.sub,
        ((h1.st.chg cY (by omega) (by omega) (by omega) (by omega) fun g hg2 => (hrow g hg2).1).chg (cZ o') (by omega) (by omega) (by omega) (by omega) fun g hg2 => (hrow g hg2).2), ?_, fun g hg2 => (h1.moved g hg2).imp id fun h => by omega⟩
      have j1 := hJ _ _ _ _ h2 (cY.mono (G := fun q => ¬ S' q ∧ ¬ NC X base q) fun q hq e => hq.1 (e ▸ h1.inS.2))
      rw [joinS_same zY] at j1
      have j2 := hJ _ _ _ _ j1 ((cZ o').mono (G := fun q => ¬ S' q ∧ ¬ NC Y base q) fun q hq e => hq.2 ⟨by omega, .deferred (some []), by rw [e]; exact hKY, rfl⟩)
      rw [joinS_same (by simp)] at j2
      rw [blkAll]
      exact j2
    clear h1 h2 hbx
    gi_wp2
    refine ⟨by simp, .inl ⟨_, _, rfl, run_takeDeferred hKY, ?_⟩⟩
    obtain ⟨f1, f2, f3⟩ := HFIN.out _
    exact ⟨_, resExt rfl f1, f2, .inl ⟨rfl, f3⟩⟩
  case stop =>
    rintro R cd ps X hR ⟨rfl, S', pre', h1, h2, h3, h4, h5⟩ hK
    have cZ : ∀ o', Chg X (X.putObj R o') (fun q => q ≠ R) := fun o' => ⟨rfl, rfl, rfl, by simp, fun q _ hq => World.putObj_heap_other hq⟩
    have HFIN : Hid (∀ o', Boxed (X.putObj R o') (W.heap.size + 1) 4 (.bool false) ∧ ExtOut base be bb yb bx l N f A c S v W (X.putObj R o') ∧ ∃ S' pre', (∀ q, S q → S' q) ∧ Jx pre' S' (X.putObj R o')) := Lib.hid fun o' => by
      have j2 := hJx _ _ _ _ h3 ((cZ o').mono (G := fun q => ¬ S' q ∧ ¬ NC X base q) fun q hq e => hq.2 ⟨by omega, .deferred (some []), by rw [e]; exact hK, rfl⟩)
      rw [joinS_same (by simp)] at j2
      exact ⟨((cZ o').block _ h5.lt (by omega)).trans h5, h4.quiet h0 hW0 hb (cZ o') (fun q hq => by omega), S', pre', h1, j2⟩
    gi_wp2
    refine ⟨by simp, .inl ⟨_, _, rfl, run_takeDeferred hK, ?_⟩⟩
    obtain ⟨f1, f2, f3⟩ := HFIN.out _
    exact ⟨_, resExt rfl f1, f2, .inr ⟨rfl, f3⟩⟩
end
end Go.Proofs.YtjioiaeiggjneaaDoor
