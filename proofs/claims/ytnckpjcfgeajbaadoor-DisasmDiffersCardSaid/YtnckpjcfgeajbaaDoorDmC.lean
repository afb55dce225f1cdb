/-
  The contract of disasm.sentence: a first word and those that function values give, or their first error.
-/
import Derived.Test.YtnckpjcfgeajbaaDoorDsPre
import Derived.Maps.AppendAt
import Derived.Test.YtnckpjcfgeajbaaDoorDmB
import Derived.Test.YtnckpjcfgeajbaaDoorDmA
namespace Go.Proofs.YtnckpjcfgeajbaaDoor
open Go Go.RowKit

section
variable {w w' : World} {A : Option Addr} {c : Nat} {xs : List Value}
theorem Rds.ofOwn {base : Nat} {e : TypeId} {v : Value} {n : Nat} (h : w.ownsRow base e 1 v n xs) : ∃ A c, v = .slice A xs.length c ∧ n = xs.length ∧ Rds w A c xs ∧ (∀ ad, A = some ad → base ≤ ad.block) := by
  have hn : xs.length = n := by simpa using h.1
  subst hn
  rcases h.2 with ⟨rfl, h0⟩ | ⟨g, cap, cur, rfl, hb, hg, hc, hm, hs, ht⟩
  · have : xs = [] := List.eq_nil_of_length_eq_zero h0
    subst this
    exact ⟨none, 0, rfl, rfl, Rds.nil, by simp⟩
  · refine ⟨some ⟨g, 0, none⟩, cap, rfl, rfl, ⟨hc, hm, fun _ => ⟨_, rfl, ?_, fun j u hu => h.cells (g := g) rfl j u hu⟩⟩, fun ad h => by injection h with h; subst h; exact hb⟩
    exact (h.lt g rfl).2
end

/-- Cells just laid read as they were laid. -/
theorem Rds.lit (w : World) (cs : List Value) (e : TypeId) (h : cs.length ≤ maxLen) : Rds (w.alloc (.cells cs.toArray e)) (some ⟨w.heap.size, 0, none⟩) cs.length cs :=
  ⟨Nat.le_refl _, h, fun _ => ⟨_, rfl, by simp, fun j u hu => by
    rw [Addr.add_lit, Nat.zero_add]
    rw [cell_of_row (w.alloc (.cells cs.toArray e)) w.heap.size j cs.toArray e (0, 0) (heap_alloc_new w _)]
    simpa using hu⟩⟩

section
variable {P : Program} (w : World)

/-- Where append has put the row: in place, in a new block, or nothing was appended. -/
def Moved (w : World) (v v' : Value) (n m : Nat) : Prop :=
  (∃ g cap, v = .slice (some ⟨g, 0, none⟩) n cap ∧ v' = .slice (some ⟨g, 0, none⟩) (n + m) cap) ∨ v'.ownBlock = some w.heap.size ∨ (v' = v ∧ m = 0)

/-- append onto an owned row: the new row; the old value still owns what it owned. -/
theorem runApp (base : Nat) (t ty e : TypeId) (i : TypeInfo) (z : Value) (bytes : Nat) (ht : P.underlying t = some (.slice e)) (hi : P.info? e = some i) (hz : i.zero = some z)
    (hsize : i.size = 1) (hby : i.bytes = bytes) (hzs : z.cells.size = 1)
    (v : Value) (n : Nat) (xs : List Value) (hown : w.ownsRow base e 1 v n xs)
    (A : Option Addr) (m c : Nat) (news : List Value) (hm : m = news.length) (hr : Rds w A c news) (h1 : ∀ u ∈ news, u.oneCell' = true)
    (hbytes : (n + m) * bytes ≤ 140737488355328) (h63 : n + m ≤ maxLen) (hbase : base ≤ w.heap.size) :
    ∃ v' w', (Builtin.append_ #[t, t] ty #[v, .slice A m c]).run P w = .ok v' w' ∧ w'.ownsRow base e 1 v' (n + m) (xs ++ news) ∧ w'.ownsRow base e 1 v n xs ∧ w.grownBy w' v.ownBlock ∧
      Moved w v v' n m := by
  subst hm
  subst hby
  have hsmall : n + news.length ≤ 9223372036854775807 := by simp only [maxLen] at h63; omega
  have hxl : xs.length = n := by simpa using hown.1
  rcases A with _ | a
  · have hn : news = [] := by
      rcases Nat.eq_zero_or_pos news.length with h0 | h0
      · exact List.eq_nil_of_length_eq_zero h0
      · obtain ⟨ad, h, _⟩ := hr.at_ h0
        cases h
    subst hn
    refine ⟨v, w, ?_, by simpa using hown, hown, World.grownBy.refl w _, .inr (.inr ⟨rfl, rfl⟩)⟩
    rcases hown.2 with ⟨rfl, rfl⟩ | ⟨g, cap, cur, rfl, _, _, hnc, _⟩
    · simp [Builtin.append_, run_underlying ht, sizeOf, typeInfo, hi, Builtin.lenOf, Builtin.firstCells]
    · simp [Builtin.append_, run_underlying ht, sizeOf, typeInfo, hi, Builtin.lenOf, Builtin.firstCells, hnc, storeCells]
  · have hnews : ∀ j u, news[j]? = some u → w.cell? (a.add j) = some u := by
      intro j u hu
      have : 0 < news.length := by have := (List.getElem?_eq_some_iff.1 hu).1; omega
      obtain ⟨ad, h, _, hc⟩ := hr.at_ this
      injection h with h
      subst h
      exact hc j u hu
    obtain ⟨v', w', hrun, o1, g1, k1, b1⟩ := run_append_own_at (P := P) w base t ty e i z 1 i.bytes ht hi hz hsize rfl hzs (by omega) v n xs hown a news.length c news (by simp) hnews h1 h63 hbytes hbase
    suffices h : w'.ownsRow base e 1 v n xs ∧ Moved w v v' n news.length from ⟨v', w', hrun, o1, h.1, g1, h.2⟩
    rcases hown.2 with ⟨rfl, rfl⟩ | ⟨g, cap, cur, rfl, hbg, hg, hnc, hcm, hcs, htake⟩
    · have : xs = [] := List.eq_nil_of_length_eq_zero hxl
      subst this
      refine ⟨World.ownsRow_nil _ _ _ _, ?_⟩
      rcases Nat.eq_zero_or_pos news.length with hm0 | hm0
      · exact .inr (.inr ⟨k1.2 ⟨rfl, hm0⟩, hm0⟩)
      · rcases b1 with b1 | b1
        · rcases o1.2 with ⟨_, hz⟩ | ⟨g, cap, cur, hv, _⟩
          · omega
          · rw [hv] at b1; simp [Value.ownBlock] at b1
        · exact .inr (.inl b1)
    · by_cases hroom : n + news.length ≤ cap
      · have hfit : n * i.size + news.length ≤ cur.size := by rw [hcs, hsize]; omega
        have hrr := run_append_room (P := P) w t ty e i ht hi g n cap cur hg a news.length c news (by rw [hsize]; omega) hnews h1 hroom hfit
        rw [hrun] at hrr
        injection hrr with hv hw
        rw [hw, hv]
        refine ⟨⟨hown.1, .inr ⟨g, cap, _, rfl, hbg, setRow_heap w g cur _ e _ hg, hnc, hcm, ?_, ?_⟩⟩, .inl ⟨g, cap, rfl, rfl⟩⟩
        · simp only [List.size_toArray, List.length_append, List.length_take, List.length_drop, Array.length_toList, hsize] at hfit ⊢
          omega
        · simp only [hsize, Nat.mul_one] at htake ⊢
          rw [htake, List.append_assoc, ← hxl]
          exact List.take_left
      · have hrr := run_append_grow (P := P) w t ty e i z ht hi hz ⟨g, 0, none⟩ n cap xs (by rw [hsize]; omega) (hown.cells (g := g) rfl) a news.length c news (by rw [hsize]; omega) hnews (by omega) (by omega) (growslice_fits (by omega) hbytes)
        rw [hrun] at hrr
        injection hrr with hv hw
        rw [hw, hv]
        exact ⟨(World.ownsRow.drew hown).alloc _, .inr (.inl rfl)⟩

theorem wpList_app {ops : Array Oper} {rest : List Oper} {o : Oper} {a : Act} {Q : Exit → Act → World → Prop} (hgd : o.guard = none) (s x : Operand) (t : TypeId)
    (ho : o.op = .call { callee := .builtin .append, args := #[s, x], argTypes := #[t, t] })
    (base : Nat) (e : TypeId) (i : TypeInfo) (z : Value) (bytes : Nat) (ht : P.underlying t = some (.slice e)) (hi : P.info? e = some i) (hz : i.zero = some z)
    (hsize : i.size = 1) (hby : i.bytes = bytes) (hzs : z.cells.size = 1)
    (v : Value) (n : Nat) (xs : List Value) (hs : a.eval s = v) (hown : w.ownsRow base e 1 v n xs)
    (A : Option Addr) (m c : Nat) (news : List Value) (hx : a.eval x = .slice A m c) (hm : m = news.length) (hr : Rds w A c news) (h1 : ∀ u ∈ news, u.oneCell' = true)
    (hbytes : (n + m) * bytes ≤ 140737488355328) (h63 : n + m ≤ maxLen) (hbase : base ≤ w.heap.size)
    (h : ∀ v' w', w'.ownsRow base e 1 v' (n + m) (xs ++ news) → w'.ownsRow base e 1 v n xs → w.grownBy w' v.ownBlock → Moved w v v' n m → wpList P ops Q rest (a.put o.dst v') w') :
    wpList P ops Q (o :: rest) a w := by
  refine wpList_plain hgd fun K hK => ?_
  obtain ⟨v', w', hrun, h2, h3, h4, h5⟩ := runApp (P := P) w base t o.type e i z bytes ht hi hz hsize hby hzs v n xs hown A m c news hm hr h1 hbytes h63 hbase
  unfold Oper.wp execOp
  simp only [ho, resolve, invoke, builtin, Sem.run_bind, Sem.run_pure, Result.andThen_ok, List.map_toArray, List.map_cons, List.map_nil, hs, hx, hrun]
  exact hK _ _ (h v' w' h2 h3 h4 h5)
end

theorem stepA {a b c : World} {o : Obj} (h : Below a.heap.size a b) (k : Below a.heap.size (b.alloc o) c) : Below a.heap.size a c := (h.alloc h.size o).trans k


theorem infoStr : (Tryd.prog.info? 9).map (fun i => (i.zero, i.size, i.bytes)) = some (some (.string ⟨#[]⟩), 1, 16) := by kernel_rfl
def OwnT (w : World) (base : Nat) (v : Value) (l : List ByteArray) : Prop := w.ownsRow base 9 1 v l.length (sv l)
theorem OwnT.alloc {w : World} {base : Nat} {v : Value} {l : List ByteArray} (h : OwnT w base v l) (o : Obj) : OwnT (w.alloc o) base v l := World.ownsRow.alloc h o
theorem OwnT.nil (w : World) (base : Nat) : OwnT w base (.slice none 0 0) [] := World.ownsRow_nil _ _ _ _
theorem OwnT.rd {w : World} {base : Nat} {v : Value} {l : List ByteArray} (h : OwnT w base v l) : ∃ A c, v = .slice A l.length c ∧ Rds w A c (sv l) := by
  obtain ⟨A, c, hv, _, hr, _⟩ := Rds.ofOwn h
  exact ⟨A, c, by rw [hv, svLen], hr⟩
theorem svOneCell (l : List ByteArray) : ∀ u ∈ sv l, u.oneCell' = true := fun u hu => by
  obtain ⟨s, _, rfl⟩ := List.mem_map.1 hu
  rfl
/-- append of strings onto a row of the call's own. -/
theorem appT (w : World) {ops : Array Oper} {rest : List Oper} {o : Oper} {a : Act} {Q : Exit → Act → World → Prop} (hgd : o.guard = none) (s x : Operand)
    (ho : o.op = .call { callee := .builtin .append, args := #[s, x], argTypes := #[23, 23] })
    (base : Nat) (v : Value) (l : List ByteArray) (hs : a.eval s = v) (hown : OwnT w base v l)
    (A : Option Addr) (m c : Nat) (news : List ByteArray) (hx : a.eval x = .slice A m c) (hm : m = news.length) (hr : Rds w A c (sv news))
    (hb : l.length + news.length ≤ 1000000) (hbase : base ≤ w.heap.size)
    (h : ∀ v' w', OwnT w' base v' (l ++ news) → Below base w w' → wpList Tryd.prog ops Q rest (a.put o.dst v') w') :
    wpList Tryd.prog ops Q (o :: rest) a w := by
  obtain ⟨i0, hi, hz0, hz1, hz2⟩ := info_parts infoStr
  refine wpList_app w hgd s x 23 ho base 9 i0 _ 16 Tryd.underlying23 hi hz0 hz1 hz2 rfl v l.length (sv l) hs hown A m c (sv news) hx (by rw [svLen]; omega) hr (svOneCell _) (by omega) (by unfold maxLen; omega) hbase fun v' w' h1 h2 h3 _ => h v' w' ?_ ?_
  · unfold OwnT sv
    rw [List.length_append, List.map_append, ← hm]
    exact h1
  · exact (Below.refl base w).grown h3 hbase fun k hk => (World.ownsRow.lt hown k hk).1
theorem svLit (w : World) (s : ByteArray) : Rds (w.alloc (.cells #[.string s] 9)) (some ⟨w.heap.size, 0, none⟩) 1 (sv [s]) := Rds.lit w (sv [s]) 9 (by simp [sv, maxLen])
end Go.Proofs.YtnckpjcfgeajbaaDoor

namespace Go.Proofs.YtnckpjcfgeajbaaDoor
open Go Go.RowKit

theorem ownOne (w : World) (s : ByteArray) (base : Nat) (hb : base ≤ w.heap.size) : OwnT (w.alloc (.cells #[.string s] 9)) base (.slice (some ⟨w.heap.size, 0, none⟩) 1 1) [s] :=
  ⟨rfl, .inr ⟨w.heap.size, 1, _, rfl, hb, Blk.new w _ _, Nat.le_refl _, by decide, rfl, rfl⟩⟩
/-- The words so far. -/
def wsK (first : ByteArray) (ws : List Wd) (k : Nat) : List ByteArray := first :: (ws.take k).map fun x => bs x.t
theorem wsKnext {first : ByteArray} {ws : List Wd} {k : Nat} (h : k < ws.length) : wsK first ws k ++ [bs ws[k].t] = wsK first ws (k + 1) := by
  unfold wsK
  rw [List.take_succ_eq_append_getElem h, List.map_append]; rfl
theorem wsKlen (first : ByteArray) {ws : List Wd} {k : Nat} (h : k ≤ ws.length) : (wsK first ws k).length = k + 1 := by
  unfold wsK
  rw [List.length_cons, List.length_map, List.length_take]; omega
theorem sntBad {ws : List Wd} : ∀ {acc : List UInt8} {k : Nat} (h : k < ws.length), (∀ j (hj : j < ws.length), j < k → ws[j].e = 0) → ws[k].e ≠ 0 → snt acc ws = .no ws[k].e := by
  induction ws with
  | nil => intro acc k h; simp at h
  | cons x r ih =>
    intro acc k h h0 h1
    rw [snt]
    rcases k with _ | k
    · have h1 : ¬ x.e = 0 := h1
      rw [if_neg h1]; rfl
    · have hx : x.e = 0 := h0 0 (by simp) (by omega)
      rw [if_pos hx]
      exact ih (k := k) (by simpa using h) (fun j hj hjk => h0 (j + 1) (by simpa using hj) (by omega)) h1
theorem sntGood {ws : List Wd} {acc : List UInt8} (h : ∀ j (hj : j < ws.length), ws[j].e = 0) : snt acc ws = .ok (Lib.join (acc :: ws.map (·.t)) [32]) := by
  rw [Lib.join_cons]
  exact sntAll fun x hx => by
    obtain ⟨j, hj, rfl⟩ := List.getElem_of_mem hx
    exact h j hj
theorem gvNo (E : Int) : gvW (.no E) = .returned (.tuple #[.string ⟨#[]⟩, .int .i64 E]) := rfl
theorem wsJoin (first : ByteArray) (ws : List Wd) : (wsK first ws ws.length).map (·.data.toList) = first.data.toList :: ws.map (·.t) := by
  unfold wsK
  rw [List.take_length, List.map_cons, List.map_map]
  exact congrArg _ (List.map_congr_left fun x _ => bsTo x.t)
theorem wsBound {first : ByteArray} (hf : first.size ≤ 1000) {ws : List Wd} (hws : ∀ x ∈ ws, x.t.length ≤ 1000) (hn : ws.length ≤ 16) : (Lib.join (first.data.toList :: ws.map (·.t)) [32]).length ≤ 140737488355328 := by
  rw [Lib.join_cons, List.length_append]
  have h1 := joinTailLen (l := ws.map (·.t)) (B := 1000) fun x hx => by
    obtain ⟨y, hy, rfl⟩ := List.mem_map.1 hx
    exact hws y hy
  rw [List.length_map] at h1
  have h2 := Nat.mul_le_mul_right 1001 hn
  have h3 : first.data.toList.length = first.size := rfl
  omega
theorem OwnT.below {w w' : World} {base : Nat} {v : Value} {l : List ByteArray} (h : OwnT w base v l) (_ : base ≤ w.heap.size) (hb : Below w.heap.size w w') : OwnT w' base v l :=
  ownChgK h (Chg.ofBelow hb fun _ => True) fun _ _ => trivial
/-- Where the words lie. -/
theorem OwnT.at {w : World} {base : Nat} {v : Value} {l : List ByteArray} (h : OwnT w base v l) (hl : 0 < l.length) : ∃ g c, v = .slice (some ⟨g, 0, none⟩) l.length c ∧ l.length ≤ c ∧ g < w.heap.size ∧ ∀ (j : Nat) x, l[j]? = some x → w.cell? ⟨g, 0 + j, none⟩ = some (.string x) := by
  obtain ⟨A, c, e, hr⟩ := h.rd
  rcases h.2 with ⟨hv, h0⟩ | ⟨g, cap, cur, hv, hbg, hg, hnc, hcm, hcs, htake⟩
  · omega
  · have hx : (sv l).length = l.length := svLen l
    refine ⟨g, cap, hv, by omega, (Array.getElem?_eq_some_iff.1 hg).1, fun j x hj => ?_⟩
    have := World.ownsRow.cells h (g := g) (by rw [hv]; rfl)
    have hj2 : (sv l)[j]? = some (.string x) := by rw [sv, List.getElem?_map, hj]; rfl
    have h2 := this j _ hj2
    have hadd : (⟨g, 0, none⟩ : Addr).add j = ⟨g, 0 + j, none⟩ := by unfold Addr.add; split <;> simp_all
    rw [hadd] at h2
    exact h2
set_option maxRecDepth 100000 in
set_option maxHeartbeats 4000000 in
theorem iSentence (first : ByteArray) (hf : first.size ≤ 1000) (ws : List Wd) (hws : ∀ x ∈ ws, x.t.length ≤ 1000) (A : Option Addr) (n c : Nat) (w : World) (hl : WdL w A n c ws) :
    Calls Tryd.prog 17 #[.string first, .slice A n c] w fun e w' => e = gvW (snt first.data.toList ws) ∧ Below w.heap.size w w' := by
  have hle := hl.le
  have hmx := hl.max
  have HN := Lib.hid hl.len
  have HL := Lib.hid (fun X (hX : Below w.heap.size w X) => hl.below hX)
  obtain ⟨r, hr⟩ : ∃ r, snt first.data.toList ws = r := ⟨_, rfl⟩
  rw [hr]
  have HR := Lib.hid hr
  have HF := Lib.hid hf
  have HWS := Lib.hid hws
  have HO := Lib.hid (ownOne w first w.heap.size (Nat.le_refl _))
  have HB0 := Lib.hid (belowAlloc w (.cells #[.string first] 9))
  have HIN : 0 < n → ∃ b, A = some ⟨b, 0, none⟩ := fun h0 => by
    obtain ⟨b, e, _⟩ := hl.at_ h0
    exact ⟨b, e⟩
  have HIN := Lib.hid HIN
  clear hl hr hf hws
  go_enter Tryd.func17, Tryd.ntmps17
  go_wp2
  go_loopw [6, 15] (fun vw vi wr => ∃ k : Nat, k ≤ n ∧ vi = .int .i64 k ∧ OwnT wr w.heap.size vw (wsK first ws k) ∧ Below w.heap.size w wr ∧ Hid (∀ j (hj : j < ws.length), j < k → ws[j].e = 0)) (fun _ i _ => n - (intOf i).toNat)
  case atStart => exact ⟨0, Nat.zero_le _, rfl, HO.out, HB0.out, Lib.hid fun j _ h => by omega⟩
  case round =>
    obtain ⟨k, hk, rfl, os, hb, HA⟩ := hrel
    by_cases hlt : k < n
    · obtain ⟨b, rfl⟩ := HIN.out (by omega)
      have HKL : Hid (k < ws.length) := Lib.hid (by rw [HN.out]; exact hlt)
      obtain ⟨b2, e2, _, hat⟩ := (HL.out wr hb).at_ (by omega)
      injection e2 with e2
      injection e2 with e2
      subst e2
      obtain ⟨f, L, hc, ⟨f2, L2, e3, he, hcall⟩⟩ := hat k HKL.out
      injection e3 with e3 _ e4
      injection e3 with e3
      subst e3
      subst e4
      have HC := Lib.hid (hcall wr (Below.refl _ _))
      have HOS := Lib.hid os
      have HB := Lib.hid hb
      have hk0 : (0 : Int) ≤ k := by omega
      have hk1 : (k : Int) < n := by omega
      have HE := Lib.hid (show ws[k]'HKL.out = ws[k]'HKL.out from rfl)
      obtain ⟨x, hx⟩ : ∃ x, ws[k]'HKL.out = x := ⟨_, rfl⟩
      have HX := Lib.hid hx
      rw [hx] at HC
      clear hat hcall hx HE
      obtain ⟨t, ex⟩ := x
      by_cases h0 : ex = 0
      · subst h0
        have HNX := Lib.hid (show wsK first ws k ++ [bs t] = wsK first ws (k + 1) by have := wsKnext (first := first) HKL.out; rw [HX.out] at this; exact this)
        have HAN : Hid (∀ j (hj : j < ws.length), j < k + 1 → ws[j].e = 0) := Lib.hid fun j hj hjk => by
          rcases Nat.lt_or_ge j k with h' | h'
          · exact HA.out j hj h'
          · have e : j = k := by omega
            subst e
            rw [HX.out]
        have hwl : (wsK first ws k).length ≤ 100 := by rw [wsKlen first (by rw [HN.out]; exact hk)]; omega
        have HWL := Lib.hid hwl
        clear hwl
        go_wp2_with fail
        refine HC.out.mono ?_
        rintro e w2 ⟨he2, b2⟩
        have he2 : e = .returned (.tuple #[.string (bs t), .int .i64 0]) := he2
        subst he2
        have O2 := Lib.hid (show OwnT w2 w.heap.size _ _ from HOS.out.below (HB.out.size) b2)
        have B2 := Lib.hid (belowThen HB.out b2)
        clear b2
        generalize bs t = s at *
        go_wp2_with (at_builtin; refine appT _ rfl (.tmp 27) (.tmp 29) rfl w.heap.size _ _ rfl (O2.out.alloc _) (some ⟨w2.heap.size, 0, none⟩) 1 1 [s] rfl rfl (svLit w2 s) (by have := HWL.out; simp; omega) (by have := B2.out.size; simp; omega) ?_; intro v3 w3 o3 b3; have B3 := stepA B2.out b3; rw [HNX.out] at o3)
        go_roundw
        case rel => exact ⟨k + 1, by omega, by go_num, o3, B3, HAN⟩
        case measure => simp [intOf]; omega
      · have h0' : (ex != 0) = true := by simpa using h0
        have HZ := Lib.hid (show Wd.no ex = r by
          have := sntBad (acc := first.data.toList) HKL.out HA.out (by rw [HX.out]; exact h0)
          rw [HR.out, HX.out] at this
          exact this.symm)
        clear h0
        go_wp2_with fail
        refine HC.out.mono ?_
        rintro e w2 ⟨he2, b2⟩
        have he2 : e = .returned (.tuple #[.string (bs t), .int .i64 ex]) := he2
        subst he2
        have B2 := Lib.hid (belowThen HB.out b2)
        clear b2
        generalize bs t = s at *
        go_wp2
        go_ret2
        exact ⟨by rw [← HZ.out]; rfl, B2.out⟩
    · have hkn : k = n := by omega
      subst hkn
      have HZ := Lib.hid (show Wd.ok (Lib.join (first.data.toList :: ws.map (·.t)) [32]) = r by
        rw [← HR.out]
        exact (sntGood fun j hj => HA.out j hj (by rw [← HN.out]; exact hj)).symm)
      have hwk : wsK first ws k = wsK first ws ws.length := by rw [HN.out]
      rw [hwk] at os
      have hlw := wsKlen first (Nat.le_refl ws.length)
      obtain ⟨g, cc, rfl, hcc, hgl, hcells⟩ := os.at (by rw [hlw]; omega)
      have HJ := Lib.hid (fun hlen => Tryd.strings_Join g 0 cc (wsK first ws ws.length) ⟨#[32]⟩ wr hcells hgl (by rw [hlw, HN.out]; omega) hcc hlen)
      have HJ2 := Lib.hid (HJ.out (by rw [wsJoin]; exact wsBound HF.out HWS.out (by rw [HN.out]; omega)))
      have HB := Lib.hid hb
      rw [wsJoin] at HJ2
      generalize (wsK first ws ws.length).length = q at HJ2 ⊢
      have HJ3 := HJ2
      clear hcells hwk hlw HJ os hgl hcc hb
      go_wp2_with fail
      refine HJ2.out.mono ?_
      rintro e w2 ⟨rfl, b2⟩
      have B2 := Lib.hid (belowThen HB.out b2)
      clear b2
      go_wp2
      go_ret2
      exact ⟨by rw [← HZ.out]; rfl, B2.out⟩
end Go.Proofs.YtnckpjcfgeajbaaDoor
