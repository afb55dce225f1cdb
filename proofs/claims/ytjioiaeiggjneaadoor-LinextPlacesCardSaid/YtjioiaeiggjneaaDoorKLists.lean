/-
  Words for slices of slices: rows of the call's own whose elements are rows of the call's own.
-/
import Derived.Test.YtjioiaeiggjneaaDoorKOwnI
import Derived.Test.YtjioiaeiggjneaaDoorKChg
namespace Go.Proofs.YtjioiaeiggjneaaDoor
open Go.RowKit

/-- v is a row of slices of the call's own. -/
def OwnL (w : World) (base : Nat) (v : Value) (vs : List Value) : Prop := w.ownsRow base 25 1 v vs.length vs
/-- The slices vs are rows of the call's own that hold ls; their blocks meet F. -/
def IsL (w : World) (base : Nat) (F : Nat → Prop) : List Value → List (List Int) → Prop
  | [], [] => True
  | v :: vs, l :: ls => OwnI w base v l ∧ (∀ g, v.ownBlock = some g → F g) ∧ IsL w base F vs ls
  | _, _ => False

section
variable {w w' : World} {base : Nat} {F G : Nat → Prop}
theorem OwnI.lt {v : Value} {l : List Int} (h : OwnI w base v l) {g : Nat} (hg : v.ownBlock = some g) : base ≤ g ∧ g < w.heap.size := World.ownsRow.lt h g hg
theorem IsL.len : ∀ {vs : List Value} {ls : List (List Int)}, IsL w base F vs ls → vs.length = ls.length
  | [], [], _ => rfl
  | _ :: _, _ :: _, h => by rw [List.length_cons, List.length_cons, IsL.len h.2.2]
theorem IsL.append : ∀ {vs vs' : List Value} {ls ls' : List (List Int)}, IsL w base F vs ls → IsL w base F vs' ls' → IsL w base F (vs ++ vs') (ls ++ ls')
  | [], _, [], _, _, h => h
  | _ :: _, _, _ :: _, _, h, h' => ⟨h.1, h.2.1, IsL.append h.2.2 h'⟩
theorem IsL.mono (hG : ∀ g, F g → G g) : ∀ {vs : List Value} {ls : List (List Int)}, IsL w base F vs ls → IsL w base G vs ls
  | [], [], _ => trivial
  | _ :: _, _ :: _, h => ⟨h.1, fun g hg => hG g (h.2.1 g hg), IsL.mono hG h.2.2⟩
theorem IsL.low : ∀ {vs : List Value} {ls : List (List Int)}, IsL w base F vs ls → IsL w base (fun g => F g ∧ base ≤ g ∧ g < w.heap.size) vs ls
  | [], [], _ => trivial
  | _ :: _, _ :: _, h => ⟨h.1, fun g hg => ⟨h.2.1 g hg, h.1.lt hg⟩, IsL.low h.2.2⟩
theorem IsL.chg (hc : Chg w w' G) (hG : ∀ g, F g → g < w.heap.size → G g) : ∀ {vs : List Value} {ls : List (List Int)}, IsL w base F vs ls → IsL w' base F vs ls
  | [], [], _ => trivial
  | _ :: _, _ :: _, h => ⟨ownChg h.1 hc fun g hg => hG g (h.2.1 g hg) (h.1.lt hg).2, h.2.1, IsL.chg hc hG h.2.2⟩
theorem IsL.base' {base' : Nat} (hb : base' ≤ base) : ∀ {vs : List Value} {ls : List (List Int)}, IsL w base F vs ls → IsL w base' F vs ls
  | [], [], _ => trivial
  | _ :: _, _ :: _, h => ⟨ownMono h.1 hb, h.2.1, IsL.base' hb h.2.2⟩
theorem IsL.at_ : ∀ {vs : List Value} {ls : List (List Int)}, IsL w base F vs ls → ∀ {i : Nat} (hi : i < ls.length), ∃ v, vs[i]? = some v ∧ OwnI w base v ls[i] ∧ ∀ g, v.ownBlock = some g → F g
  | v :: _, _ :: _, h, 0, _ => ⟨v, rfl, h.1, h.2.1⟩
  | _ :: vs, _ :: ls, h, i + 1, hi => by
    obtain ⟨v, h1, h2⟩ := IsL.at_ (vs := vs) (ls := ls) h.2.2 (i := i) (by simpa using hi)
    exact ⟨v, by simpa using h1, by simpa using h2⟩
  | [], [], _, _, hi => absurd hi (by simp)
/-- A row of slices does not lie in the block of one of its elements. -/
theorem IsL.apart {va : Value} {ws : List Value} {base' : Nat} (ho : OwnL w base' va ws) : ∀ {vs : List Value} {ls : List (List Int)}, IsL w base F vs ls → IsL w base (fun g => F g ∧ va.ownBlock ≠ some g) vs ls
  | [], [], _ => trivial
  | _ :: _, _ :: _, h => ⟨h.1, fun g hg => ⟨h.2.1 g hg, ownApart h.1 ho (by decide) hg⟩, IsL.apart ho h.2.2⟩
theorem IsL.oneCell : ∀ {vs : List Value} {ls : List (List Int)}, IsL w base F vs ls → ∀ u ∈ vs, u.oneCell' = true
  | [], [], _ => by simp
  | v :: vs, _ :: ls, h => by
    intro u hu
    rw [List.mem_cons] at hu
    rcases hu with rfl | hu
    · obtain ⟨A, c, rfl, _⟩ := h.1.rd
      rfl
    · exact IsL.oneCell h.2.2 u hu
theorem OwnL.nil (w : World) (base : Nat) : OwnL w base (.slice none 0 0) [] := World.ownsRow_nil _ _ _ _
theorem OwnL.made (w : World) (base : Nat) (h : base ≤ w.heap.size) : OwnL (w.alloc (.cells #[] 25)) base (.slice (some ⟨w.heap.size, 0, none⟩) 0 0) [] := World.ownsRow_made w #[] 0 h (Nat.zero_le _) rfl
theorem OwnL.rds {v : Value} {vs : List Value} (h : OwnL w base v vs) : ∃ A c, v = .slice A vs.length c ∧ Rds w A c vs ∧ ∀ ad, A = some ad → base ≤ ad.block := by
  obtain ⟨A, c, hv, _, hr, hb⟩ := Rds.ofOwn h
  exact ⟨A, c, hv, hr, hb⟩
theorem OwnL.chg {v : Value} {vs : List Value} (h : OwnL w base v vs) (hc : Chg w w' F) (hF : ∀ g, v.ownBlock = some g → F g) : OwnL w' base v vs := ownChg h hc hF
theorem OwnI.chg {v : Value} {l : List Int} (h : OwnI w base v l) (hc : Chg w w' F) (hF : ∀ g, v.ownBlock = some g → F g) : OwnI w' base v l := ownChg h hc hF
end

theorem infoSl : (Tryd.prog.info? 25).map (fun i => (i.zero, i.size, i.bytes)) = some (some (.slice none 0 0), 1, 24) := by kernel_rfl

/-- append of slices onto a row of the call's own. -/
theorem appL (w : World) {ops : Array Oper} {rest : List Oper} {o : Oper} {a : Act} {Q : Exit → Act → World → Prop} (hgd : o.guard = none) (s x : Operand)
    (ho : o.op = .call { callee := .builtin .append, args := #[s, x], argTypes := #[37, 37] })
    (base : Nat) (v : Value) (vs : List Value) (hs : a.eval s = v) (hown : OwnL w base v vs)
    (A : Option Addr) (m c : Nat) (news : List Value) (hx : a.eval x = .slice A m c) (hm : m = news.length) (hr : Rds w A c news) (h1 : ∀ u ∈ news, u.oneCell' = true)
    (hb : vs.length + news.length ≤ 10000000) (hbase : base ≤ w.heap.size)
    (h : ∀ v' w', OwnL w' base v' (vs ++ news) → w.grownBy w' v.ownBlock → Moved w v v' vs.length m → wpList Tryd.prog ops Q rest (a.put o.dst v') w') :
    wpList Tryd.prog ops Q (o :: rest) a w := by
  obtain ⟨i0, hi, hz0, hz1, hz2⟩ := info_parts infoSl
  refine wpList_app w hgd s x 37 ho base 25 i0 _ 24 Tryd.underlying37 hi hz0 hz1 hz2 rfl v vs.length vs hs hown A m c news hx hm hr h1 (by omega) (by unfold maxLen; omega) hbase fun v' w' h1 _ h3 h4 => h v' w' ?_ h3 h4
  unfold OwnL
  rw [List.length_append, ← hm]
  exact h1
theorem movedBlock {w : World} {v v' : Value} {n m : Nat} (h : Moved w v v' n m) : v'.ownBlock = v.ownBlock ∨ v'.ownBlock = some w.heap.size := by
  rcases h with ⟨g, cap, rfl, rfl⟩ | h | ⟨rfl, _⟩
  · exact .inl rfl
  · exact .inr h
  · exact .inl rfl
/-- The slice reads as the slices ls. -/
def RdL (w : World) (A : Option Addr) (c : Nat) (ls : List (List Int)) : Prop :=
  ∃ vs, Rds w A c vs ∧ vs.length = ls.length ∧ ∀ (i : Nat) (h : i < ls.length), ∃ A' c', vs[i]? = some (.slice A' ls[i].length c') ∧ Rd w A' c' ls[i]
section
variable {w w' : World} {A : Option Addr} {c : Nat} {ls : List (List Int)} {l : List Int}
theorem RdL.below (h : RdL w A c ls) (hb : Below w.heap.size w w') : RdL w' A c ls := by
  obtain ⟨vs, h1, h2, h3⟩ := h
  refine ⟨vs, h1.below hb, h2, fun i hi => ?_⟩
  obtain ⟨A', c', e, hr⟩ := h3 i hi
  exact ⟨A', c', e, hr.below hb⟩
theorem RdL.one (h : RdL w A c ls) {k : Nat} (hk : k < ls.length) : ∃ ad A' c', A = some ad ∧ w.cell? (ad.add k) = some (.slice A' ls[k].length c') ∧ Rd w A' c' ls[k] := by
  obtain ⟨vs, h1, h2, h3⟩ := h
  obtain ⟨A', c', e, hr⟩ := h3 k hk
  obtain ⟨ad, ea, _, hc⟩ := h1.at_ (by omega)
  exact ⟨ad, A', c', ea, hc k _ e, hr⟩
theorem RdL.le (h : RdL w A c ls) : ls.length ≤ c := by obtain ⟨vs, h1, h2, _⟩ := h; rw [← h2]; exact h1.le
theorem RdL.max (h : RdL w A c ls) : c ≤ maxLen := by obtain ⟨vs, h1, _, _⟩ := h; exact h1.max
theorem RdL.ofOwn {base base' : Nat} {F : Nat → Prop} {v : Value} {vs : List Value} (h : OwnL w base v vs) (hi : IsL w base' F vs ls) : ∃ A c, v = .slice A ls.length c ∧ RdL w A c ls := by
  obtain ⟨A, c, hv, hr, _⟩ := h.rds
  refine ⟨A, c, by rw [hv, hi.len], vs, hr, hi.len, fun i hk => ?_⟩
  obtain ⟨v', h1, h2, _⟩ := hi.at_ hk
  obtain ⟨A', c', rfl, hr', _⟩ := h2.rd
  exact ⟨A', c', h1, hr'⟩
theorem Rd.alloc (h : Rd w A c l) (o : Obj) : Rd (w.alloc o) A c l := h.below ((Below.refl _ w).alloc (Nat.le_refl _) o)
end

end Go.Proofs.YtjioiaeiggjneaaDoor
