/-
  A search of all paths for a read: a queue, and the table of those that have been looked at. Without any program.
-/
import Derived.Test.YtjdimlofdblgdaaDoorPLf3
import Derived.Test.YtjdimlofdblgdaaDoorPLf4
import Derived.Test.YtjdimlofdblgdaaDoorPLfY
import Derived.Test.YtjdimlofdblgdaaDoorPQue
namespace Go.Proofs.YtjdimlofdblgdaaDoor
open Go Go.RowKit

/-- The number of the true places below n. -/
def cnE (n : Nat) (E : Nat → Bool) : Nat := ((List.range n).filter E).length
theorem cnELe {n : Nat} {E : Nat → Bool} : cnE n E ≤ n := Nat.le_trans (List.length_filter_le _ _) (by simp)
theorem cnEUp {n : Nat} {E : Nat → Bool} {x : Nat} (hx : x < n) (h : E x = false) : cnE n (with_ E x) = cnE n E + 1 := by
  unfold cnE
  have key : ∀ l : List Nat, l.Nodup → x ∈ l → (l.filter (with_ E x)).length = (l.filter E).length + 1 := by
    intro l
    induction l with
    | nil => intro _ h; cases h
    | cons y l ih =>
      intro hn hm
      rw [List.nodup_cons] at hn
      rw [List.filter_cons, List.filter_cons]
      by_cases e : y = x
      · subst e
        have h1 : with_ E y y = true := by unfold with_; simp
        have h2 : l.filter (with_ E y) = l.filter E := List.filter_congr fun z hz => by
          have hne : z ≠ y := fun e => hn.1 (e ▸ hz)
          unfold with_; simp [hne]
        rw [h1, h, h2]
        simp
      · have h1 : with_ E x y = E y := by unfold with_; simp [e]
        have := ih hn.2 ((List.mem_cons.1 hm).resolve_left fun e' => e e'.symm)
        rw [h1]
        cases E y <;> simp [this]
  exact key _ List.nodup_range (List.mem_range.2 hx)
/-- Somewhere among F a search for r ends well. -/
noncomputable def fdB (C : List I8) (ex : Bool) (r : Int) (F : List Nat) : Bool := F.any fun s => lvB C ex s r
def RcF (C : List I8) (r : Int) (F : List Nat) (x : Nat) : Prop := ∃ s, s ∈ F ∧ Rc (lgr C r) (fun _ => true) s x
structure FdSt (C : List I8) (ex : Bool) (r : Int) (F : List Nat) (n : Nat) (E : Nat → Bool) (Q : List Nat) : Prop where
  inQ : ∀ x, x ∈ Q → x ≤ n ∧ RcF C r F x
  seen : ∀ x, x < n → E x = true → rdB C x r = false ∧ ∀ y, y ∈ lgr C r x → (y < n ∧ E y = true) ∨ y ∈ Q ∨ (y = n ∧ ex = false)
  all : ∀ s, s ∈ F → (s < n ∧ E s = true) ∨ s ∈ Q ∨ (s = n ∧ ex = false)
section
variable {C : List I8} {ex : Bool} {r : Int} {F : List Nat} {n : Nat} {E : Nat → Bool} {k : Nat} {Q : List Nat}
theorem fdStart (hF : ∀ s, s ∈ F → s ≤ n) : FdSt C ex r F n (fun _ => false) F :=
  ⟨fun x hx => ⟨hF x hx, x, hx, Rc.refl rfl⟩, fun _ _ h => (by cases h), fun s hs => .inr (.inl hs)⟩
theorem fdYes {x : Nat} (hx : RcF C r F x) (he : enB C ex r x = true) : fdB C ex r F = true := by
  obtain ⟨s, hs, hr⟩ := hx
  unfold fdB
  exact List.any_eq_true.2 ⟨s, hs, lvIff.2 ⟨x, hr, he⟩⟩
/-- The queue is empty: nothing was found. -/
theorem fdNone (hn : C.length = n) (h : FdSt C ex r F n E []) : fdB C ex r F = false := by
  unfold fdB
  rw [List.any_eq_false]
  intro s hs hl
  obtain ⟨x, hr, he⟩ := lvIff.1 hl
  have hst : ∀ y, Rc (lgr C r) (fun _ => true) s y → (y < n ∧ E y = true) ∨ (y = n ∧ ex = false) := fun y hy => by
    refine hy.fwd (P := fun y => (y < n ∧ E y = true) ∨ (y = n ∧ ex = false)) ?_ fun u v _ hu hv _ => ?_
    · rcases h.all s hs with h1 | h1 | h1
      · exact .inl h1
      · cases h1
      · exact .inr h1
    · rcases hu with ⟨h1, h2⟩ | ⟨rfl, _⟩
      · rcases (h.seen u h1 h2).2 v hv with h3 | h3 | h3
        · exact .inl h3
        · cases h3
        · exact .inr h3
      · rw [lgrMem, scOut (by omega)] at hv
        cases hv.2
  unfold enB at he
  rw [Bool.or_eq_true, Bool.and_eq_true, Bool.and_eq_true, decide_eq_true_iff] at he
  rcases hst x hr with ⟨h1, h2⟩ | ⟨h1, h2⟩
  · rcases he with he | he
    · rw [(h.seen x h1 h2).1] at he; cases he
    · omega
  · rcases he with he | he
    · rw [rdOut (by omega)] at he; cases he
    · rw [h2] at he; cases he.1.2
/-- The first of the queue is one past the end, which doesn't count, or has been looked at. -/
theorem fdSkip (h : FdSt C ex r F n E (k :: Q)) (hk : (k = n ∧ ex = false) ∨ (k < n ∧ E k = true)) : FdSt C ex r F n E Q := by
  have hmem : ∀ y, y ∈ k :: Q → (y < n ∧ E y = true) ∨ y ∈ Q ∨ (y = n ∧ ex = false) := fun y hy => by
    rcases List.mem_cons.1 hy with rfl | hy
    · rcases hk with hk | hk
      · exact .inr (.inr hk)
      · exact .inl hk
    · exact .inr (.inl hy)
  refine ⟨fun x hx => h.inQ x (List.mem_cons_of_mem _ hx), fun x hx hE => ⟨(h.seen x hx hE).1, fun y hy => ?_⟩, fun s hs => ?_⟩
  · rcases (h.seen x hx hE).2 y hy with h1 | h1 | h1
    · exact .inl h1
    · exact hmem y h1
    · exact .inr (.inr h1)
  · rcases h.all s hs with h1 | h1 | h1
    · exact .inl h1
    · exact hmem s h1
    · exact .inr (.inr h1)
/-- It is looked at: it reads nothing; what comes behind it goes to the end of the queue. -/
theorem fdLook (hle : ∀ k y, y ∈ sc C k → y ≤ n) (h : FdSt C ex r F n E (k :: Q)) (hk : k < n) (hr : rdB C k r = false) {M : List Nat} (hM : ∀ y, y ∈ lgr C r k ↔ y ∈ M) : FdSt C ex r F n (with_ E k) (Q ++ M) := by
  have hw : ∀ y, E y = true → with_ E k y = true := fun y hy => by unfold with_; rw [hy]; simp
  have hwk : with_ E k k = true := by unfold with_; simp
  have hkr := (h.inQ k (by simp)).2
  have hmem : ∀ y, y ∈ k :: Q → (y < n ∧ with_ E k y = true) ∨ y ∈ Q ++ M ∨ (y = n ∧ ex = false) := fun y hy => by
    rcases List.mem_cons.1 hy with rfl | hy
    · exact .inl ⟨hk, hwk⟩
    · exact .inr (.inl (List.mem_append_left _ hy))
  refine ⟨fun x hx => ?_, fun x hx hE => ?_, fun s hs => ?_⟩
  · rcases List.mem_append.1 hx with hx | hx
    · exact h.inQ x (List.mem_cons_of_mem _ hx)
    · have hx' := (hM x).2 hx
      obtain ⟨s, hs, hrc⟩ := hkr
      exact ⟨hle k x (lgrMem.1 hx').2, s, hs, hrc.snoc hx' rfl⟩
  · by_cases e : x = k
    · subst e
      exact ⟨hr, fun y hy => .inr (.inl (List.mem_append_right _ ((hM y).1 hy)))⟩
    · have hE' : E x = true := by
        unfold with_ at hE
        simpa [e] using hE
      refine ⟨(h.seen x hx hE').1, fun y hy => ?_⟩
      rcases (h.seen x hx hE').2 y hy with h1 | h1 | h1
      · exact .inl ⟨h1.1, hw y h1.2⟩
      · exact hmem y h1
      · exact .inr (.inr h1)
  · rcases h.all s hs with h1 | h1 | h1
    · exact .inl ⟨h1.1, hw s h1.2⟩
    · exact hmem s h1
    · exact .inr (.inr h1)
theorem fdFirst (h : FdSt C ex r F n E (k :: Q)) : k ≤ n ∧ RcF C r F k := h.inQ k (by simp)
end
end Go.Proofs.YtjdimlofdblgdaaDoor

namespace Go.Proofs.YtjdimlofdblgdaaDoor
open Go Go.RowKit Go.Shelf

def ceT (X : World) (g x : Nat) : Bool := match X.cell? ⟨g, x, none⟩ with
  | some (.bool b) => b
  | _ => false
def slNL : Value → Nat
  | .slice _ n _ => n
  | _ => 0
theorem ceE {X : World} {g n n1 : Nat} {E : Nat → Bool} (h : RowB X g n1 E) (hn : n ≤ n1) : cnE n (ceT X g) = cnE n E := by
  unfold cnE
  congr 1
  refine List.filter_congr fun x hx => ?_
  unfold ceT
  rw [h.cell (by have := List.mem_range.1 hx; omega)]
/-- The successors as they are given. -/
def scM (C : List I8) (k : Nat) : List Nat := (scS C k).map Int.toNat
theorem scMMap {C : List I8} {k : Nat} : (scM C k).map Int.ofNat = scS C k := by
  unfold scM
  rw [List.map_map]
  have : ∀ x ∈ scS C k, (Int.ofNat ∘ Int.toNat) x = x := fun x hx => by
    obtain ⟨y, _, rfl⟩ := scSMem.1 hx
    rfl
  exact (List.map_congr_left this).trans (List.map_id _)
theorem scMMem {C : List I8} {k y : Nat} : y ∈ scM C k ↔ y ∈ sc C k := by
  unfold scM
  rw [List.mem_map]
  constructor
  · rintro ⟨x, hx, rfl⟩
    obtain ⟨y, hy, rfl⟩ := scSMem.1 hx
    exact hy
  · intro hy
    exact ⟨(y : Int), scSMem.2 ⟨y, hy, rfl⟩, rfl⟩
set_option maxRecDepth 100000 in
set_option maxHeartbeats 8000000 in
theorem rFinds (nm : ByteArray) (C : List I8) (hc : cfE C = 0) (n : Nat) (hn : C.length = n) (F : List Nat) (hF : ∀ s, s ∈ F → s ≤ n) (hFl : F.length ≤ 1000) (mf : Nat) (hmf : F.length = mf) (r : Int) (ex : Bool) (hex : ex = true → rgB r = true) (A : Option Addr) (c : Nat) (Af : Option Addr) (cf : Nat) (w : World) (h : CdW w A c C) (hf : Rd w Af cf (F.map Int.ofNat)) :
    Calls Tryd.prog 21 #[fnV nm A n c, .slice Af mf cf, .int .i64 r, .bool ex] w fun e w' => e = .returned (.bool (fdB C ex r F)) ∧ Below w.heap.size w w' := by
  obtain ⟨W, hW⟩ : ∃ W, w.alloc (.cells #[.string nm, .slice A n c] 24) = W := ⟨_, rfl⟩
  have hbW : Below w.heap.size w W := by rw [← hW]; exact belowAlloc w _
  have hB : Blk W w.heap.size 24 #[.string nm, .slice A n c] := by rw [← hW]; exact Blk.new w _ _
  have HKB := Lib.hid (fun X (hX : Below W.heap.size W X) => (⟨(hB.below' hX).cell 0, (hB.below' hX).cell 1⟩ : X.cell? ⟨w.heap.size, 0, none⟩ = some (.string nm) ∧ X.cell? ⟨w.heap.size, 1, none⟩ = some (.slice A n c)))
  obtain ⟨k0, k1⟩ := HKB.out W (Below.refl _ _)
  have hok := cfOk hc
  have h64 := hok.len
  rw [hn] at h64
  have HCD := Lib.hid (fun X (hX : Below W.heap.size W X) => (h.below hbW).below hX)
  have HNX := Lib.hid (fun k (hk : k < n) X (hX : Below W.heap.size W X) => by
    have e := nxAtL hc hn hk
    have := rNx12 nm C n hn (k : Int) A c X ((h.below hbW).below hX)
    rw [e.1, e.2] at this
    exact this)
  have HLE := Lib.hid (fun k y (hy : y ∈ sc C k) => (show y ≤ n by have := (scLe hok hy).2; omega))
  unfold fnV at HNX ⊢
  have hle := h.rd.le
  have hmx := h.rd.max
  rw [hn] at hle
  unfold maxLen at hmx
  obtain ⟨i0, hi, hz0, hz1, hz2⟩ := info_parts infoBool9
  obtain ⟨n1, hn1⟩ : ∃ n1, n + 1 = n1 := ⟨_, rfl⟩
  have hwn : IntKind.i64.wrap ((n : Int) + 1) = (n1 : Int) := by rw [IntKind.wrap_i64]; omega
  have HBY := Lib.hid (show i0.bytes * n1 ≤ 281474976710656 by rw [hz2]; omega)
  have HNM := Lib.hid (show n1 ≤ maxLen by unfold maxLen; omega)
  have HF := Lib.hid hF
  have HFR := Lib.hid (fun X (hX : Below W.heap.size W X) => Rd.below (Rd.below hf hbW) hX)
  have hfc := hf.le
  have hfm := hf.max
  rw [List.length_map, hmf] at hfc
  unfold maxLen at hfm
  have HEX := Lib.hid hex
  have HN := Lib.hid hn
  have HBW := Lib.hid hbW
  have HWE := Lib.hid hW
  have HMF := Lib.hid hmf
  clear hB hW h hok hn hbW hc hF hf hex
  go_enter Tryd.func21, Tryd.ntmps21
  go_wp2_with (first
    | (at_make; rw [HWE.out]; refine wpList_make_full _ rfl (.tmp 19) (.tmp 19) 72 rfl 0 4 i0 _ 1 Tryd.underlying72 hi hz0 hz1 .i64 .i64 _ _ n1 rfl rfl rfl rfl HBY.out HNM.out (Nat.zero_le _) ?_; intro w2 o2 g2; have hrow := RowB.made o2; have hbe : Below W.heap.size W w2 := (Below.refl _ W).grown g2 (Nat.le_refl _) (fun k hk => by cases hk); have HR2 := Lib.hid hrow; have HB2 := Lib.hid hbe; have HRL := Lib.hid hrow.lt; clear o2 g2 hrow hbe)
    | (at_builtin; refine appQ _ rfl (.tmp 21) (.tmp 22) rfl (W.heap.size + 1) (.slice (some ⟨w2.heap.size, 0, none⟩) 0 0) [] rfl (OwnQ.ofOwn (show OwnI (w2.alloc (.cells #[] 3)) (W.heap.size + 1) (.slice (some ⟨w2.heap.size, 0, none⟩) 0 0) [] from ⟨rfl, .inr ⟨w2.heap.size, 0, #[], rfl, HRL.out, heap_alloc_new w2 _, Nat.le_refl _, by unfold maxLen; omega, rfl, rfl⟩⟩)) Af mf cf (F.map Int.ofNat) rfl (by rw [List.length_map, HMF.out]) (Rd.below (HFR.out w2 HB2.out) (belowAlloc w2 _)) (by simp; omega) (by have := HRL.out; simp; omega) ?_; intro v3 w3 q3; have HQ3 := Lib.hid q3; clear q3)
    | fail)
  obtain ⟨ho3, hc3, hm3⟩ := HQ3.out
  rw [List.nil_append] at ho3
  have hb3 : Below W.heap.size W w3 := by
    have h1 : Below W.heap.size W (w2.alloc (.cells #[] 3)) := HB2.out.alloc HB2.out.size _
    exact ⟨hc3.os.trans h1.os, hc3.tape.trans h1.tape, hc3.output.trans h1.output, Nat.le_trans h1.size hc3.size, fun k hk => (hc3.block k (Nat.lt_of_lt_of_le hk h1.size) fun e => by
      have e : w2.heap.size = k := by simpa [Value.ownBlock] using e
      have := HRL.out; omega).trans (h1.block k hk)⟩
  have HB3 := Lib.hid hb3
  have HO3 := Lib.hid ho3
  have HR3 := Lib.hid ((HR2.out.chg (Chg.ofBelow (belowAlloc w2 (.cells #[] 3)) fun _ => True) trivial).chg hc3 fun e => by
    have e : w2.heap.size = W.heap.size := by simpa [Value.ownBlock] using e
    have := HRL.out; omega)
  have HS3 := Lib.hid (fdStart (C := C) (ex := ex) (r := r) (n := n) HF.out)
  have HL3 : Hid (3 * (n - cnE n (fun _ => false)) + F.length ≤ 3000) := Lib.hid (by omega)
  clear ho3 hc3 hm3 hb3 HR2 HB2 HRL HQ3 hi hz0 hz1 hz2 HBY HNM hwn k0 k1 HFR
  go_wp2_with fail
  go_loopw [10] (fun v X => ∃ (E : Nat → Bool) (Q : List Nat), Hid (OwnQ X (W.heap.size + 1) v (Q.map Int.ofNat)) ∧ Hid (FdSt C ex r F n E Q) ∧ Hid (RowB X W.heap.size n1 E) ∧ Hid (Below W.heap.size W X) ∧ Hid (3 * (n - cnE n E) + Q.length ≤ 3000)) (fun v X => 3 * (n - cnE n (ceT X W.heap.size)) + slNL v)
  case atStart => exact ⟨_, _, HO3, HS3, HR3, HB3, HL3⟩
  case round =>
    clear HO3 HS3 HR3 HB3 HL3
    obtain ⟨E, Q, HQ, HS, HR, HB, HL⟩ := hrel
    obtain ⟨Aq, cq, rfl, hrq, _⟩ := HQ.out.rd
    cases Q with
    | nil =>
      have HNO := Lib.hid (fdNone HN.out HS.out)
      go_wp2
      go_ret
      exact ⟨by rw [HNO.out]; rfl, belowThen HBW.out HB.out⟩
    | cons u t =>
      obtain ⟨hun, hur⟩ := fdFirst HS.out
      obtain ⟨T, hT, hql, hqc, hQT⟩ := cutQ (t := t.map Int.ofNat) HQ.out
      have HQT := Lib.hid (hQT wr HQ.out)
      obtain ⟨ad, eA, _, hc0⟩ := hrq.one (k := 0) (by simp)
      subst eA
      have hc0 : wr.cell? ad = some (.int .i64 (u : Int)) := hc0
      have HM := Lib.hid (ceE HR.out (n := n) (by omega))
      obtain ⟨q, hq⟩ : ∃ q, ((u :: t).map Int.ofNat).length = q := ⟨_, rfl⟩
      rw [hq] at hT hql hqc HQT ⊢
      rw [List.length_map] at hql
      have HQL := Lib.hid hql
      have hmq := Rd.max hrq
      unfold maxLen at hmq
      obtain ⟨k0, k1⟩ := HKB.out wr HB.out
      have hq0 : 0 < q := by omega
      have hq1 : (0 : Int) < q := by omega
      have hu0 : (0 : Int) ≤ u := by omega
      have hu1 : (u : Int) < n1 := by omega
      have hce := HR.out.cell (i := u) (by omega)
      have HUR := Lib.hid hur
      clear hrq hQT hq hql hur
      by_cases hu : u = n
      · cases ex with
        | true =>
          have HY : Hid (fdB C true r F = true) := Lib.hid (fdYes HUR.out (by
            have h1 : decide (u = C.length) = true := decide_eq_true (by have := HN.out; omega)
            unfold enB
            rw [h1, HEX.out rfl]; simp))
          have hue : ((u : Int) == (n : Int)) = true := by simp [hu]
          go_wp2
          all_goals first
            | (exfalso; omega)
            | (go_ret; exact ⟨by rw [HY.out]; rfl, belowThen HBW.out HB.out⟩)
        | false =>
          have HS2 := Lib.hid (fdSkip HS.out (.inl ⟨hu, rfl⟩))
          have HL2 : Hid (3 * (n - cnE n E) + t.length ≤ 3000) := Lib.hid (by have := HL.out; rw [List.length_cons] at this; omega)
          have hue : ((u : Int) == (n : Int)) = true := by simp [hu]
          go_wp2
          all_goals first
            | (exfalso; omega)
            | skip
          all_goals go_roundw
          case rel => exact ⟨E, t, HQT, HS2, HR, HB, HL2⟩
          case measure => show _ + (q - 1) < _ + q; omega
      · have hul : u < n := by omega
        have hue : ((u : Int) == (n : Int)) = false := by simp; omega
        cases hE : E u with
        | true =>
          rw [hE] at hce
          have HS2 := Lib.hid (fdSkip HS.out (.inr ⟨hul, hE⟩))
          have HL2 : Hid (3 * (n - cnE n E) + t.length ≤ 3000) := Lib.hid (by have := HL.out; rw [List.length_cons] at this; omega)
          go_wp2
          all_goals first
            | (exfalso; omega)
            | skip
          all_goals go_roundw
          case rel => exact ⟨E, t, HQT, HS2, HR, HB, HL2⟩
          case measure => show _ + (q - 1) < _ + q; omega
        | false =>
          rw [hE] at hce
          have fu := HR.out.frozen u
          obtain ⟨X1, hX1⟩ : ∃ X1, wr.setCell ⟨W.heap.size, u, none⟩ (.bool true) = X1 := ⟨_, rfl⟩
          have hcg : Chg wr X1 (fun q => q ≠ W.heap.size) := by rw [← hX1]; exact ⟨rfl, rfl, rfl, by simp, fun k _ hk => heap_setCell_other _ ⟨W.heap.size, u, none⟩ k _ hk⟩
          have HR1 := Lib.hid (show RowB X1 W.heap.size n1 (with_ E u) by rw [← hX1]; exact HR.out.set u)
          have HQ1 := Lib.hid (HQT.out.chg hcg fun q hq => by omega)
          have hb1 : Below W.heap.size W X1 := ⟨hcg.os.trans HB.out.os, hcg.tape.trans HB.out.tape, hcg.output.trans HB.out.output, Nat.le_trans HB.out.size hcg.size, fun k hk => (hcg.block k (Nat.lt_of_lt_of_le hk HB.out.size) (show k ≠ W.heap.size by omega)).trans (HB.out.block k hk)⟩
          have HB1 := Lib.hid hb1
          have huC : u < C.length := by rw [HN.out]; exact hul
          obtain ⟨qi, off, hA, _, hEI⟩ := ((HCD.out X1 hb1).rd).one huC
          obtain ⟨ii, hii⟩ : ∃ ii, C[u] = ii := ⟨_, rfl⟩
          have hrd := rdAt huC r
          have hwr := wrAt huC r
          rw [hii] at hEI hrd hwr
          clear hii
          obtain ⟨op, ra, rb, rc, obj, m, fn, ord⟩ := ii
          have HEI : Hid (∀ Z, Below X1.heap.size X1 Z → EI Z qi (off + u * 8) (I8.mk8 op ra rb rc obj m fn ord)) := Lib.hid fun Z hZ => stabI X1 Z qi _ _ (by assumption) hZ hEI
          obtain ⟨i0, i1, i2, i3, i4, i5, i6, i7⟩ := hEI
          simp only at i0 i1 i2 i3 i4 i5 i6 i7
          obtain ⟨m0, m1⟩ := HKB.out X1 hb1
          obtain ⟨R, hR⟩ : ∃ R, (I8.mk8 op ra rb rc obj m fn ord).dfR = R := ⟨_, rfl⟩
          obtain ⟨p, hp⟩ : ∃ p, (I8.mk8 op ra rb rc obj m fn ord).dfB = p := ⟨_, rfl⟩
          obtain ⟨us, hus⟩ : ∃ us, (I8.mk8 op ra rb rc obj m fn ord).uses = us := ⟨_, rfl⟩
          have hful : us.length ≤ 2 := by rw [← hus]; exact useLen _
          have HDE := Lib.hid (fun X => rDefs (I8.mk8 op ra rb rc obj m fn ord) R p hR hp X)
          have HUC := Lib.hid (rUses (I8.mk8 op ra rb rc obj m fn ord) us hus X1)
          rw [hus] at hrd
          rw [hR, hp] at hwr
          obtain ⟨rd, hrdv⟩ : ∃ rd, memB us r = rd := ⟨_, rfl⟩
          have hrd2 : rdB C u r = rd := by rw [hrd, ← hrdv]; rfl
          have HCN := Lib.hid (show 3 * (n - cnE n (with_ E u)) + 3 = 3 * (n - cnE n E) by
            have h1 := cnEUp (n := n) hul hE
            have h2 := cnELe (n := n) (E := with_ E u)
            omega)
          have HXE := Lib.hid hX1
          subst hA
          have hu2 : (u : Int) < n := by omega
          clear hcg hb1 hR hp hus hrd
          rw [← hX1] at m0 m1 i0 i1 i2 i3 i4 i5 i6 i7
          clear hX1
          go_wp2_with fail
          rw [HXE.out]
          refine HUC.out.mono ?_
          rintro e w4 ⟨A4, c4, rfl, r4, b4⟩
          have HHA := Lib.hid (rHas us r rd hrdv A4 c4 w4 r4)
          have HB4 := Lib.hid b4
          clear m0 m1 i0 i1 i2 i3 i4 i5 i6 i7 r4 b4
          obtain ⟨m4, hm4⟩ : ∃ m4, us.length = m4 := ⟨_, rfl⟩
          rw [hm4] at HHA ⊢
          clear hm4
          go_wp2_with fail
          refine HHA.out.mono ?_
          rintro e w5 ⟨rfl, rfl⟩
          have HBW4 := Lib.hid (belowThen HB1.out HB4.out)
          cases rd with
          | true =>
            have HY := Lib.hid (fdYes (ex := ex) HUR.out (by unfold enB; rw [hrd2]; rfl))
            go_wp2
            go_ret
            exact ⟨by rw [HY.out]; rfl, belowThen HBW.out HBW4.out⟩
          | false =>
            obtain ⟨m0, m1⟩ := HKB.out w4 HBW4.out
            obtain ⟨i0, i1, i2, i3, i4, i5, i6, i7⟩ := HEI.out w4 HB4.out
            simp only at i0 i1 i2 i3 i4 i5 i6 i7
            have HDC := Lib.hid (HDE.out w4)
            go_wp2_with fail
            refine HDC.out.mono ?_
            rintro e w6 ⟨rfl, b6⟩
            have HB6 := Lib.hid (belowThen HB4.out b6)
            have HBW6 := Lib.hid (belowThen HBW4.out b6)
            have HR6 := Lib.hid (HR1.out.chg (Chg.ofBelow HB6.out fun _ => True) trivial)
            have HQ6 := Lib.hid (HQ1.out.below HB6.out)
            have HM6 := Lib.hid (ceE HR6.out (n := n) (by omega))
            clear b6 m0 m1 i0 i1 i2 i3 i4 i5 i6 i7
            by_cases hpr : p = true ∧ R = r
            · obtain ⟨rfl, rfl⟩ := hpr
              have HS6 := Lib.hid (fdLook HLE.out HS.out hul hrd2 (M := []) (fun y => by rw [lgrMem, hwr]; simp))
              rw [List.append_nil] at HS6
              have HL6 : Hid (3 * (n - cnE n (with_ E u)) + t.length ≤ 3000) := Lib.hid (by have h1 := HL.out; have h2 := HCN.out; rw [List.length_cons] at h1; omega)
              go_wp2
              all_goals first
                | (exfalso; omega)
                | skip
              all_goals go_roundw
              case rel => exact ⟨_, t, HQ6, HS6, HR6, HBW6, HL6⟩
              case measure => show 3 * (n - cnE n (ceT w6 W.heap.size)) + (q - 1) < 3 * (n - cnE n (ceT wr W.heap.size)) + q; have := HM6.out; have := HM.out; have := HCN.out; omega
            · have hwn : wrB C u r = false := by
                rw [hwr]
                cases p with
                | false => rfl
                | true => rw [decide_eq_false (fun e => hpr ⟨rfl, e⟩)]; rfl
              have HS6 := Lib.hid (fdLook HLE.out HS.out hul hrd2 (M := scM C u) (fun y => by rw [lgrMem, hwn, scMMem]; simp))
              have hsl := scSLen (C := C) (k := u)
              have HML := Lib.hid (show (scM C u).length ≤ 2 by unfold scM; rw [List.length_map]; exact hsl)
              have HNC := Lib.hid (HNX.out u hul w6 HBW6.out)
              obtain ⟨m0, m1⟩ := HKB.out w6 HBW6.out
              have hcond : p = false ∨ (p = true ∧ (R != r) = true) := by
                cases p with
                | false => exact .inl rfl
                | true => exact .inr ⟨rfl, by simpa using fun e => hpr ⟨rfl, e⟩⟩
              clear hpr hwn hwr HDC HHA
              rcases hcond with rfl | ⟨rfl, hrr⟩
              all_goals go_wp2_with fail
              all_goals (
                refine HNC.out.mono ?_
                rintro e w7 ⟨A8, c8, rfl, r8, b8⟩
                obtain ⟨m8, hm8⟩ : ∃ m8, (scS C u).length = m8 := ⟨_, rfl⟩
                have h8c := r8.le
                have h8m := r8.max
                unfold maxLen at h8m
                rw [hm8] at h8c hsl ⊢
                have HQ7 := Lib.hid (HQ6.out.below b8)
                have HR8 := Lib.hid r8
                have HM8 := Lib.hid hm8
                have HR7 := Lib.hid (HR6.out.chg (Chg.ofBelow b8 fun _ => True) trivial)
                have HBW7 := Lib.hid (belowThen HBW6.out b8)
                have htl : (t.map Int.ofNat).length + m8 ≤ 1000000 := by have := HL.out; rw [List.length_cons] at this; rw [List.length_map]; omega
                have HTL := Lib.hid htl
                have HGL := Lib.hid HR7.out.lt
                clear r8 b8 hm8 htl m0 m1
                go_wp2_with (first
                  | (at_builtin; refine appQ _ rfl (.tmp 84) (.tmp 85) rfl (W.heap.size + 1) (.slice T (q - 1) (cq - 1)) (t.map Int.ofNat) rfl HQ7.out A8 m8 c8 (scS C u) rfl HM8.out.symm HR8.out HTL.out (by have := HGL.out; omega) ?_; intro v9 w9 q9; have HQ9 := Lib.hid q9; clear q9)
                  | fail)
                obtain ⟨ho9, hc9, _⟩ := HQ9.out
                have hlt9 := fun g => HQ7.out.lt (g := g)
                have HO9 : Hid (OwnQ w9 (W.heap.size + 1) v9 ((t ++ scM C u).map Int.ofNat)) := Lib.hid (by rw [List.map_append, scMMap]; exact ho9)
                have HR9 := Lib.hid (HR7.out.chg hc9 fun e => by have := (hlt9 _ e).1; omega)
                have HB9 : Hid (Below W.heap.size W w9) := Lib.hid ⟨hc9.os.trans HBW7.out.os, hc9.tape.trans HBW7.out.tape, hc9.output.trans HBW7.out.output, Nat.le_trans HBW7.out.size hc9.size, fun k hk => (hc9.block k (Nat.lt_of_lt_of_le hk HBW7.out.size) fun e => by have := (hlt9 _ e).1; omega).trans (HBW7.out.block k hk)⟩
                have HM9 := Lib.hid (ceE HR9.out (n := n) (by omega))
                have HL9 : Hid (3 * (n - cnE n (with_ E u)) + (t ++ scM C u).length ≤ 3000) := Lib.hid (by have h1 := HL.out; have h2 := HCN.out; have h3 := HML.out; rw [List.length_cons] at h1; rw [List.length_append]; omega)
                have HV9 : Hid (slNL v9 = (t ++ scM C u).length) := Lib.hid (by
                  obtain ⟨A9, c9, rfl, _⟩ := HO9.out.rd
                  show ((t ++ scM C u).map Int.ofNat).length = _
                  rw [List.length_map])
                clear ho9 hc9 hlt9
                go_wp2
                go_roundw
                case rel => exact ⟨_, t ++ scM C u, HO9, HS6, HR9, HB9, HL9⟩
                case measure =>
                  show 3 * (n - cnE n (ceT w9 W.heap.size)) + slNL v9 < 3 * (n - cnE n (ceT wr W.heap.size)) + q
                  have h1 := HM9.out
                  have h2 := HM.out
                  have h3 := HCN.out
                  have h4 := HV9.out
                  have h5 := HML.out
                  have h6 := HQL.out
                  rw [List.length_append] at h4
                  omega)
end Go.Proofs.YtjdimlofdblgdaaDoor
