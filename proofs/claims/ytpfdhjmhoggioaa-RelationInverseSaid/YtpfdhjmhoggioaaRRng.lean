/-
  A range over a set of pairs, by which pairs are still to come; the contract of the library's Copy at sets of pairs.
-/
import Derived.Test.YtpfdhjmhoggioaaRTop
namespace Go.Proofs.Ytpfdhjmhoggioaa
open Go.RowKit Go.Maps

/-- Block b is a set that holds just the pairs of S; block r is a range over it; those of L are still to come, cnt of them. -/
def RngP (w : World) (b r n : Nat) (S L : Int → Int → Bool) (cnt : Nat) : Prop :=
  ∃ (D : DataW Value) (left : Lit → Bool), w.ranges Try.prog 38 RT b r n D left cnt ∧ (∀ x y, wfP x y → has D (keyP x y) = S x y) ∧ ∀ x y, wfP x y → left (keyP x y) = L x y
section
variable {w w' : World} {b r n cnt : Nat} {S L : Int → Int → Bool}
theorem RngP.left_eq (h : RngP w b r n S L cnt) : w.rangeLeft b r = cnt := by obtain ⟨D, left, h, _⟩ := h; exact h.left_eq
theorem RngP.lt (h : RngP w b r n S L cnt) : b < w.heap.size ∧ r < w.heap.size := by obtain ⟨D, left, h, _⟩ := h; exact ⟨h.owns.lt, h.lt⟩
theorem RngP.chg {F : Nat → Prop} (h : RngP w b r n S L cnt) (hc : Chg w w' F) (hb : F b) (hr : F r) : RngP w' b r n S L cnt := by
  obtain ⟨D, left, h, h1, h2⟩ := h
  have hlb := h.owns.lt
  have hlr := h.lt
  obtain ⟨es, clock, since, seen, c0, e1, F1, hs, hD, e2, rest⟩ := h
  exact ⟨D, left, ⟨es, clock, since, seen, c0, (hc.block b hlb hb).trans e1, F1, hs, hD, (hc.block r hlr hr).trans e2, rest⟩, h1, h2⟩
theorem RngP.alloc (h : RngP w b r n S L cnt) (o : Obj) : RngP (w.alloc o) b r n S L cnt := h.chg (Chg.alloc w o fun _ => True) trivial trivial
theorem RngP.owns (h : RngP w b r n S L cnt) : MapP w b n S := by obtain ⟨D, left, h, h1, h2⟩ := h; exact ⟨D, h.owns, h1⟩
theorem RngP.congr {L' : Int → Int → Bool} (h : RngP w b r n S L cnt) (hL : ∀ x y, wfP x y → L x y = L' x y) : RngP w b r n S L' cnt := by
  obtain ⟨D, left, h, h1, h2⟩ := h
  exact ⟨D, left, h, h1, fun x y hw => (h2 x y hw).trans (hL x y hw)⟩
end
theorem wpList_rangeP (w : World) {ops : Array Oper} {rest : List Oper} {o : Oper} {a : Act} {Q : Exit → Act → World → Prop}
    (hg : o.guard = none) (m : Operand) (hop : o.op = Op.range 42 m) (b n : Nat) (S : Int → Int → Bool) (hm : a.eval m = .map (some b)) (hown : MapP w b n S)
    (hK : ∀ w' cnt, RngP w' b w.heap.size n S S cnt → cnt ≤ n → Below w.heap.size w w' → w'.heap.size = w.heap.size + 1 → wpList Try.prog ops Q rest (a.put o.dst (.pointer (some ⟨w.heap.size, 0, none⟩))) w') :
    wpList Try.prog ops Q (o :: rest) a w := by
  obtain ⟨D, hD, hS⟩ := hown
  refine wpList_range_own w hg m 42 hop 38 4 keyedPair Try.underlying42 RT b n D hm hD fun w' h1 h2 h3 => hK w' _ ⟨D, _, h1, hS, hS⟩ hD.size_le ?_ h3
  exact (Below.refl _ w).grown h2 (Nat.le_refl _) (fun k hk => by cases hk)
/-- Nothing is still to come. -/
def NoneP (L : Int → Int → Bool) : Prop := ∀ x y, wfP x y → L x y = false
/-- The pair (x, y) has come. -/
structure NextP (w w' : World) (b r n : Nat) (S L : Int → Int → Bool) (cnt cnt' : Nat) (x y : Int) : Prop where
  wf : wfP x y
  was : L x y = true
  rng : RngP w' b r n S (fun u v => L u v && !decide (u = x ∧ v = y)) cnt'
  lt : cnt' < cnt
  grown : w.grownBy w' (some r)
  size : w'.heap.size = w.heap.size
theorem wpList_nextP (w : World) {ops : Array Oper} {rest : List Oper} {o : Oper} {a : Act} {Q : Exit → Act → World → Prop}
    (hg : o.guard = none) (it : Operand) (hop : o.op = Op.next it false) (b r n : Nat) (S L : Int → Int → Bool) (cnt : Nat) (hit : a.eval it = .pointer (some ⟨r, 0, none⟩)) (h : RngP w b r n S L cnt)
    (hDone : NoneP L → wpList Try.prog ops Q rest (a.put o.dst (.tuple #[.bool false])) w)
    (hMore : ∀ (x y : Int) (w' : World) (cnt' : Nat), NextP w w' b r n S L cnt cnt' x y →
      (Instr.entry (.pointer (some ⟨r, 0, none⟩))).run Try.prog w' = .ok (.tuple #[pairV x y, .bool true]) w' → wpList Try.prog ops Q rest (a.put o.dst (.tuple #[.bool true, pairV x y, .bool true])) w') :
    wpList Try.prog ops Q (o :: rest) a w := by
  obtain ⟨D, left, h, hS, hL⟩ := h
  refine wpList_next_ranges w hg it hop 38 keyedPair RT (fun p : Int × Int => pairV p.1 p.2) (fun _ : Unit => .bool true) (fun key kl hk => by obtain ⟨p, hp, _⟩ := keyOfPairInv hk; exact ⟨p, hp⟩) (fun v y hv => ⟨(), rtTrue hv⟩) b r n D left cnt hit h
    (fun _ hl => hDone fun x y hw => by rw [← hL x y hw]; exact hl _) ?_
  intro p c kl yd w' cnt' hkey hlk hv hat hrg hlt hg hs hen
  obtain ⟨⟨x, y⟩, ep, hw1, hw2, rfl⟩ := keyOfPairInv hkey
  obtain ⟨px, py⟩ := p
  obtain ⟨rfl, rfl⟩ : px = x ∧ py = y := by simpa using ep
  refine hMore px py w' cnt' ⟨⟨hw1, hw2⟩, (by rw [← hL px py ⟨hw1, hw2⟩]; exact hlk), ⟨D, _, hrg, hS, fun u v huv => ?_⟩, hlt, hg, hs⟩ hen
  show (left (keyP u v) && !(keyP u v).sameKey (keyP px py)) = (L u v && !decide (u = px ∧ v = py))
  rw [sameP ⟨hw1, hw2⟩ huv, hL u v huv]

set_option maxHeartbeats 1000000 in
theorem iCopy (bd bs nd ns : Nat) (D S : Int → Int → Bool) (hne : bd ≠ bs) (hs : nd ≤ 65536) (hs' : ns ≤ 65536) (w : World) (hd : MapP w bd nd D) (hsrc : MapP w bs ns S) :
    Calls Try.prog 38 #[.map (some bd), .map (some bs)] w fun e w' => e = .returned (.tuple #[]) ∧ MapP w' bd (nd + ns) (fun x y => D x y || S x y) ∧ Chg w w' (fun g => g ≠ bd) := by
  have HD := Lib.hid hd; clear hd
  have HS := Lib.hid hsrc; clear hsrc
  have hlt := HD.out.lt
  have hlt' := HS.out.lt
  go_enter Try.func38, Try.ntmps38
  go_wp2_with (at_range; refine wpList_rangeP w rfl (.tmp 6) rfl bs ns S rfl HS.out ?_; intro w0 cnt0 hr0 hc0 hb0 hz0; have HR0 := Lib.hid hr0; have HB0 := Lib.hid hb0; clear hr0 hb0)
  go_frame
  go_loopw [5, 8] (fun _ _ wr => ∃ (L : Int → Int → Bool) (cnt k : Nat), k + cnt ≤ ns ∧ Hid (RngP wr bs w.heap.size ns S L cnt) ∧ Hid (MapP wr bd (nd + k) (fun x y => D x y || (S x y && !L x y))) ∧ Hid (Chg w wr (fun g => g ≠ bd)) ∧ Hid (∀ x y, L x y = true → S x y = true)) (fun _ _ wr => wr.rangeLeft bs w.heap.size)
  case atStart => exact ⟨S, cnt0, 0, by omega, HR0, Lib.hid ((HD.out.below HB0.out).congr fun x y _ => by cases D x y <;> cases S x y <;> rfl), Lib.hid (Chg.ofBelow HB0.out _), Lib.hid fun _ _ h => h⟩
  case round =>
    clear HR0 HB0 HD HS
    obtain ⟨L, cnt, k, hk, HR, HM, HC, HL⟩ := hrel
    have hsz := HC.out.size
    go_wp2_with (at_next; refine wpList_nextP _ rfl _ rfl bs w.heap.size ns S L cnt rfl HR.out ?_ ?_)
    · intro hdone
      have HM2 := Lib.hid ((HM.out.congr (T := fun x y => D x y || S x y) fun x y hw => by show (D x y || (S x y && !L x y)) = (D x y || S x y); rw [hdone x y hw]; simp).mono (m := nd + ns) (by omega))
      clear hdone
      go_wp2
      go_end0
      exact ⟨rfl, HM2.out, HC.out⟩
    · intro x y w2 cnt2 hx hen
      obtain ⟨hw, hl, hr2, hlt2, hg2, hz2⟩ := hx
      have HW := Lib.hid hw; clear hw
      have hsx := HL.out x y hl
      have HR2 := Lib.hid hr2; clear hr2
      have HM2 := Lib.hid ((HM.out.chg (Chg.ofGrown hg2 (F := fun g => g ≠ w.heap.size) fun k hk e => hk (by injection e with e; exact e.symm)) (show bd ≠ w.heap.size by omega)).alloc (.cells #[.int .i64 x, .int .i64 y] 38))
      have HG2 := Lib.hid (Chg.ofGrown hg2 (F := fun g => g ≠ bd ∧ g < w.heap.size) fun k hk e => by injection e with e; omega)
      clear hg2
      go_wp2_with (at_mapUpdate; refine wpList_putP _ rfl (.tmp 13) (.tmp 14) (.tmp 15) rfl bd (nd + k) _ HM2.out (by unfold maxLen; omega) rfl x y rfl HW.out rfl ?_; intro w4 m4 g4; have HM4 := Lib.hid m4; have G4 := Lib.hid g4; clear m4 g4)
      have HC4 := Lib.hid (Chg.ofGrown G4.out (F := fun g => g ≠ bd) fun k hk e => hk (by injection e with e; exact e.symm))
      have HR4 := Lib.hid ((HR2.out.alloc (.cells #[.int .i64 x, .int .i64 y] 38)).chg HC4.out (Ne.symm hne) (show w.heap.size ≠ bd by omega))
      have hz4 := G4.out.size
      simp only [Act.put]
      go_roundw
      case rel =>
        refine ⟨_, cnt2, k + 1, by omega, HR4, Lib.hid (HM4.out.congr fun u v _ => ?_), Lib.hid ?_, Lib.hid fun u v h => HL.out u v ?_⟩
        · show ((D u v || (S u v && !L u v)) || decide (u = x ∧ v = y)) = (D u v || (S u v && !(L u v && !decide (u = x ∧ v = y))))
          by_cases e : u = x ∧ v = y
          · obtain ⟨rfl, rfl⟩ := e
            simp [hsx]
          · rw [decide_eq_false e]; simp
        · exact ⟨HC4.out.os.trans (HG2.out.os.trans HC.out.os), HC4.out.tape.trans (HG2.out.tape.trans HC.out.tape), HC4.out.output.trans (HG2.out.output.trans HC.out.output), by have := HC4.out.size; simp at this; omega, fun g hg hF => by
            rw [HC4.out.block g (by simp; omega) hF, (belowAlloc _ _).block g (by omega), HG2.out.block g (by omega) ⟨hF, hg⟩, HC.out.block g hg hF]⟩
        · rw [Bool.and_eq_true] at h; exact h.1
      case measure => rw [HR4.out.left_eq, HR.out.left_eq]; exact hlt2
end Go.Proofs.Ytpfdhjmhoggioaa
