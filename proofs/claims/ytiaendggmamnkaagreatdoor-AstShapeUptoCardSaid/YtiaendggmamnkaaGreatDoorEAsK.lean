/-
  A visit's stack: the parts in the row (the last one is visited next) read as the lists of trees that are still to be visited.
-/
import Derived.Test.YtiaendggmamnkaaGreatDoorEAsW
import Derived.Test.YtiaendggmamnkaaGreatDoorEOp
namespace Go.Proofs.YtiaendggmamnkaaGreatDoor
open Go Go.RowKit

section
variable {β : Type} {k : Nat} {E : World → Nat → Nat → Tr β → Prop} {w w' : World}
/-- The parts, the next one first, read as the lists of the stack. -/
def StkR (k : Nat) (E : World → Nat → Nat → Tr β → Prop) (w : World) : List PtA → List (List (Tr β) × Nat) → Prop
  | [], [] => True
  | p :: L, (ts, l) :: S => p.l = l ∧ p.n = ts.length ∧ ts ≠ [] ∧ RdE k E w p.A p.c ts ∧ StkR k E w L S
  | _, _ => False
theorem StkR.below (hE : StabE E) (hb : Below w.heap.size w w') : ∀ {L : List PtA} {S : List (List (Tr β) × Nat)}, StkR k E w L S → StkR k E w' L S
  | [], [], _ => trivial
  | _ :: _, (_, _) :: _, ⟨h1, h2, h3, h4, h5⟩ => ⟨h1, h2, h3, h4.below hE hb, StkR.below hE hb h5⟩
  | [], _ :: _, h => h.elim
  | _ :: _, [], h => h.elim
theorem StkR.full : ∀ {L : List PtA} {S : List (List (Tr β) × Nat)}, StkR k E w L S → Tr.Full S
  | [], [], _ => fun _ h => by cases h
  | _ :: _, (_, _) :: _, ⟨_, _, h3, _, h5⟩ => fun q hq => by
    rcases List.mem_cons.1 hq with rfl | hq
    · exact h3
    · exact h5.full q hq
  | [], _ :: _, h => h.elim
  | _ :: _, [], h => h.elim
theorem StkR.len : ∀ {L : List PtA} {S : List (List (Tr β) × Nat)}, StkR k E w L S → L.length = S.length
  | [], [], _ => rfl
  | _ :: _, (_, _) :: _, ⟨_, _, _, _, h5⟩ => by simp [h5.len]
  | [], _ :: _, h => h.elim
  | _ :: _, [], h => h.elim
/-- A stack never holds more parts than elements are left. -/
theorem StkR.le {L : List PtA} {S : List (List (Tr β) × Nat)} (h : StkR k E w L S) : L.length ≤ (Tr.flat S).length := by
  rw [h.len]
  exact Tr.stackLe h.full
theorem StkR.nilIff {L : List PtA} {S : List (List (Tr β) × Nat)} (h : StkR k E w L S) : L = [] ↔ Tr.flat S = [] := by
  rw [Tr.flatNil h.full]
  have h1 := h.len
  constructor
  · rintro rfl
    exact List.eq_nil_of_length_eq_zero h1.symm
  · rintro rfl
    exact List.eq_nil_of_length_eq_zero h1
/-- The next one to be visited. -/
theorem StkR.next {p : PtA} {L : List PtA} {S : List (List (Tr β) × Nat)} (h : StkR k E w (p :: L) S) : ∃ t r S', S = (t :: r, p.l) :: S' ∧ p.n = r.length + 1 ∧ RdE k E w p.A p.c (t :: r) ∧ StkR k E w L S' := by
  match S, h with
  | (ts, l) :: S', ⟨h1, h2, h3, h4, h5⟩ =>
    cases ts with
    | nil => exact absurd rfl h3
    | cons t r => exact ⟨t, r, S', by rw [h1], by rw [h2]; simp, h4, h5⟩
/-- push, on both sides: the row grows at its end. -/
theorem StkR.push {A : Option Addr} {c l : Nat} {ts : List (Tr β)} {L : List PtA} {S : List (List (Tr β) × Nat)} (h : StkR k E w L S) (hr : RdE k E w A c ts) :
    ∃ L', StkR k E w L' (Tr.psh ts l S) ∧ pshA ⟨A, ts.length, c, l⟩ L.reverse = L'.reverse := by
  unfold Tr.psh pshA
  by_cases he : ts = []
  · subst he
    exact ⟨L, by rw [if_pos rfl]; exact h, by rw [if_pos (by simp)]⟩
  · have hn : ts.length ≠ 0 := fun e => he (List.eq_nil_of_length_eq_zero e)
    exact ⟨⟨A, ts.length, c, l⟩ :: L, by rw [if_neg he]; exact ⟨rfl, rfl, he, hr, h⟩, by rw [if_neg hn]; simp⟩
/-- The rest of a list, one element on. -/
theorem RdE.tail16 {α : Type} {k : Nat} {E : World → Nat → Nat → α → Prop} {w : World} {b off c : Nat} {x : α} {l : List α} (h : RdE k E w (some ⟨b, off, none⟩) c (x :: l)) (hc : 1 ≤ c) : RdE k E w (some ⟨b, off + k, none⟩) (c - 1) l := by
  refine ⟨by have := h.le; simp at this; omega, by have := h.max; omega, fun _ => ?_⟩
  obtain ⟨b', off', e, hb, hc⟩ := h.at_ (by simp)
  injection e with e
  injection e with e1 e2 _
  subst e1 e2
  refine ⟨b, off + k, rfl, hb, fun j hj => ?_⟩
  have h9 := hc (j + 1) (by simp; omega)
  rw [show off + k + j * k = off + (j + 1) * k by rw [Nat.add_mul]; omega]
  simpa using h9
end
/-- Elements with their numbers. -/
def numb {α : Type} : Nat → List α → List (Nat × α)
  | _, [] => []
  | k, x :: r => (k, x) :: numb (k + 1) r
theorem numbLen {α : Type} : ∀ (k : Nat) (l : List α), (numb k l).length = l.length
  | _, [] => rfl
  | k, x :: r => by rw [numb, List.length_cons, List.length_cons, numbLen (k + 1) r]
/-- Where a visit stands: what was visited, what is still to be visited; no level on the stack is above the number of the next element by more than one. -/
structure VisAt (β : Type) (ts : List (Tr β)) (pre : List (Nat × Nat × Tr β)) (S : List (List (Tr β) × Nat)) : Prop where
  all : numb 0 (Tr.ndsL 1 ts) = pre ++ numb pre.length (Tr.flat S)
  lv : ∀ q ∈ S, q.2 ≤ pre.length + 1
theorem VisAt.start {β : Type} (ts : List (Tr β)) : VisAt β ts [] (Tr.psh ts 1 []) := by
  refine ⟨?_, ?_⟩
  · rw [Tr.flatPsh, Tr.flat, List.append_nil]; rfl
  · intro q hq
    unfold Tr.psh at hq
    split at hq
    · cases hq
    · rcases List.mem_cons.1 hq with rfl | hq
      · simp
      · cases hq
theorem VisAt.done {β : Type} {ts : List (Tr β)} {pre : List (Nat × Nat × Tr β)} (h : VisAt β ts pre []) : numb 0 (Tr.ndsL 1 ts) = pre := by
  have := h.all
  rwa [Tr.flat, numb, List.append_nil] at this
theorem lvPsh {β : Type} {ts : List (Tr β)} {l m : Nat} {S : List (List (Tr β) × Nat)} (h : ∀ q ∈ S, q.2 ≤ m) (hl : l ≤ m) : ∀ q ∈ Tr.psh ts l S, q.2 ≤ m := by
  intro q hq
  unfold Tr.psh at hq
  split at hq
  · exact h q hq
  · rcases List.mem_cons.1 hq with rfl | hq
    · exact hl
    · exact h q hq
/-- A round of a visit. -/
theorem VisAt.step {β : Type} {ts : List (Tr β)} {pre : List (Nat × Nat × Tr β)} {t : Tr β} {r : List (Tr β)} {l : Nat} {S : List (List (Tr β) × Nat)} (h : VisAt β ts pre ((t :: r, l) :: S)) :
    VisAt β ts (pre ++ [(pre.length, l, t)]) (Tr.psh t.fst (l + 1) (Tr.psh t.snd (l + 1) (Tr.psh r l S))) ∧ ∃ post, numb 0 (Tr.ndsL 1 ts) = pre ++ (pre.length, l, t) :: post := by
  have ha := h.all
  rw [Tr.flatStep, numb] at ha
  have hl : l ≤ pre.length + 1 := h.lv _ List.mem_cons_self
  have hS : ∀ q ∈ S, q.2 ≤ pre.length + 1 + 1 := fun q hq => Nat.le_succ_of_le (h.lv q (List.mem_cons_of_mem _ hq))
  refine ⟨⟨?_, ?_⟩, _, ha⟩
  · rw [ha, List.length_append, List.append_assoc]; rfl
  · rw [List.length_append]
    exact lvPsh (lvPsh (lvPsh hS (by omega)) (by simp; omega)) (by simp; omega)
/-- A round is still wanted only while elements are left. -/
theorem VisAt.lt {β : Type} {ts : List (Tr β)} {pre : List (Nat × Nat × Tr β)} {S : List (List (Tr β) × Nat)} (h : VisAt β ts pre S) : pre.length + (Tr.flat S).length = Tr.szL ts := by
  have := congrArg List.length h.all
  rw [List.length_append, numbLen, numbLen, Tr.ndsLLen] at this
  exact this.symm
/-- A row's value is a slice of its length. -/
theorem OwnPM.sl {w : World} {base : Nat} {v : Value} {L : List PtA} (h : OwnPM w base v L) : ∃ A c, v = .slice A L.length c := by
  rcases h.2 with ⟨rfl, h0⟩ | ⟨g, cap, cur, rfl, _⟩
  · exact ⟨none, 0, by rw [h0]⟩
  · exact ⟨_, _, rfl⟩
theorem OwnPX.sl {w : World} {base : Nat} {v : Value} {L : List PtA} (h : OwnPX w base v L) : ∃ A c, v = .slice A L.length c := by
  rcases h.2 with ⟨rfl, h0⟩ | ⟨g, cap, cur, rfl, _⟩
  · exact ⟨none, 0, by rw [h0]⟩
  · exact ⟨_, _, rfl⟩
/-- A list reads at a deeper reading, too. -/
theorem RdE.mono16 {α : Type} {k : Nat} {E E' : World → Nat → Nat → α → Prop} {w : World} {A : Option Addr} {c : Nat} {l : List α} (h : RdE k E w A c l) (hE : ∀ b o x, E w b o x → E' w b o x) : RdE k E' w A c l :=
  ⟨h.le, h.max, fun hn => by
    obtain ⟨b, off, e, hl, hc⟩ := h.at_ hn
    exact ⟨b, off, e, hl, fun j hj => hE _ _ _ (hc j hj)⟩⟩
end Go.Proofs.YtiaendggmamnkaaGreatDoor
