/-
  The contract of Closure: for each number the recursive function value finds all that can be reached from it.
-/
import Derived.Test.YtpfdhjmhoggioaaRSucM
import Derived.Test.YtpfdhjmhoggioaaRelDist
namespace Go.Proofs.Ytpfdhjmhoggioaa
open Go.RowKit Go.Maps

/-- How many numbers below n the row of s lacks. -/
def lackN (n : Nat) (S : Int → Int → Bool) (s : Int) : Nat := (List.range n).countP fun (x : Nat) => !S s (x : Int)
theorem lackLt {n : Nat} {S T : Int → Int → Bool} {s : Int} (h : ∀ x y, S x y = true → T x y = true) {t : Nat} (ht : t < n) (hs : S s t = false) (hT : T s t = true) : lackN n T s < lackN n S s :=
  countLt (p := fun x => !T s (x : Int)) (q := fun x => !S s (x : Int)) (fun x _ hx => by
    rw [Bool.not_eq_true'] at hx ⊢
    cases e : S s (x : Int)
    · rfl
    · rw [h _ _ e] at hx; cases hx) ⟨t, List.mem_range.2 ht, by rw [hs]; rfl, by rw [hT]; rfl⟩
theorem lackLe {n : Nat} {S T : Int → Int → Bool} {s : Int} (h : ∀ x y, S x y = true → T x y = true) : lackN n T s ≤ lackN n S s := by
  unfold lackN
  refine List.countP_mono_left fun x _ hx => ?_
  rw [Bool.not_eq_true'] at hx ⊢
  cases e : S s (x : Int)
  · rfl
  · rw [h _ _ e] at hx; cases hx
theorem lackMax (n : Nat) (S : Int → Int → Bool) (s : Int) : lackN n S s ≤ n := by
  have := List.countP_le_length (l := List.range n) (p := fun x : Nat => !S s (x : Int))
  unfold lackN
  simpa using this
/-- From S to T the numbers that can be reached from a through its first j successors have come into the row of s. -/
structure VisTo (n : Nat) (f : Nat → Nat → Bool) (s : Int) (a j : Nat) (S T : Int → Int → Bool) : Prop where
  mono : ∀ x y, S x y = true → T x y = true
  only : ∀ x y, T x y = true → S x y = true ∨ (x = s ∧ ∃ b : Nat, y = (b : Int) ∧ b < n ∧ tcT n f a b = true)
  pre : ∀ i (h : i < (sucI n f a).length), i < j → T s (sucI n f a)[i] = true
  closed : ∀ x y : Nat, x < n → y < n → T s x = true → S s x = false → f x y = true → T s y = true
/-- The same for all its successors. -/
def Vis (n : Nat) (f : Nat → Nat → Bool) (s : Int) (a : Nat) (S T : Int → Int → Bool) : Prop := VisTo n f s a n S T
theorem visStart (n : Nat) (f : Nat → Nat → Bool) (s : Int) (a : Nat) (S : Int → Int → Bool) : VisTo n f s a 0 S S :=
  ⟨fun _ _ h => h, fun _ _ h => .inl h, fun _ _ h => absurd h (by omega), fun _ _ _ _ h h' => by rw [h] at h'; cases h'⟩
theorem visDone {n : Nat} {f : Nat → Nat → Bool} {s : Int} {a j : Nat} {S T : Int → Int → Bool} (h : VisTo n f s a j S T) (hj : (sucI n f a).length ≤ j) : Vis n f s a S T :=
  ⟨h.mono, h.only, fun i hi _ => h.pre i hi (by omega), h.closed⟩
theorem visSucc {n : Nat} {f : Nat → Nat → Bool} {s : Int} {a y : Nat} {S T : Int → Int → Bool} (h : Vis n f s a S T) (hy : y < n) (hf : f a y = true) : T s y = true := by
  have hm : (y : Int) ∈ sucI n f a := sucMem.2 ⟨y, rfl, hy, hf⟩
  obtain ⟨i, hi, e⟩ := List.getElem_of_mem hm
  rw [← e]
  have := sucLen n f a
  exact h.pre i hi (by omega)
theorem visSkip {n : Nat} {f : Nat → Nat → Bool} {s : Int} {a j : Nat} {S T : Int → Int → Bool} (h : VisTo n f s a j S T) (hj : j < (sucI n f a).length) (hT : T s (sucI n f a)[j] = true) : VisTo n f s a (j + 1) S T :=
  ⟨h.mono, h.only, fun i hi hij => by
    by_cases e : i = j
    · subst e; exact hT
    · exact h.pre i hi (by omega), h.closed⟩
/-- A successor that is new is put in and gone into. -/
theorem visStep {n : Nat} {f : Nat → Nat → Bool} {s : Int} {a j t : Nat} {S T U V : Int → Int → Bool} (h : VisTo n f s a j S T) (hj : j < (sucI n f a).length) (ht : t < n) (hf : f a t = true) (e : (sucI n f a)[j] = (t : Int))
    (hU : ∀ x y, U x y = (T x y || decide (x = s ∧ y = (t : Int)))) (hV : Vis n f s t U V) : VisTo n f s a (j + 1) S V := by
  have hTU : ∀ x y, T x y = true → U x y = true := fun x y h => by rw [hU, h]; rfl
  have hUt : U s t = true := by rw [hU]; simp
  refine ⟨fun x y h0 => hV.mono x y (hTU x y (h.mono x y h0)), fun x y h0 => ?_, fun i hi hij => ?_, fun x y hx hy h0 h1 h2 => ?_⟩
  · rcases hV.only x y h0 with h1 | ⟨rfl, b, rfl, hb, h2⟩
    · rw [hU, Bool.or_eq_true, decide_eq_true_iff] at h1
      rcases h1 with h1 | ⟨rfl, rfl⟩
      · exact h.only x y h1
      · exact .inr ⟨rfl, t, rfl, ht, tcOne hf⟩
    · exact .inr ⟨rfl, b, rfl, hb, tcTrans ht (tcOne hf) h2⟩
  · by_cases e' : i = j
    · subst e'
      rw [e]
      exact hV.mono _ _ hUt
    · exact hV.mono _ _ (hTU _ _ (h.pre i hi (by omega)))
  · by_cases hu : U s x = true
    · rw [hU, Bool.or_eq_true, decide_eq_true_iff] at hu
      rcases hu with hu | ⟨_, hu⟩
      · exact hV.mono _ _ (hTU _ _ (h.closed x y hx hy hu h1 h2))
      · obtain rfl : x = t := by omega
        exact visSucc hV hy h2
    · exact hV.closed x y hx hy h0 (Bool.eq_false_iff.2 hu) h2
/-- From an empty row: just what can be reached. -/
theorem visAll {n : Nat} {f : Nat → Nat → Bool} {s : Nat} {S T : Int → Int → Bool} (h : Vis n f s s S T) (h0 : ∀ y, S s y = false) (hs : s < n) {b : Nat} (hb : b < n) : T s b = tcT n f s b := by
  rw [Bool.eq_iff_iff]
  constructor
  · intro h1
    rcases h.only _ _ h1 with h2 | ⟨_, c, e, _, h2⟩
    · rw [h0] at h2; cases h2
    · obtain rfl : b = c := by omega
      exact h2
  · intro h1
    have key : ∀ (L : List Nat) (x : Nat), x < n → (x = s ∨ T s x = true) → (∀ y ∈ L, y < n) → pth f x L b → T s b = true := by
      intro L
      induction L with
      | nil =>
        intro x hx h2 _ h3
        rcases h2 with rfl | h2
        · exact visSucc h hb h3
        · exact h.closed x b hx hb h2 (h0 _) h3
      | cons y L ih =>
        intro x hx h2 h3 h4
        have hy := h3 y (by simp)
        refine ih y hy (.inr ?_) (fun z hz => h3 z (by simp [hz])) h4.2
        rcases h2 with rfl | h2
        · exact visSucc h hy h4.1
        · exact h.closed x y hx hy h2 (h0 _) h4.1
    obtain ⟨L, h2, h3⟩ := tcIff.1 h1
    exact key L s hs (.inl rfl) h2 h3

/-- What the function value sees: the successors, the start, the set, itself. -/
structure EnvV (w : World) (nb sb cb vb : Nat) (A : Option Addr) (c N b : Nat) (s : Int) (f : Nat → Nat → Bool) : Prop where
  nxt : w.cell? ⟨nb, 0, none⟩ = some (.slice A N c)
  start : w.cell? ⟨sb, 0, none⟩ = some (.int .i64 s)
  set : w.cell? ⟨cb, 0, none⟩ = some (.map (some b))
  self : w.cell? ⟨vb, 0, none⟩ = some (.func (.func 46) #[] #[.pointer (some ⟨nb, 0, none⟩), .pointer (some ⟨sb, 0, none⟩), .pointer (some ⟨cb, 0, none⟩), .pointer (some ⟨vb, 0, none⟩)])
  rows : RdF w A c (sucI N f) N
theorem cellsOf {w : World} {a : Addr} {u : Value} (hu : w.cell? a = some u) : ∃ cur t fr, w.heap[a.block]? = some (.cells cur t fr) := by
  unfold World.cell? at hu
  rcases e : w.heap[a.block]? with _ | o
  · simp [e] at hu
  · cases o <;> simp [e] at hu ⊢
theorem EnvV.chg {w w' : World} {F : Nat → Prop} {nb sb cb vb : Nat} {A : Option Addr} {c N b : Nat} {s : Int} {f : Nat → Nat → Bool} (h : EnvV w nb sb cb vb A c N b s f) (hc : Chg w w' F) (hF : ∀ g, (∃ cur t fr, w.heap[g]? = some (.cells cur t fr)) → F g) : EnvV w' nb sb cb vb A c N b s f := by
  have key : ∀ (a : Addr) (u : Value), w.cell? a = some u → w'.cell? a = some u := fun a u hu => by
    have hlt := World.block_lt_of_cell? w a hu
    exact (World.cell?_of_block (hc.block _ hlt (hF _ (cellsOf hu)))).trans hu
  refine ⟨key _ _ h.nxt, key _ _ h.start, key _ _ h.set, key _ _ h.self, ?_⟩
  obtain ⟨vs, h1, h2, h3⟩ := h.rows
  refine ⟨vs, ⟨h1.le, h1.max, fun hn => ?_⟩, h2, fun i hi => ?_⟩
  · obtain ⟨ad, e, hl, hcell⟩ := h1.at_ hn
    exact ⟨ad, e, Nat.lt_of_lt_of_le hl hc.size, fun j u hu => key _ _ (hcell j u hu)⟩
  · obtain ⟨A', c', e, hr⟩ := h3 i hi
    refine ⟨A', c', e, ⟨Rds.le hr, Rds.max hr, fun hn => ?_⟩⟩
    obtain ⟨ad, e, hl, hcell⟩ := Rds.at_ hr hn
    exact ⟨ad, e, Nat.lt_of_lt_of_le hl hc.size, fun j u hu => key _ _ (hcell j u hu)⟩
/-- A map's block holds no cells. -/
theorem mapNoCells {w : World} {b n : Nat} {S : Int → Int → Bool} (h : MapP w b n S) {g : Nat} (hg : ∃ cur t fr, w.heap[g]? = some (.cells cur t fr)) : g ≠ b := by
  obtain ⟨D, ⟨es, clock, hb, _⟩, _⟩ := h
  obtain ⟨cur, t, fr, e⟩ := hg
  intro he
  rw [he, hb] at e
  cases e
theorem rdKept {w w' : World} {b n : Nat} {S : Int → Int → Bool} {A : Option Addr} {c : Nat} {l : List Int} (h : Rd w A c l) (hm : MapP w b n S) (hc : Chg w w' (fun g => g ≠ b)) : Rd w' A c l :=
  h.chg hc fun ad e hl => by
    obtain ⟨ad', e', _, hcell⟩ := h.one hl
    rw [e] at e'
    injection e' with e'
    subst e'
    have := mapNoCells hm (cellsOf hcell)
    rwa [addBlock] at this
theorem EnvV.kept {w w' : World} {nb sb cb vb : Nat} {A : Option Addr} {c N b n : Nat} {s : Int} {f : Nat → Nat → Bool} {S : Int → Int → Bool} (h : EnvV w nb sb cb vb A c N b s f) (hm : MapP w b n S) (hc : Chg w w' (fun g => g ≠ b)) : EnvV w' nb sb cb vb A c N b s f := h.chg hc fun _ hg => mapNoCells hm hg

set_option maxRecDepth 100000 in
set_option maxHeartbeats 2000000 in
theorem iVisit (N : Nat) (hN : N ≤ 64) (f : Nat → Nat → Bool) (nb sb cb vb : Nat) (A : Option Addr) (c b : Nat) (s : Nat) (hsN : s < N) (K : Nat) (hK : K ≤ 100000) : ∀ (m at' : Nat) (S : Int → Int → Bool) (k : Nat) (w : World), at' < N → lackN N S s = m → k + m ≤ K → Hid (EnvV w nb sb cb vb A c N b s f) → Hid (MapP w b k S) →
    Calls Try.prog 46 #[.int .i64 at', .pointer (some ⟨nb, 0, none⟩), .pointer (some ⟨sb, 0, none⟩), .pointer (some ⟨cb, 0, none⟩), .pointer (some ⟨vb, 0, none⟩)] w fun e w' => e = .returned (.tuple #[]) ∧
      ∃ T k', Hid (Vis N f s at' S T) ∧ MapP w' b k' T ∧ k' + lackN N T s ≤ K ∧ Chg w w' (fun g => g ≠ b) := by
  intro m
  induction m using Nat.strongRecOn with
  | _ m ih =>
    intro at' S k w hat hlack hkm HE HM
    have HIH := Lib.hid ih; clear ih
    obtain ⟨ad, A1, c1, rfl, _, hc1, hr1⟩ := HE.out.rows.one hat
    have HR1 := Lib.hid hr1; clear hr1
    have hle1 := HR1.out.le
    have hmx1 := Rd.max HR1.out
    unfold maxLen at hmx1
    have hLl := sucLen N f at'
    obtain ⟨L, hL⟩ : ∃ L, sucI N f at' = L := ⟨_, rfl⟩
    rw [hL] at hc1 hle1 hLl
    have HR1 := Lib.hid (hL ▸ HR1.out)
    have HL := Lib.hid hL; clear hL
    obtain ⟨n, hn⟩ : ∃ n, L.length = n := ⟨_, rfl⟩
    rw [hn] at hc1 hle1 hLl
    have HN := Lib.hid hn; clear hn
    have HLK := Lib.hid hlack; clear hlack
    have h1 := HE.out.nxt
    go_enter Try.func46, Try.ntmps46
    go_wp2
    go_loopw [14] (fun i wr => ∃ (j : Nat) (T : Int → Int → Bool) (k' : Nat), j ≤ n ∧ i = .int .i64 j ∧ Hid (VisTo N f s at' j S T) ∧ Hid (MapP wr b k' T) ∧ k' + lackN N T s ≤ K ∧ Hid (Chg w wr (fun g => g ≠ b))) (fun i _ => n - (intOf i).toNat)
    case atStart => exact ⟨0, S, k, Nat.zero_le _, rfl, Lib.hid (visStart N f s at' S), HM, by rw [HLK.out]; exact hkm, Lib.hid (Chg.refl _ _)⟩
    case round =>
      obtain ⟨j, T, k', hj, rfl, HV, HMT, hkt, HC⟩ := hrel
      have HE1 := Lib.hid (HE.out.kept HM.out HC.out)
      by_cases hlt : j < n
      · have hjl : j < (sucI N f at').length := by rw [HL.out, HN.out]; exact hlt
        obtain ⟨t, ht, htN, hft⟩ := sucMem.1 (List.getElem_mem hjl)
        have HT := Lib.hid ht
        have hjL : j < L.length := by rw [HN.out]; exact hlt
        obtain ⟨ad1, rfl, _, hcj⟩ := (rdKept HR1.out HM.out HC.out).one hjL
        have htL : L[j] = (t : Int) := by
          have h := HL.out
          subst h
          exact ht
        rw [htL] at hcj
        clear htL ht
        have HW := Lib.hid (show wfP (s : Int) (t : Int) from ⟨wfSmall (by omega) (by omega), wfSmall (by omega) (by omega)⟩)
        obtain ⟨W, hW⟩ : ∃ W, wr.alloc (.cells #[.int .i64 s, .int .i64 t] 38) = W := ⟨_, rfl⟩
        have bW : Below wr.heap.size wr W := by rw [← hW]; exact belowAlloc _ _
        have HEW := Lib.hid (HE1.out.chg (Chg.ofBelow bW fun _ => True) fun _ _ => trivial)
        have HMW := Lib.hid (HMT.out.below bW)
        have HBW := Lib.hid bW; clear bW
        have hp0 : W.cell? ⟨wr.heap.size, 0, none⟩ = some (.int .i64 s) := by rw [← hW]; simp
        have hp1 : W.cell? ⟨wr.heap.size, 1, none⟩ = some (.int .i64 t) := by rw [← hW]; simp
        have e1 := HE1.out.start
        have e2 := HEW.out.set
        rcases hv : T s t with _ | _
        · have HVV := Lib.hid hv; clear hv
          go_wp2_with (first
            | (at_lookup; refine wpList_lookP _ rfl (.tmp 21) (.tmp 22) rfl b k' T HMW.out rfl s t rfl HW.out false HVV.out ?_)
            | (at_mapUpdate; refine wpList_putP _ rfl (.tmp 25) (.tmp 26) (.const (.bool true)) rfl b k' T HMW.out (by unfold maxLen; omega) rfl s t rfl HW.out rfl ?_; intro w4 m4 g4; have HM4 := Lib.hid m4; have G4 := Lib.hid (Chg.ofGrown g4 (F := fun g => g ≠ b) fun k hk e => hk (by injection e with e; exact e.symm)); clear m4 g4; have HE4 := Lib.hid (HEW.out.kept HMW.out G4.out); have e3 := HE4.out.self)
            | fail)
          have hU : ∀ x y, T x y = true → (fun u v => T u v || decide (u = (s : Int) ∧ v = (t : Int))) x y = true := fun x y h => by show (T x y || _) = true; rw [h]; rfl
          have hl1 := lackLt (n := N) (s := (s : Int)) hU htN HVV.out (by show (T s t || decide ((s : Int) = s ∧ (t : Int) = t)) = true; simp)
          have hl2 := lackLe (n := N) (s := (s : Int)) HV.out.mono
          have hl3 := HLK.out
          have hrec := HIH.out _ (by omega) t _ (k' + 1) w4 htN rfl (by omega) HE4 HM4
          refine hrec.mono ?_
          rintro e w5 ⟨rfl, V, k5, HVV5, m5, hk5, c5⟩
          have HM5 := Lib.hid m5; clear m5
          have HC5 := Lib.hid c5; clear c5
          have HN5 := Lib.hid (visStep HV.out hjl htN hft HT.out (fun _ _ => rfl) HVV5.out)
          go_wp2
          exact ⟨⟨j + 1, V, k5, by omega, by go_num, HN5, HM5, hk5, Lib.hid (((HC.out.trans (Chg.ofBelow HBW.out fun g => g ≠ b) fun _ _ h => h).trans G4.out fun _ _ h => h).trans HC5.out fun _ _ h => h)⟩, by simp [intOf]; omega⟩
        · have HVV := Lib.hid hv; clear hv
          have HN2 := Lib.hid (visSkip HV.out hjl (by rw [HT.out]; exact HVV.out))
          go_wp2_with (at_lookup; refine wpList_lookP _ rfl (.tmp 21) (.tmp 22) rfl b k' T HMW.out rfl s t rfl HW.out true HVV.out ?_)
          exact ⟨⟨j + 1, T, k', by omega, by go_num, HN2, HMW, hkt, Lib.hid (HC.out.trans (Chg.ofBelow HBW.out fun _ => True) fun _ _ _ => trivial)⟩, by simp [intOf]; omega⟩
      · have HD := Lib.hid (visDone HV.out (by rw [HL.out, HN.out]; omega))
        go_wp2
        go_end0
        exact ⟨rfl, T, k', HD, HMT.out, hkt, HC.out⟩
end Go.Proofs.Ytpfdhjmhoggioaa
