/-
  Running local instructions, pure: what a code and its folded, threaded and pruned forms do.
-/
import Derived.Test.YtnnpkbonbemeaaaDoorYSfG
import Derived.Test.YtnnpkbonbemeaaaDoorYCfV
namespace Go.Proofs.YtnnpkbonbemeaaaDoor

abbrev Rgs := Int → Int
/-- Where the execution of local instructions ends. -/
structure Stp where
  pos : Nat
  R : Rgs
  dn : Bool
  fl : Bool
  lg : Bool
def upR (R : Rgs) (r v : Int) : Rgs := fun x => if x = r then v else R x
def visI (i : I8) : Bool := decide (8 ≤ i.op)
inductive Sx where
  | fin (s : Stp)
  | go (pos : Nat) (R : Rgs)
def sDone (R : Rgs) : Stp := ⟨0, R, true, false, false⟩
def sFail (R : Rgs) : Stp := ⟨0, R, false, true, false⟩
def sVis (x : Nat) (R : Rgs) : Stp := ⟨x, R, false, false, false⟩
def sLong : Stp := ⟨0, fun _ => 0, false, false, true⟩
/-- A local instruction. -/
def exe (i : I8) (x : Nat) (R : Rgs) : Sx :=
  if i.op = 1 then .go (x + 1) (upR R i.a i.n)
  else if i.op = 2 then .go (x + 1) (upR R i.a (R i.b))
  else if i.op = 3 then .go (x + 1) (upR R i.a (opI i.fn (R i.b) (R i.c)))
  else if i.op = 4 then .go i.n.toNat R
  else if i.op = 5 then .go (if R i.b = 0 then x + 1 else i.n.toNat) R
  else if i.op = 6 then (if R i.b = 0 then .fin (sFail R) else .go (x + 1) R)
  else .fin (sDone R)
theorem exeFin {i : I8} {x : Nat} {R : Rgs} {s : Stp} (hE : exe i x R = .fin s) : s.dn = true ∨ s.fl = true := by
  unfold exe at hE
  repeat' (split at hE)
  all_goals first
    | (cases hE; done)
    | (injection hE with hE; subst hE; first | exact .inl rfl | exact .inr rfl)
theorem exeFinNo {i : I8} {x : Nat} {R : Rgs} {s : Stp} (hE : exe i x R = .fin s) (h2 : s.dn = false) (h3 : s.fl = false) : False := by
  rcases exeFin hE with h | h
  · rw [h] at h2; cases h2
  · rw [h] at h3; cases h3
def locF (C : List I8) : Nat → Nat → Rgs → Stp
  | 0, x, R => if C.length ≤ x then sDone R else if visI (gI C x) = true then sVis x R else sLong
  | f + 1, x, R => if C.length ≤ x then sDone R else if visI (gI C x) = true then sVis x R else match exe (gI C x) x R with
    | .fin s => s
    | .go y R' => locF C f y R'
theorem locOut {C : List I8} {f x : Nat} {R : Rgs} (h : C.length ≤ x) : locF C f x R = sDone R := by
  cases f <;> (unfold locF; rw [if_pos h])
theorem locVis {C : List I8} {f x : Nat} {R : Rgs} (h : x < C.length) (hv : visI (gI C x) = true) : locF C f x R = sVis x R := by
  cases f <;> (unfold locF; rw [if_neg (by omega), if_pos hv])
theorem locLong {C : List I8} {x : Nat} {R : Rgs} (h : x < C.length) (hv : visI (gI C x) = false) : locF C 0 x R = sLong := by
  unfold locF
  rw [if_neg (by omega), if_neg (by rw [hv]; simp)]
theorem locGo {C : List I8} {f x : Nat} {R : Rgs} (h : x < C.length) (hv : visI (gI C x) = false) : locF C (f + 1) x R = match exe (gI C x) x R with
    | .fin s => s
    | .go y R' => locF C f y R' := by
  rw [locF, if_neg (by omega), if_neg (by rw [hv]; simp)]
theorem locPos {C : List I8} : ∀ {f x : Nat} {R : Rgs}, (locF C f x R).lg = false → (locF C f x R).dn = false → (locF C f x R).fl = false → (locF C f x R).pos < C.length ∧ visI (gI C (locF C f x R).pos) = true := by
  intro f
  induction f with
  | zero =>
    intro x R h1 h2 h3
    by_cases hx : C.length ≤ x
    · rw [locOut hx] at h2; cases h2
    · cases hv : visI (gI C x)
      · rw [locLong (by omega) hv] at h1; cases h1
      · rw [locVis (by omega) hv]; exact ⟨by show x < _; omega, hv⟩
  | succ f ih =>
    intro x R h1 h2 h3
    by_cases hx : C.length ≤ x
    · rw [locOut hx] at h2; cases h2
    · cases hv : visI (gI C x)
      · rw [locGo (by omega) hv] at h1 h2 h3 ⊢
        generalize hE : exe (gI C x) x R = E at h1 h2 h3 ⊢
        cases E with
        | go y R' => exact ih h1 h2 h3
        | fin s =>
          exact absurd (exeFinNo hE h2 h3) id
      · rw [locVis (by omega) hv]; exact ⟨by show x < _; omega, hv⟩
/-- More fuel changes nothing where the execution is not too long. -/
theorem locMore {C : List I8} : ∀ {f x : Nat} {R : Rgs}, (locF C f x R).lg = false → locF C (f + 1) x R = locF C f x R := by
  intro f
  induction f with
  | zero =>
    intro x R h
    by_cases hx : C.length ≤ x
    · rw [locOut hx, locOut hx]
    · cases hv : visI (gI C x)
      · rw [locLong (by omega) hv] at h; cases h
      · rw [locVis (by omega) hv, locVis (by omega) hv]
  | succ f ih =>
    intro x R h
    by_cases hx : C.length ≤ x
    · rw [locOut hx, locOut hx]
    · cases hv : visI (gI C x)
      · rw [locGo (by omega) hv] at h ⊢
        rw [locGo (by omega) hv]
        generalize exe (gI C x) x R = E at h ⊢
        cases E with
        | go y R' => exact ih h
        | fin s => rfl
      · rw [locVis (by omega) hv, locVis (by omega) hv]
theorem locMoreN {C : List I8} {f x : Nat} {R : Rgs} (h : (locF C f x R).lg = false) : ∀ d, locF C (f + d) x R = locF C f x R
  | 0 => rfl
  | d + 1 => by
    have h1 := locMoreN h d
    rw [← Nat.add_assoc, locMore (by rw [h1]; exact h), h1]

/-! What two codes have to do with each other: P x y R: the first is at x, the second at y, both with registers R. -/
structure Sim (C D : List I8) (P : Nat → Nat → Rgs → Prop) : Prop where
  start : ∀ R, P 0 0 R
  go : ∀ {x y R}, P x y R → (locF C 256 x R).lg = true ∨ ((locF D 256 y R).lg = false ∧ (locF C 256 x R).dn = (locF D 256 y R).dn ∧ (locF C 256 x R).fl = (locF D 256 y R).fl ∧ (locF C 256 x R).R = (locF D 256 y R).R ∧
    ((locF C 256 x R).dn = false → (locF C 256 x R).fl = false → (locF D 256 y R).pos < D.length ∧ gI C (locF C 256 x R).pos = gI D (locF D 256 y R).pos ∧
      ∀ v, P ((locF C 256 x R).pos + 1) ((locF D 256 y R).pos + 1) (if (gI C (locF C 256 x R).pos).dfB = true then upR (locF C 256 x R).R (gI C (locF C 256 x R).pos).dfR v else (locF C 256 x R).R)))

/-! Fold. -/
def agr (K : Kn) (R : Rgs) : Prop := ∀ r v, K r = some v → R r = v
theorem agrNo (R : Rgs) : agr knNo R := fun _ _ h => by cases h
theorem visFd {K : Kn} {nx : Int} {i : I8} : visI (fdI K nx i) = visI i := by
  rcases fdOp (K := K) (nx := nx) (i := i) with h | ⟨h1, h2⟩ | ⟨h1, h2⟩
  · rw [h]
  · unfold visI; rw [h1, decide_eq_false (by omega), decide_eq_false (by omega)]
  · unfold visI; rw [h1, decide_eq_false (by omega), decide_eq_false (by omega)]
theorem fdVis {K : Kn} {nx : Int} {i : I8} (h : visI i = true) : fdI K nx i = i := by
  have h8 := of_decide_eq_true h
  rcases fdOp (K := K) (nx := nx) (i := i) with h | ⟨h1, h2⟩ | ⟨h1, h2⟩
  · exact h
  · omega
  · omega
theorem exeCst (a v : Int) (x : Nat) (R : Rgs) : exe (cst a v) x R = .go (x + 1) (upR R a v) := rfl
theorem exeJmp (n : Int) (x : Nat) (R : Rgs) : exe (jmpTo n) x R = .go n.toNat R := rfl
theorem exeFd {K : Kn} {R : Rgs} (hK : agr K R) (i : I8) (x : Nat) : exe (fdI K ((x + 1 : Nat) : Int) i) x R = exe i x R := by
  unfold fdI
  split
  · rename_i h
    split
    · rename_i v hv
      rw [exeCst]; unfold exe; rw [h, ← hK _ _ hv]; rfl
    · rfl
  split
  · rename_i h
    split
    · rename_i u v hu hv
      rw [exeCst]; unfold exe; rw [h, ← hK _ _ hu, ← hK _ _ hv]; rfl
    · rfl
  split
  · rename_i h
    split
    · rename_i v hv
      have e := hK _ _ hv
      split
      · rename_i h0
        rw [exeJmp]; unfold exe; rw [h, e, h0, Int.toNat_natCast]; rfl
      · rename_i h0
        rw [exeJmp]; unfold exe; rw [h, e]
        show _ = Sx.go (if v = 0 then x + 1 else i.n.toNat) R
        rw [if_neg h0]
    · rfl
  split
  · rename_i h
    split
    · rename_i v hv
      have e := hK _ _ hv
      split
      · rfl
      · rename_i h0
        rw [exeJmp]; unfold exe; rw [h, e, Int.toNat_natCast]
        show _ = if v = 0 then Sx.fin (sFail R) else Sx.go (x + 1) R
        rw [if_neg h0]
    · rfl
  · rfl
/-- What is known behind an instruction is so. -/
theorem agrExe {K : Kn} {R R' : Rgs} {x y : Nat} {j : I8} (hK : agr K R) (hv : visI j = false) (hj : j.chk = 0) (h : exe j x R = .go y R') : agr (knI K j) R' := by
  have hop := (I8.good hj).op
  have h8 : ¬ 8 ≤ j.op := of_decide_eq_false hv
  have hup : ∀ v o, (o = none ∨ o = some v) → agr (knUp K j.a o) (upR R j.a v) := fun v o ho r u hr => by
    unfold knUp at hr
    unfold upR
    split at hr
    · rename_i e
      rw [if_pos e]
      rcases ho with ho | ho <;> rw [ho] at hr
      · cases hr
      · injection hr
    · rename_i e
      rw [if_neg e]
      exact hK _ _ hr
  unfold exe at h
  unfold knI I8.u
  split at h
  · rename_i e
    injection h with _ h
    subst h
    rw [e]
    exact hup _ _ (.inr rfl)
  split at h
  · rename_i e
    injection h with _ h
    subst h
    rw [e]
    exact hup _ _ (.inl rfl)
  split at h
  · rename_i e
    injection h with _ h
    subst h
    rw [e]
    exact hup _ _ (.inl rfl)
  split at h
  · rename_i e
    injection h with _ h
    subst h
    rw [e]
    exact hK
  split at h
  · rename_i e
    injection h with _ h
    subst h
    rw [e]
    exact hK
  split at h
  · rename_i e
    split at h
    · cases h
    · injection h with _ h
      subst h
      rw [e]
      exact hK
  · cases h
theorem agrVis {K : Kn} {R : Rgs} {j : I8} (hK : agr K R) (hv : visI j = true) (v : Int) (hj : j.chk = 0) : agr (knI K j) (if j.dfB = true then upR R j.dfR v else R) := by
  have h8 := of_decide_eq_true hv
  unfold knI I8.dfB I8.dfR
  by_cases hu : j.u 0 = true
  · have e1 : (if j.op = 1 then some j.n else none) = none := if_neg (by omega)
    have e2 : decide (j.chk = 0 ∧ j.u 0 = true) = true := decide_eq_true ⟨hj, hu⟩
    have e3 : (if j.chk = 0 ∧ j.u 0 = true then j.a else 0) = j.a := if_pos ⟨hj, hu⟩
    rw [e1, e2, e3, if_pos hu, if_pos rfl]
    intro r u hr
    unfold knUp at hr
    unfold upR
    split at hr
    · cases hr
    · rename_i e
      rw [if_neg e]; exact hK _ _ hr
  · rw [if_neg hu, if_neg (by simp [hu])]
    exact hK
theorem ldHas {C : List I8} {k : Nat} (hk : k < C.length) {x : Int} (hx : x ∈ ldI k C[k]) : ∀ {m}, k < m → m ≤ C.length → x ∈ ldL C m
  | 0, h, _ => absurd h (Nat.not_lt_zero _)
  | m + 1, h, hm => by
    rw [ldS (by omega)]
    by_cases e : k = m
    · subst e
      exact List.mem_append_right _ hx
    · exact List.mem_append_left _ (ldHas hk hx (by omega) (by omega))
theorem ldJmp {C : List I8} (hok : CfOk C) {k t : Nat} (hk : k < C.length) (hj : C[k].jmp = true) (ht : C[k].n.toNat = t) (hl : t < C.length) : ldQ C t = true := by
  have hn := hok.tgt _ (List.getElem_mem hk) hj
  unfold ldQ ldR
  rw [cfMk hok]
  refine decide_eq_true ?_
  rw [if_pos rfl]
  refine memMin9.2 ⟨ldHas hk ?_ hk (Nat.le_refl _), fun h => ?_⟩
  · unfold ldI
    have h45 : C[k].op = 4 ∨ C[k].op = 5 := by
      unfold I8.jmp at hj
      rw [Bool.or_eq_true, decide_eq_true_iff, decide_eq_true_iff] at hj
      exact hj
    rw [if_pos h45]
    simp only [List.mem_cons, List.not_mem_nil, or_false]
    left; omega
  · rw [List.mem_singleton] at h; omega
/-- Where an instruction leads. -/
theorem exeTo {i : I8} {x y : Nat} {R R' : Rgs} (h : exe i x R = .go y R') : y = x + 1 ∨ i.jmp = true ∧ y = i.n.toNat := by
  unfold exe at h
  unfold I8.jmp
  split at h
  · injection h with h; exact .inl h.symm
  split at h
  · injection h with h; exact .inl h.symm
  split at h
  · injection h with h; exact .inl h.symm
  split at h
  · rename_i e; injection h with h; exact .inr ⟨by rw [e]; rfl, h.symm⟩
  split at h
  · rename_i e
    injection h with h
    split at h
    · exact .inl h.symm
    · exact .inr ⟨by rw [e]; rfl, h.symm⟩
  split at h
  · split at h
    · cases h
    · injection h with h; exact .inl h.symm
  · cases h
theorem fdLoc {C : List I8} (hok : CfOk C) : ∀ {f x : Nat} {R : Rgs}, (x < C.length → agr (knB C x (knA C x)) R) → locF (fdL C) f x R = locF C f x R ∧ ((locF C f x R).lg = false → (locF C f x R).dn = false → (locF C f x R).fl = false → agr (knB C (locF C f x R).pos (knA C (locF C f x R).pos)) (locF C f x R).R) := by
  intro f
  induction f with
  | zero =>
    intro x R hK
    by_cases hx : C.length ≤ x
    · rw [locOut hx, locOut (by rw [fdLLen]; exact hx)]
      exact ⟨rfl, fun _ h => by cases h⟩
    · have hx : x < C.length := by omega
      have e : gI (fdL C) x = fdAt C x := by rw [gIAt (by rw [fdLLen]; exact hx), fdLAt]
      cases hv : visI (gI C x)
      · rw [locLong hx hv, locLong (by rw [fdLLen]; exact hx) (by rw [e]; unfold fdAt; rw [visFd]; exact hv)]
        exact ⟨rfl, fun h => by cases h⟩
      · rw [locVis hx hv, locVis (by rw [fdLLen]; exact hx) (by rw [e]; unfold fdAt; rw [visFd]; exact hv)]
        exact ⟨rfl, fun _ _ _ => hK hx⟩
  | succ f ih =>
    intro x R hK
    by_cases hx : C.length ≤ x
    · rw [locOut hx, locOut (by rw [fdLLen]; exact hx)]
      exact ⟨rfl, fun _ h => by cases h⟩
    · have hx : x < C.length := by omega
      have hK := hK hx
      have e : gI (fdL C) x = fdAt C x := by rw [gIAt (by rw [fdLLen]; exact hx), fdLAt]
      cases hv : visI (gI C x)
      · have hv2 : visI (fdAt C x) = false := by unfold fdAt; rw [visFd]; exact hv
        rw [locGo hx hv, locGo (by rw [fdLLen]; exact hx) (by rw [e]; exact hv2), e]
        have he : exe (fdAt C x) x R = exe (gI C x) x R := exeFd hK _ _
        rw [he]
        generalize hE : exe (gI C x) x R = E at he ⊢
        cases E with
        | fin s =>
          refine ⟨rfl, fun _ h2 h3 => ?_⟩
          exact absurd (exeFinNo hE h2 h3) id
        | go y R' =>
          refine ih fun hy => ?_
          unfold knB
          split
          · exact agrNo _
          · rename_i hl
            rcases exeTo hE with rfl | ⟨hj, rfl⟩
            · rw [knAS]
              exact agrExe hK hv2 (fdAtChk hok hx) he
            · rw [gIAt hx] at hj hy hl
              exact absurd (ldJmp hok hx hj rfl hy) hl
      · rw [locVis hx hv, locVis (by rw [fdLLen]; exact hx) (by rw [e]; unfold fdAt; rw [visFd]; exact hv)]
        exact ⟨rfl, fun _ _ _ => hK⟩
theorem fdSim {C : List I8} (hok : CfOk C) : Sim C (fdL C) (fun x y R => x = y ∧ (x < C.length → agr (knB C x (knA C x)) R)) := by
  refine ⟨fun R => ⟨rfl, fun _ => ?_⟩, ?_⟩
  · unfold knB
    split
    · exact agrNo _
    · exact agrNo _
  · rintro x y R ⟨rfl, hK⟩
    obtain ⟨h1, h2⟩ := fdLoc hok (f := 256) hK
    rw [h1]
    cases hl : (locF C 256 x R).lg
    · right
      refine ⟨rfl, rfl, rfl, rfl, fun hd hf => ?_⟩
      obtain ⟨hp, hv⟩ := locPos hl hd hf
      have hag := h2 hl hd hf
      generalize locF C 256 x R = S at *
      have e : gI (fdL C) S.pos = fdAt C S.pos := by rw [gIAt (by rw [fdLLen]; exact hp), fdLAt]
      have e2 : fdAt C S.pos = gI C S.pos := fdVis hv
      refine ⟨by rw [fdLLen]; exact hp, by rw [e, e2], fun v => ⟨rfl, fun _ => ?_⟩⟩
      unfold knB
      split
      · exact agrNo _
      · have hc := fdAtChk hok hp
        rw [knAS, e2]
        rw [e2] at hc
        exact agrVis hag hv v hc
    · exact .inl rfl

/-! Thread. -/
theorem visJ {i : I8} (h : visI i = true) : i.jmp = false := by
  have h8 := of_decide_eq_true h
  unfold I8.jmp
  rw [decide_eq_false (by omega), decide_eq_false (by omega)]; rfl
theorem locChain {C : List I8} : ∀ {j f t u : Nat} {R : Rgs}, ptJ C t j = some u → (locF C f t R).lg = false → j ≤ f ∧ locF C f t R = locF C (f - j) u R
  | 0, f, t, u, R, h, _ => by injection h with h; subst h; exact ⟨Nat.zero_le _, rfl⟩
  | j + 1, f, t, u, R, h, hl => by
    obtain ⟨z, hz⟩ := ptLess (show j ≤ j + 1 by omega) ⟨u, h⟩
    obtain ⟨h1, h2⟩ := locChain hz hl
    rw [ptS hz] at h
    obtain ⟨hz1, h4, hn⟩ := nxLt h
    have hv : visI (gI C z) = false := by rw [gIAt hz1]; unfold visI; rw [h4]; rfl
    rw [h2] at hl
    cases hf : f - j with
    | zero => rw [hf, locLong hz1 hv] at hl; cases hl
    | succ g =>
      refine ⟨by omega, ?_⟩
      rw [h2, hf, locGo hz1 hv, gIAt hz1]
      have : exe C[z] z R = .go C[z].n.toNat R := by unfold exe; rw [h4]; rfl
      rw [this, hn, show f - (j + 1) = g by omega]
theorem ptAll {C : List I8} {t : Nat} (h : ¬ ∃ x, Ends C t x) : ∀ j, ∃ u, ptJ C t j = some u
  | 0 => ⟨t, rfl⟩
  | j + 1 => by
    obtain ⟨u, hu⟩ := ptAll h j
    rw [ptS hu]
    cases e : nxJ C u with
    | none => exact absurd ⟨u, j, hu, e⟩ h
    | some v => exact ⟨v, rfl⟩
/-- From a target on: as from its final one, with no more fuel. -/
theorem locFin {C : List I8} {f t : Nat} {R : Rgs} (hl : (locF C f t R).lg = false) : ∃ g, g ≤ f ∧ locF C f t R = locF C g (fin C t) R := by
  by_cases h : ∃ x, Ends C t x
  · obtain ⟨x, j, h1, h2⟩ := h
    rw [finYes ⟨j, h1, h2⟩]
    obtain ⟨h3, h4⟩ := locChain h1 hl
    exact ⟨f - j, by omega, h4⟩
  · obtain ⟨u, hu⟩ := ptAll h (f + 1)
    have := (locChain hu hl).1
    omega
theorem thLoc {C : List I8} : ∀ {f x : Nat} {R : Rgs}, (locF C f x R).lg = false → locF (thL C) f x R = locF C f x R := by
  intro f
  induction f using Nat.strongRecOn with
  | ind f ih =>
    intro x R hl
    by_cases hx : C.length ≤ x
    · rw [locOut hx, locOut (by rw [thLen]; exact hx)]
    · have hx : x < C.length := by omega
      have hx2 : x < (thL C).length := by rw [thLen]; exact hx
      have e : gI (thL C) x = thI C (gI C x) := by
        rw [gIAt hx2, gIAt hx]; simp only [thL, List.getElem_map]
      have hve : visI (gI (thL C) x) = visI (gI C x) := by rw [e]; unfold visI; rw [thOp]
      cases hv : visI (gI C x)
      · rw [hv] at hve
        cases f with
        | zero => rw [locLong hx hv] at hl; cases hl
        | succ f =>
          rw [locGo hx hv] at hl
          rw [locGo hx hv, locGo hx2 hve, e]
          -- a step of the threaded code
          have hstep : ∀ {t : Nat} {R' : Rgs}, (locF C f t R').lg = false → locF (thL C) f (fin C t) R' = locF C f t R' := by
            intro t R' h
            obtain ⟨g, hg, h2⟩ := locFin h
            rw [h2] at h
            have h3 := ih g (by omega) h
            have h4 := locMoreN (C := thL C) (f := g) (x := fin C t) (R := R') (by rw [h3]; exact h) (f - g)
            rw [show g + (f - g) = f by omega] at h4
            rw [h4, h3, ← h2]
          by_cases hj : (gI C x).jmp = true
          · have h45 : (gI C x).op = 4 ∨ (gI C x).op = 5 := by
              unfold I8.jmp at hj
              rw [Bool.or_eq_true, decide_eq_true_iff, decide_eq_true_iff] at hj
              exact hj
            have hti : thI C (gI C x) = setNf (gI C x) (fin C (gI C x).n.toNat : Nat) := by unfold thI; rw [if_pos hj]
            rw [hti]
            rcases h45 with h4 | h5
            · have e1 : exe (gI C x) x R = .go (gI C x).n.toNat R := by unfold exe; rw [h4]; rfl
              have e2 : exe (setNf (gI C x) (fin C (gI C x).n.toNat : Nat)) x R = .go (fin C (gI C x).n.toNat) R := by
                unfold exe setNf; simp only [h4]; rfl
              rw [e1] at hl ⊢
              rw [e2]
              exact hstep hl
            · have e1 : exe (gI C x) x R = .go (if R (gI C x).b = 0 then x + 1 else (gI C x).n.toNat) R := by unfold exe; rw [h5]; rfl
              have e2 : exe (setNf (gI C x) (fin C (gI C x).n.toNat : Nat)) x R = .go (if R (gI C x).b = 0 then x + 1 else fin C (gI C x).n.toNat) R := by
                unfold exe setNf; simp only [h5]; rfl
              rw [e1] at hl ⊢
              rw [e2]
              by_cases hr : R (gI C x).b = 0
              · rw [if_pos hr] at hl ⊢
                rw [if_pos hr]
                exact ih f (by omega) hl
              · rw [if_neg hr] at hl ⊢
                rw [if_neg hr]
                exact hstep hl
          · have hti : thI C (gI C x) = gI C x := by unfold thI; rw [if_neg hj]
            rw [hti]
            generalize exe (gI C x) x R = E at hl ⊢
            cases E with
            | fin s => rfl
            | go y R' => exact ih f (by omega) hl
      · rw [locVis hx hv, locVis hx2 (by rw [hve]; exact hv)]
theorem thSim (C : List I8) : Sim C (thL C) (fun x y _ => x = y) := by
  refine ⟨fun _ => rfl, ?_⟩
  rintro x y R rfl
  cases hl : (locF C 256 x R).lg
  · right
    rw [thLoc hl]
    refine ⟨hl, rfl, rfl, rfl, fun hd hf => ?_⟩
    obtain ⟨hp, hv⟩ := locPos hl hd hf
    refine ⟨by rw [thLen]; exact hp, ?_, fun _ => rfl⟩
    generalize (locF C 256 x R).pos = z at *
    rw [gIAt (C := thL C) (by rw [thLen]; exact hp), gIAt hp]
    simp only [thL, List.getElem_map]
    rw [gIAt hp] at hv
    unfold thI
    rw [if_neg (by rw [visJ hv]; simp)]
  · exact .inl rfl

/-! Prune. -/
/-- Places that hang together: reached, or the exit. -/
def PrP (C : List I8) (x y : Nat) : Prop := (onB C x = true ∨ C.length ≤ x) ∧ y = rmN C x
theorem onNext {C : List I8} {x v : Nat} (h : onB C x = true) (hv : v ∈ sc C x) : onB C v = true ∨ C.length ≤ v := by
  by_cases hl : v < C.length
  · exact .inl (rcIff.2 ((rcIff.1 h).snoc hv (avdIff.2 ⟨hl, by omega⟩)))
  · exact .inr (by omega)
theorem rmOut {C : List I8} {x : Nat} (h : C.length ≤ x) : rmN C x = rmN C C.length := by
  have : ∀ d, rmN C (C.length + d) = rmN C C.length := by
    intro d
    induction d with
    | zero => rfl
    | succ d ih =>
      rw [← Nat.add_assoc, rmNS, if_neg (fun h => by have := onLt h; omega), ih]; rfl
  have := this (x - C.length)
  rw [show C.length + (x - C.length) = x by omega] at this
  exact this
theorem scExe {C : List I8} {x y : Nat} {R R' : Rgs} (hx : x < C.length) (h : exe C[x] x R = .go y R') : y ∈ sc C x := by
  rw [scAt hx]
  unfold scI
  unfold exe at h
  split at h
  · rename_i e
    injection h with h; rw [e]; simp [h]
  split at h
  · rename_i e
    injection h with h; rw [e]; simp [h]
  split at h
  · rename_i e
    injection h with h; rw [e]; simp [h]
  split at h
  · rename_i e
    injection h with h; rw [e]; simp [h]
  split at h
  · rename_i e
    injection h with h
    rw [e]
    split at h <;> simp [h]
  split at h
  · rename_i e
    split at h
    · cases h
    · injection h with h; rw [e]; simp [h]
  · cases h
theorem prLoc {C : List I8} (_ : CfOk C) : ∀ {f x : Nat} {R : Rgs}, (onB C x = true ∨ C.length ≤ x) → ∃ y, locF (prL C) f (rmN C x) R = { locF C f x R with pos := y } ∧ ((locF C f x R).lg = false → (locF C f x R).dn = false → (locF C f x R).fl = false → onB C (locF C f x R).pos = true ∧ y = rmN C (locF C f x R).pos) := by
  have hend : ∀ {f x : Nat} {R : Rgs}, C.length ≤ x → ∃ y, locF (prL C) f (rmN C x) R = { locF C f x R with pos := y } ∧ ((locF C f x R).lg = false → (locF C f x R).dn = false → (locF C f x R).fl = false → onB C (locF C f x R).pos = true ∧ y = rmN C (locF C f x R).pos) := by
    intro f x R hx
    rw [locOut hx, locOut (by rw [prLen, rmOut hx]; exact Nat.le_refl _)]
    exact ⟨0, rfl, fun _ h => by cases h⟩
  intro f
  induction f with
  | zero =>
    rintro x R (hx | hx)
    · obtain ⟨hl, e⟩ := prIs hx
      have hxl := onLt hx
      have ev : visI (gI (prL C) (rmN C x)) = visI (gI C x) := by rw [gIAt hl, e, gIAt hxl]; unfold visI; rw [prOp]
      cases hv : visI (gI C x)
      · rw [locLong hxl hv, locLong hl (by rw [ev]; exact hv)]
        exact ⟨0, rfl, fun h => by cases h⟩
      · rw [locVis hxl hv, locVis hl (by rw [ev]; exact hv)]
        exact ⟨rmN C x, rfl, fun _ _ _ => ⟨hx, rfl⟩⟩
    · exact hend hx
  | succ f ih =>
    rintro x R (hx | hx)
    · obtain ⟨hl, e⟩ := prIs hx
      have hxl := onLt hx
      have eg : gI (prL C) (rmN C x) = prI C (gI C x) := by rw [gIAt hl, e, gIAt hxl]
      have ev : visI (gI (prL C) (rmN C x)) = visI (gI C x) := by rw [eg]; unfold visI; rw [prOp]
      cases hv : visI (gI C x)
      · rw [locGo hxl hv, locGo hl (by rw [ev]; exact hv), eg]
        have hm : rmN C (x + 1) = rmN C x + 1 := by rw [rmNS, if_pos hx]
        have hgi : gI C x = C[x] := gIAt hxl
        have key : exe (prI C (gI C x)) (rmN C x) R = match exe (gI C x) x R with
            | .fin s => .fin s
            | .go y R' => .go (rmN C y) R' := by
          have hop : (prI C (gI C x)).op = (gI C x).op := prOp
          by_cases hj : (gI C x).jmp = true
          · have h45 : (gI C x).op = 4 ∨ (gI C x).op = 5 := by
              unfold I8.jmp at hj
              rw [Bool.or_eq_true, decide_eq_true_iff, decide_eq_true_iff] at hj
              exact hj
            have hti : prI C (gI C x) = setNf (gI C x) (rmN C (gI C x).n.toNat : Nat) := by unfold prI; rw [if_pos hj]
            rw [hti]
            rcases h45 with h4 | h5
            · have e1 : exe (gI C x) x R = .go (gI C x).n.toNat R := by unfold exe; rw [h4]; rfl
              rw [e1]
              unfold exe setNf; simp only [h4]; rfl
            · have e1 : exe (gI C x) x R = .go (if R (gI C x).b = 0 then x + 1 else (gI C x).n.toNat) R := by unfold exe; rw [h5]; rfl
              rw [e1]
              have e2 : exe (setNf (gI C x) (rmN C (gI C x).n.toNat : Nat)) (rmN C x) R = .go (if R (gI C x).b = 0 then rmN C x + 1 else rmN C (gI C x).n.toNat) R := by
                unfold exe setNf; simp only [h5]; rfl
              rw [e2]
              show _ = Sx.go (rmN C (if R (gI C x).b = 0 then x + 1 else (gI C x).n.toNat)) R
              by_cases hr : R (gI C x).b = 0
              · rw [if_pos hr, if_pos hr, hm]
              · rw [if_neg hr, if_neg hr]
          · have hti : prI C (gI C x) = gI C x := by unfold prI; rw [if_neg hj]
            rw [hti]
            have hn4 : (gI C x).op ≠ 4 := fun h => hj (jmp4 h)
            have hn5 : (gI C x).op ≠ 5 := fun h => hj (by unfold I8.jmp; rw [h]; rfl)
            unfold exe
            rw [if_neg hn4, if_neg hn5, if_neg hn4, if_neg hn5]
            repeat' split
            all_goals first
              | rfl
              | (rename_i h; simp at h; done)
              | skip
            all_goals simp_all
        rw [key]
        have hsc : ∀ y R', exe (gI C x) x R = .go y R' → y ∈ sc C x := fun y R' h => by
          rw [hgi] at h
          exact scExe hxl h
        have hfin : ∀ s, exe (gI C x) x R = .fin s → s.dn = true ∨ s.fl = true := fun s hE => exeFin hE
        generalize exe (gI C x) x R = E at hsc hfin ⊢
        cases E with
        | fin s =>
          refine ⟨s.pos, rfl, fun _ h2 h3 => ?_⟩
          have h2 : s.dn = false := h2
          have h3 : s.fl = false := h3
          rcases hfin s rfl with h | h
          · rw [h] at h2; cases h2
          · rw [h] at h3; cases h3
        | go y R' => exact ih (onNext hx (hsc y R' rfl))
      · rw [locVis hxl hv, locVis hl (by rw [ev]; exact hv)]
        exact ⟨rmN C x, rfl, fun _ _ _ => ⟨hx, rfl⟩⟩
    · exact hend hx
theorem prSim {C : List I8} (hok : CfOk C) : Sim C (prL C) (fun x y _ => PrP C x y) := by
  refine ⟨fun _ => ⟨?_, by simp [rmN, rmK]⟩, ?_⟩
  · by_cases hl : 0 < C.length
    · exact .inl (rcIff.2 (Rc.refl (avdIff.2 ⟨hl, by omega⟩)))
    · exact .inr (by omega)
  · rintro x y R ⟨hx, rfl⟩
    obtain ⟨y, h1, h2⟩ := prLoc hok (f := 256) (R := R) hx
    cases hl : (locF C 256 x R).lg
    · right
      rw [h1]
      refine ⟨hl, rfl, rfl, rfl, fun hd hf => ?_⟩
      obtain ⟨h3, h4⟩ := h2 hl hd hf
      obtain ⟨hp, hv⟩ := locPos hl hd hf
      generalize locF C 256 x R = S at *
      show y < _ ∧ _ = gI (prL C) y ∧ _
      subst h4
      obtain ⟨hl2, e⟩ := prIs h3
      rw [gIAt hp] at hv
      have hsuc : S.pos + 1 ∈ sc C S.pos := by
        rw [scAt hp]
        have h8 := of_decide_eq_true hv
        unfold scI
        rw [if_neg (by omega), if_neg (by omega), if_neg (by omega)]
        simp
      refine ⟨hl2, ?_, fun _ => ⟨onNext h3 hsuc, by rw [rmNS, if_pos h3]⟩⟩
      rw [gIAt hl2, e, gIAt hp]
      unfold prI
      rw [if_neg (by rw [visJ hv]; simp)]
    · exact .inl rfl
end Go.Proofs.YtnnpkbonbemeaaaDoor
