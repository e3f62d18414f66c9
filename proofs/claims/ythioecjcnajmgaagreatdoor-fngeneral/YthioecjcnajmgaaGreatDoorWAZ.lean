import Derived.Test.YthioecjcnajmgaaGreatDoorWAA
import Derived.Test.YthioecjcnajmgaaGreatDoorWAX
import Derived.Test.YthioecjcnajmgaaGreatDoorWAE
namespace Go.Proofs.YthioecjcnajmgaaGreatDoor

/-- What a store says, read as types without end: hd tells each cell's head. -/
def val (g : Nat → GC) (hd : Nat → Nat) : List Nat → Nat → Option Nd
  | [], i => some (g (hd i)).nd
  | j :: p, i => match (g (hd i)).ks[j]? with
    | some k => val g hd p k
    | none => none

theorem val_con (g : Nat → GC) (hd : Nat → Nat) (i : Nat) : (fun p => val g hd p i) = con (g (hd i)).nd ((g (hd i)).ks.map fun k => fun p => val g hd p k) := by
  funext p
  cases p with
  | nil => rfl
  | cons j p =>
    simp only [val, con, List.getElem?_map]
    cases (g (hd i)).ks[j]? <;> rfl

/-- It agrees with what the cells say: a store that was equated to its end has a solution. -/
theorem sat_val {X : Nat → Prop} {g : Nat → GC} {lk : Nat → Option Nat} {hd : Nat → Nat} (h1 : ∀ i j, lk i = some j → hd i = hd j) (h2 : ∀ i, lk i = none → hd i = i) : SatC X g lk (fun i p => val g hd p i) := by
  refine ⟨fun i j e => ?_, fun i _ hl _ => ?_⟩
  · show (fun p => val g hd p i) = fun p => val g hd p j
    rw [val_con, val_con, h1 i j e]
  · have := val_con g hd i
    rw [h2 i hl] at this
    exact this

/-- A type without end that has one, written out behind its kids. -/
def Fin'F (R : DT × List Nd → Prop) (x : DT × List Nd) : Prop :=
  (∃ (n : Nd) (ds : List DT) (xss : List (List Nd)), x = (con n ds, xss.flatten ++ [n]) ∧ (ds.length = xss.length) ∧ (∀ i (h1 : i < ds.length) (h2 : i < xss.length), R (ds[i], xss[i])))

structure Fin' (d : DT) (xs : List Nd) : Prop where
  of ::
  lfp : Lfp (Fin'F) (d, xs)

theorem Fin'.grows : Grows (Fin'F) := by
  rintro R R' x h0 ⟨n, ds, xss, e0, hl, h⟩
  · exact ⟨n, ds, xss, e0, hl, fun i h1 h2 => h0 _ (h i h1 h2)⟩

theorem Fin'.mk (n : Nd) (ds : List DT) (xss : List (List Nd)) (hl : ds.length = xss.length) (h : ∀ i (h1 : i < ds.length) (h2 : i < xss.length), Fin' (ds[i]) (xss[i])) : Fin' (con n ds) (xss.flatten ++ [n]) :=
  ⟨Lfp.fold (Fin'.grows) (⟨n, ds, xss, rfl, hl, fun i h1 h2 => (h i h1 h2).lfp⟩)⟩

theorem Fin'.elim {motive : ∀ d xs, Fin' d xs → Prop}
    (mk : ∀ (n : Nd) (ds : List DT) (xss : List (List Nd)) (hl : ds.length = xss.length) (h : ∀ i (h1 : i < ds.length) (h2 : i < xss.length), Fin' (ds[i]) (xss[i])), (∀ i (h1 : i < ds.length) (h2 : i < xss.length), motive (ds[i]) (xss[i]) (h i h1 h2)) → motive (con n ds) (xss.flatten ++ [n]) (Fin'.mk n ds xss hl h))
    {d : DT} {xs : List Nd} (h : Fin' d xs) : motive d xs h := by
  have key : ∀ h, motive (d, xs).1 (d, xs).2 h := Lfp.ind (Fin'.grows) (p := fun x => ∀ h, motive x.1 x.2 h) (by
    rintro x ⟨n, ds, xss, e0, hl, h⟩ h9
    · subst e0; exact mk n ds xss hl (fun i h1 h2 => ⟨(h i h1 h2).1⟩) (fun i h1 h2 => (h i h1 h2).2 _)) h.lfp
  exact key h

theorem Fin'.inv {motive : ∀ d xs, Fin' d xs → Prop}
    (mk : ∀ (n : Nd) (ds : List DT) (xss : List (List Nd)) (hl : ds.length = xss.length) (h : ∀ i (h1 : i < ds.length) (h2 : i < xss.length), Fin' (ds[i]) (xss[i])), motive (con n ds) (xss.flatten ++ [n]) (Fin'.mk n ds xss hl h))
    {d : DT} {xs : List Nd} (h : Fin' d xs) : motive d xs h := by
  induction h using Fin'.elim with
  | mk n ds xss hl h _ => exact mk n ds xss hl h

theorem Fin'.root {d : DT} {xs : List Nd} (h : Fin' d xs) : ∃ n, d [] = some n := by
  cases h using Fin'.inv with
  | mk n ds xss _ _ => exact ⟨n, rfl⟩

theorem con_len {n m : Nd} {ds es : List DT} (h : con n ds = con m es) (h1 : ∀ d ∈ ds, ∃ k, d [] = some k) (h2 : ∀ d ∈ es, ∃ k, d [] = some k) : ds.length = es.length := by
  have key : ∀ {n m : Nd} {ds es : List DT}, con n ds = con m es → (∀ d ∈ es, ∃ k, d [] = some k) → ¬ ds.length < es.length := by
    intro n m ds es h h2 hlt
    have h9 := congrFun h [ds.length]
    obtain ⟨k, hk⟩ := h2 es[ds.length] (List.getElem_mem hlt)
    simp [con, List.getElem?_eq_getElem hlt, hk] at h9
  have a := key h h2
  have b := key h.symm h1
  omega

/-- A type has one way of being written. -/
theorem Fin'.one {d : DT} {xs : List Nd} (h : Fin' d xs) : ∀ {ys : List Nd}, Fin' d ys → xs = ys := by
  induction h using Fin'.elim with
  | mk n ds xss hl h1 ih =>
    intro ys h'
    generalize hd : con n ds = d at h'
    cases h' using Fin'.inv with
    | mk m es yss hl' h2 =>
      obtain rfl := con_nd hd
      have r1 : ∀ d ∈ ds, ∃ k, d [] = some k := by
        intro d hm
        obtain ⟨i, hi, rfl⟩ := List.getElem_of_mem hm
        exact (h1 i hi (by omega)).root
      have r2 : ∀ d ∈ es, ∃ k, d [] = some k := by
        intro d hm
        obtain ⟨i, hi, rfl⟩ := List.getElem_of_mem hm
        exact (h2 i hi (by omega)).root
      have hlE := con_len hd r1 r2
      obtain rfl := con_kids hd hlE
      have : xss = yss := by
        apply List.ext_getElem (by omega)
        intro i h3 h4
        exact ih i (by omega) h3 (h2 i (by omega) h4)
      rw [this]

/-- What a term makes of what its unknowns are. -/
def EvF (σ : Nd → DT) (R : List Nd × DT → Prop) (x : List Nd × DT) : Prop :=
  (∃ (n : Nd), x = ([n], σ n) ∧ (n.kind = 61) ∧ (n.kids = 0)) ∨
  (∃ (n : Nd) (xss : List (List Nd)) (ds : List DT), x = (xss.flatten ++ [n], con n ds) ∧ (n.kind ≠ 61) ∧ (n.kids = (ds.length : Int)) ∧ (ds.length = xss.length) ∧ (∀ i (h1 : i < xss.length) (h2 : i < ds.length), R (xss[i], ds[i])))

structure Ev (σ : Nd → DT) (xs : List Nd) (d : DT) : Prop where
  of ::
  lfp : Lfp (EvF σ) (xs, d)

theorem Ev.grows (σ : Nd → DT) : Grows (EvF σ) := by
  rintro R R' x h0 (⟨n, e0, hk, h0⟩ | ⟨n, xss, ds, e0, hk, hn, hl, h⟩)
  · exact .inl ⟨n, e0, hk, h0⟩
  · exact .inr (⟨n, xss, ds, e0, hk, hn, hl, fun i h1 h2 => h0 _ (h i h1 h2)⟩)

theorem Ev.leaf {σ : Nd → DT} (n : Nd) (hk : n.kind = 61) (h0 : n.kids = 0) : Ev σ ([n]) (σ n) :=
  ⟨Lfp.fold (Ev.grows σ) (.inl ⟨n, rfl, hk, h0⟩)⟩

theorem Ev.node {σ : Nd → DT} (n : Nd) (hk : n.kind ≠ 61) (xss : List (List Nd)) (ds : List DT) (hn : n.kids = (ds.length : Int)) (hl : ds.length = xss.length) (h : ∀ i (h1 : i < xss.length) (h2 : i < ds.length), Ev σ (xss[i]) (ds[i])) : Ev σ (xss.flatten ++ [n]) (con n ds) :=
  ⟨Lfp.fold (Ev.grows σ) (.inr (⟨n, xss, ds, rfl, hk, hn, hl, fun i h1 h2 => (h i h1 h2).lfp⟩))⟩

theorem Ev.elim {σ : Nd → DT} {motive : ∀ xs d, Ev σ xs d → Prop}
    (leaf : ∀ (n : Nd) (hk : n.kind = 61) (h0 : n.kids = 0), motive ([n]) (σ n) (Ev.leaf n hk h0))
    (node : ∀ (n : Nd) (hk : n.kind ≠ 61) (xss : List (List Nd)) (ds : List DT) (hn : n.kids = (ds.length : Int)) (hl : ds.length = xss.length) (h : ∀ i (h1 : i < xss.length) (h2 : i < ds.length), Ev σ (xss[i]) (ds[i])), (∀ i (h1 : i < xss.length) (h2 : i < ds.length), motive (xss[i]) (ds[i]) (h i h1 h2)) → motive (xss.flatten ++ [n]) (con n ds) (Ev.node n hk xss ds hn hl h))
    {xs : List Nd} {d : DT} (h : Ev σ xs d) : motive xs d h := by
  have key : ∀ h, motive (xs, d).1 (xs, d).2 h := Lfp.ind (Ev.grows σ) (p := fun x => ∀ h, motive x.1 x.2 h) (by
    rintro x (⟨n, e0, hk, h0⟩ | ⟨n, xss, ds, e0, hk, hn, hl, h⟩) h9
    · subst e0; exact leaf n hk h0
    · subst e0; exact node n hk xss ds hn hl (fun i h1 h2 => ⟨(h i h1 h2).1⟩) (fun i h1 h2 => (h i h1 h2).2 _)) h.lfp
  exact key h

theorem Ev.inv {σ : Nd → DT} {motive : ∀ xs d, Ev σ xs d → Prop}
    (leaf : ∀ (n : Nd) (hk : n.kind = 61) (h0 : n.kids = 0), motive ([n]) (σ n) (Ev.leaf n hk h0))
    (node : ∀ (n : Nd) (hk : n.kind ≠ 61) (xss : List (List Nd)) (ds : List DT) (hn : n.kids = (ds.length : Int)) (hl : ds.length = xss.length) (h : ∀ i (h1 : i < xss.length) (h2 : i < ds.length), Ev σ (xss[i]) (ds[i])), motive (xss.flatten ++ [n]) (con n ds) (Ev.node n hk xss ds hn hl h))
    {xs : List Nd} {d : DT} (h : Ev σ xs d) : motive xs d h := by
  induction h using Ev.elim with
  | leaf n hk h0 => exact leaf n hk h0
  | node n hk xss ds hn hl h _ => exact node n hk xss ds hn hl h

/-- An unknown that stands for itself. -/
def selfT (n : Nd) : DT := con n []

theorem Ev.one {σ : Nd → DT} {xs : List Nd} {d : DT} (h : Ev σ xs d) : One xs := by
  induction h using Ev.elim with
  | leaf n hk h0 =>
    have := One.join (A := []) (n := n) (by simp) (by simpa using h0)
    simpa using this
  | node n hk xss ds hn hl h ih =>
    refine One.join (fun x hx => ?_) (by rw [hn, hl])
    obtain ⟨i, hi, rfl⟩ := List.getElem_of_mem hx
    exact ih i hi (by omega)

theorem Ev.last {σ : Nd → DT} {xs : List Nd} {d : DT} (h : Ev σ xs d) : (∃ n : Nd, xs = [n] ∧ (n.kind = 61 ∧ n.kids = 0) ∧ d = σ n) ∨ ∃ (n : Nd) (xss : List (List Nd)) (ds : List DT), n.kind ≠ 61 ∧ n.kids = (ds.length : Int) ∧ ds.length = xss.length ∧ (∀ i (h1 : i < xss.length) (h2 : i < ds.length), Ev σ xss[i] ds[i]) ∧ xs = xss.flatten ++ [n] ∧ d = con n ds := by
  cases h using Ev.inv with
  | leaf n hk h0 => exact .inl ⟨n, rfl, ⟨hk, h0⟩, rfl⟩
  | node n hk xss ds hn hl h => exact .inr ⟨n, xss, ds, hk, hn, hl, h, rfl, rfl⟩

theorem ev_ones {σ : Nd → DT} {xss : List (List Nd)} {ds : List DT} (hl : ds.length = xss.length) (h : ∀ i (h1 : i < xss.length) (h2 : i < ds.length), Ev σ xss[i] ds[i]) : ∀ x ∈ xss, One x := by
  intro x hx
  obtain ⟨i, hi, rfl⟩ := List.getElem_of_mem hx
  exact (h i hi (by omega)).one

/-- A term makes one thing. -/
theorem Ev.fun {σ : Nd → DT} {xs : List Nd} {d : DT} (h : Ev σ xs d) : ∀ {d' : DT}, Ev σ xs d' → d = d' := by
  induction h using Ev.elim with
  | leaf n hk h0 =>
    intro d' h'
    rcases h'.last with ⟨m, e, _, rfl⟩ | ⟨m, xss, ds, hm, _, _, _, e, rfl⟩
    · simp at e; subst e; rfl
    · have := (List.append_inj' (s₁ := []) e rfl).2
      simp at this
      subst this
      exact absurd hk hm
  | node n hk xss ds hn hl h ih =>
    intro d' h'
    rcases h'.last with ⟨m, e, ⟨hm, _⟩, rfl⟩ | ⟨m, yss, es, hm, hn', hl', h2, e, rfl⟩
    · have := (List.append_inj' (s₂ := []) e rfl).2
      simp at this
      subst this
      exact absurd hm hk
    · obtain ⟨e1, e2⟩ := List.append_inj' e rfl
      simp at e2
      subst e2
      have e3 := ones_same (ev_ones hl h) (ev_ones hl' h2) e1
      subst e3
      have : ds = es := by
        apply List.ext_getElem (by omega)
        intro i h3 h4
        exact ih i (by omega) h3 (h2 i (by omega) h4)
      rw [this]

theorem selfT_root {xs : List Nd} {d : DT} (h : Ev selfT xs d) : ∃ k, d [] = some k := by
  rcases h.last with ⟨n, _, _, rfl⟩ | ⟨n, _, ds, _, _, _, _, _, rfl⟩
  · exact ⟨n, rfl⟩
  · exact ⟨n, rfl⟩

theorem ev_roots {xss : List (List Nd)} {ds : List DT} (hl : ds.length = xss.length) (h : ∀ i (h1 : i < xss.length) (h2 : i < ds.length), Ev selfT xss[i] ds[i]) : ∀ d ∈ ds, ∃ k, d [] = some k := by
  intro d hd
  obtain ⟨i, hi, rfl⟩ := List.getElem_of_mem hd
  exact selfT_root (h i (by omega) hi)

/-- A type has one way of being written. -/
theorem Ev.self {xs : List Nd} {d : DT} (h : Ev selfT xs d) : ∀ {ys : List Nd}, Ev selfT ys d → xs = ys := by
  induction h using Ev.elim with
  | leaf n hk h0 =>
    intro ys h'
    rcases h'.last with ⟨m, rfl, _, e⟩ | ⟨m, yss, es, hm, _, _, h2, rfl, e⟩
    · rw [con_nd e]
    · have := con_nd e
      subst this
      exact absurd hk hm
  | node n hk xss ds hn hl h ih =>
    intro ys h'
    rcases h'.last with ⟨m, rfl, ⟨hm, _⟩, e⟩ | ⟨m, yss, es, hm, hn', hl', h2, rfl, e⟩
    · have := con_nd e
      subst this
      exact absurd hm hk
    · have hlE := con_len e (ev_roots hl h) (ev_roots hl' h2)
      have e1 := con_nd e
      subst e1
      have e2 := con_kids e hlE
      subst e2
      have : xss = yss := by
        apply List.ext_getElem (by omega)
        intro i h3 h4
        exact ih i h3 (by omega) (h2 i h4 (by omega))
      rw [this]

/-- A node's own way of being written, from its kids'. -/
theorem Ev.kids {n : Nd} {ds : List DT} {xs : List Nd} (h : Ev selfT xs (con n ds)) (hr : ∀ d ∈ ds, ∃ k, d [] = some k) : ∃ xss : List (List Nd), xss.length = ds.length ∧ (∀ i (h1 : i < xss.length) (h2 : i < ds.length), Ev selfT xss[i] ds[i]) ∧ xs = xss.flatten ++ [n] ∧ n.kids = (ds.length : Int) := by
  rcases h.last with ⟨m, rfl, ⟨hm, hm0⟩, e⟩ | ⟨m, yss, es, hm, hn', hl', h2, rfl, e⟩
  · have e1 := con_nd e
    subst e1
    have hl := con_len e hr (by simp)
    have : ds = [] := List.eq_nil_of_length_eq_zero (by simpa using hl)
    subst this
    exact ⟨[], rfl, by simp, by simp, by simpa using hm0⟩
  · have e1 := con_nd e
    subst e1
    have hl := con_len e hr (ev_roots hl' h2)
    have e2 := con_kids e hl
    subst e2
    exact ⟨yss, by omega, h2, rfl, hn'⟩

/-- From what a term makes, to what its unknowns are. -/
theorem Ev.back {σ : Nd → DT} {g : List Nd} {d : DT} (h : Ev σ g d) : ∀ {t : List Nd}, Ev selfT t d → (∀ n ∈ g, n.kind = 61 → ∃ xs, Ev selfT xs (σ n)) ∧ ∀ ρ : Int → List Nd, (∀ n ∈ g, n.kind = 61 → Ev selfT (ρ n.num) (σ n)) → fill ρ g = t := by
  induction h using Ev.elim with
  | leaf n hk h0 =>
    intro t ht
    refine ⟨fun m hm _ => ?_, fun ρ hρ => ?_⟩
    · simp at hm; subst hm; exact ⟨t, ht⟩
    · have h1 := hρ n (by simp) hk
      simp only [fill, fillN, List.flatMap_cons, List.flatMap_nil, hk, if_true, List.append_nil]
      exact h1.self ht
  | node n hk xss ds hn hl h ih =>
    intro t ht
    rcases ht.last with ⟨m, rfl, ⟨hm, _⟩, e⟩ | ⟨m, yss, es, hm, hn', hl', h2, rfl, e⟩
    · have := con_nd e
      subst this
      exact absurd hm hk
    · have e1 := con_nd e
      subst e1
      have hlE : ds.length = es.length := by omega
      have e2 := con_kids e hlE
      subst e2
      refine ⟨fun m hm hm61 => ?_, fun ρ hρ => ?_⟩
      · rcases List.mem_append.1 hm with hm | hm
        · obtain ⟨a, ha, hma⟩ := List.mem_flatten.1 hm
          obtain ⟨i, hi, rfl⟩ := List.getElem_of_mem ha
          exact (ih i hi (by omega) (h2 i (by omega) (by omega))).1 m hma hm61
        · simp at hm; subst hm; exact absurd hm61 hk
      · rw [fill_append, fill_flatten]
        have e3 : fill ρ [n] = [n] := by simp [fill, fillN, hk]
        rw [e3]
        congr 2
        apply List.ext_getElem (by simp; omega)
        intro i h3 h4
        simp only [List.getElem_map]
        have hi : i < xss.length := by simpa using h3
        refine (ih i hi (by omega) (h2 i h4 (by omega))).2 ρ (fun m hm hm61 => ?_)
        exact hρ m (List.mem_append_left _ (List.mem_flatten.2 ⟨_, List.getElem_mem hi, hm⟩)) hm61

/-- From what its unknowns are, to what a term makes. -/
theorem Ev.forth {σ : Nd → DT} {g : List Nd} {d : DT} (h : Ev σ g d) {ρ : Int → List Nd} (hρ : ∀ n ∈ g, n.kind = 61 → Ev selfT (ρ n.num) (σ n)) : Ev selfT (fill ρ g) d := by
  induction h using Ev.elim with
  | leaf n hk h0 =>
    have h1 := hρ n (by simp) hk
    simp only [fill, fillN, List.flatMap_cons, List.flatMap_nil, hk, if_true, List.append_nil]
    exact h1
  | node n hk xss ds hn hl h ih =>
    rw [fill_append, fill_flatten]
    have e3 : fill ρ [n] = [n] := by simp [fill, fillN, hk]
    rw [e3]
    refine Ev.node n hk _ ds hn (by simp [hl]) (fun i h1 h2 => ?_)
    simp only [List.getElem_map]
    have hi : i < xss.length := by simpa using h1
    exact ih i hi h2 (fun m hm hm61 => hρ m (List.mem_append_left _ (List.mem_flatten.2 ⟨_, List.getElem_mem hi, hm⟩)) hm61)

/-- What stands for itself. -/
theorem Ev.asSelf {σ : Nd → DT} {t : List Nd} {d : DT} (h : Ev σ t d) (hσ : ∀ n ∈ t, n.kind = 61 → σ n = selfT n) : Ev selfT t d := by
  induction h using Ev.elim with
  | leaf n hk h0 =>
    rw [hσ n (by simp) hk]
    exact Ev.leaf n hk h0
  | node n hk xss ds hn hl h ih =>
    refine Ev.node n hk xss ds hn hl (fun i h1 h2 => ih i h1 h2 (fun m hm hm61 => hσ m (List.mem_append_left _ (List.mem_flatten.2 ⟨_, List.getElem_mem h1, hm⟩)) hm61))

/-- Every term makes something. -/
theorem ev_span (σ : Nd → DT) {t : List Nd} (hl : Leafy t) {S ys : List Sp} {n : Nat} (h : after t n = some (S, ys)) : ∀ i, i < n → ∀ s, ys[i]? = some s → ∃ d, Ev σ (span t s.fr i) d := by
  intro i
  induction i using Nat.strongRecOn with
  | ind i ih =>
    intro hi s hs
    have hle := after_le h
    have hit : i < t.length := by omega
    obtain ⟨K, hK, hsp, hO⟩ := span_kids h hi hs hit
    obtain ⟨_, hn⟩ := hK.num
    rw [hsp]
    by_cases h61 : t[i].kind = 61
    · have hz := hl t[i] (List.getElem_mem hit) h61
      have hK0 : K = [] := List.eq_nil_of_length_eq_zero (by omega)
      subst hK0
      exact ⟨_, by simpa [kidsIn] using Ev.leaf (σ := σ) t[i] h61 hz⟩
    · have hk : ∀ r, ∃ d, ∀ hr : r < K.length, Ev σ (span t K[r].fr K[r].rt) d := by
        intro r
        by_cases hr : r < K.length
        · have hm := hK.mem r hr
          obtain ⟨d, hd⟩ := ih K[r].rt hm.2.2 (by omega) K[r] hm.1
          exact ⟨d, fun _ => hd⟩
        · exact ⟨fun _ => none, fun h => absurd h hr⟩
      obtain ⟨F, hF⟩ := Classical.axiomOfChoice hk
      refine ⟨con t[i] ((List.range K.length).map F), Ev.node t[i] h61 (kidsIn t K) _ (by simpa using hn) (by simp [kidsIn]) (fun r h1 h2 => ?_)⟩
      have hr : r < K.length := by simpa using h2
      simp only [kidsIn, List.getElem_map, List.getElem_range]
      exact hF r hr

/-- What fills a term's unknowns makes something, if all of it does. -/
theorem Ev.cut {σ : Nd → DT} {g : List Nd} {d : DT} (h : Ev σ g d) {ρ : Int → List Nd} (hρ : ∀ x, One (ρ x)) : ∀ {D : DT}, Ev selfT (fill ρ g) D → ∀ n ∈ g, n.kind = 61 → ∃ e, Ev selfT (ρ n.num) e := by
  induction h using Ev.elim with
  | leaf n hk h0 =>
    intro D hD m hm _
    simp at hm
    subst hm
    have e : fill ρ [m] = ρ m.num := by simp [fill, fillN, hk]
    rw [e] at hD
    exact ⟨D, hD⟩
  | node n hk xss ds hn hl h ih =>
    intro D hD m hm hm61
    have e3 : fill ρ [n] = [n] := by simp [fill, fillN, hk]
    rw [fill_append, fill_flatten, e3] at hD
    have hO := ev_ones hl h
    have hL : ∀ i (h1 : i < xss.length), Leafy xss[i] := by
      have key : ∀ {xs : List Nd} {d : DT}, Ev σ xs d → Leafy xs := by
        intro xs d hx
        induction hx using Ev.elim with
        | leaf n hk h0 => intro m hm _; simp at hm; subst hm; exact h0
        | node n hk yss es hn hl h ih =>
          intro m hm hm61
          rcases List.mem_append.1 hm with hm | hm
          · obtain ⟨a, ha, hma⟩ := List.mem_flatten.1 hm
            obtain ⟨i, hi, rfl⟩ := List.getElem_of_mem ha
            exact ih i hi (by omega) m hma hm61
          · simp at hm; subst hm; exact absurd hm61 hk
      exact fun i h1 => key (h i h1 (by omega))
    rcases hD.last with ⟨q, e, ⟨hq, _⟩, _⟩ | ⟨q, yss, es, hq, hn', hl', h2, e, _⟩
    · have := (List.append_inj' (s₂ := []) e rfl).2
      simp at this
      subst this
      exact absurd hq hk
    · obtain ⟨e1, e2⟩ := List.append_inj' e rfl
      have e4 := ones_same (A := xss.map (fill ρ)) (by
        intro y hy
        obtain ⟨a, ha, rfl⟩ := List.mem_map.1 hy
        obtain ⟨i, hi, rfl⟩ := List.getElem_of_mem ha
        exact fill_one hρ (hL i hi) (hO _ (List.getElem_mem hi))) (ev_ones hl' h2) e1
      rcases List.mem_append.1 hm with hm | hm
      · obtain ⟨a, ha, hma⟩ := List.mem_flatten.1 hm
        obtain ⟨i, hi, rfl⟩ := List.getElem_of_mem ha
        have hi2 : i < yss.length := by rw [← e4]; simpa using hi
        have e5 : yss[i] = fill ρ xss[i] := by
          have : yss[i] = (xss.map (fill ρ))[i]'(by simpa using hi) := by simp only [e4]
          rw [this]
          simp
        have h9 := h2 i hi2 (by omega)
        rw [e5] at h9
        exact ih i hi (by omega) h9 m hma hm61
      · simp at hm; subst hm; exact absurd hm61 hk

end Go.Proofs.YthioecjcnajmgaaGreatDoor
