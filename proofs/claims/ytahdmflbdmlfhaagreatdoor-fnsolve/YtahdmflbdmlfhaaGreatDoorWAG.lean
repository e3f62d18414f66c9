import Derived.Test.YtahdmflbdmlfhaaGreatDoorWAF
import Derived.Test.YtahdmflbdmlfhaaGreatDoorWAA
import Derived.Test.YtahdmflbdmlfhaaGreatDoorWAC
import Derived.Test.YtahdmflbdmlfhaaGreatDoorWAB
namespace Go.Proofs.YtahdmflbdmlfhaaGreatDoor

def nums (bs : List (Int × List Nd)) : List Int := bs.map Prod.fst

/-- A filling that gives what the binds say. -/
def Ext (θ : Int → List Nd) (bs : List (Int × List Nd)) : Prop := ∀ p ∈ bs, θ p.1 = p.2

/-- From binds bs on, G matches T by the binds bs'. -/
structure MatchOk (bs : List (Int × List Nd)) (G T : List Nd) (bs' : List (Int × List Nd)) : Prop where
  pre : ∀ p ∈ bs, p ∈ bs'
  nodup : (nums bs').Nodup
  one : ∀ p ∈ bs', One p.2
  mem : ∀ x, x ∈ nums bs' ↔ x ∈ nums bs ∨ x ∈ metas G
  fills : ∀ θ, Ext θ bs' → fill θ G = T
  force : ∀ θ, (∀ x, One (θ x)) → Ext θ bs → fill θ G = T → Ext θ bs'

def MatchNo (bs : List (Int × List Nd)) (G T : List Nd) : Prop := ∀ θ, (∀ x, One (θ x)) → Ext θ bs → fill θ G ≠ T

theorem MatchOk.step {bs bs1 bs2 : List (Int × List Nd)} {G T A B : List Nd} (h1 : MatchOk bs G T bs1) (h2 : MatchOk bs1 A B bs2) (hA : One A) (hl : Leafy A) (hB : One B) : MatchOk bs (G ++ A) (T ++ B) bs2 := by
  refine ⟨fun p hp => h2.pre p (h1.pre p hp), h2.nodup, h2.one, ?_, ?_, ?_⟩
  · intro x
    rw [h2.mem, h1.mem, metas_append, List.mem_append, or_assoc]
  · intro θ h
    rw [fill_append, h2.fills θ h, h1.fills θ (fun p hp => h (p) (h2.pre p hp))]
  · intro θ hθ h e
    rw [fill_append] at e
    obtain ⟨e1, e2⟩ := (fill_one hθ hl hA).suffix hB e
    exact h2.force θ hθ (h1.force θ hθ h e1) e2

theorem MatchOk.over {bs bs' : List (Int × List Nd)} {G T : List Nd} {n : Nd} (h : MatchOk bs G T bs') (hk : n.kind ≠ 61) : MatchOk bs (G ++ [n]) (T ++ [n]) bs' := by
  have hf : ∀ θ, fill θ [n] = [n] := fun θ => by simp [fill, fillN, hk]
  refine ⟨h.pre, h.nodup, h.one, ?_, ?_, ?_⟩
  · intro x
    have hm : metas [n] = [] := by simp [metas, hk]
    rw [h.mem, metas_append, hm, List.append_nil]
  · intro θ hE
    rw [fill_append, hf, h.fills θ hE]
  · intro θ hθ hE e
    rw [fill_append, hf] at e
    exact h.force θ hθ hE (List.append_inj' e rfl).1

/-- A kid that can't be matched: the whole can't. -/
theorem MatchNo.kid {bs bs1 : List (Int × List Nd)} {A B : List (List Nd)} {n : Nd} {k : Nat} (hk : n.kind ≠ 61) (hA : ∀ a ∈ A, One a) (hl : ∀ a ∈ A, Leafy a) (hB : ∀ b ∈ B, One b) (hka : k < A.length) (hkb : k < B.length)
    (h1 : MatchOk bs (A.take k).flatten (B.take k).flatten bs1) (h2 : MatchNo bs1 A[k] B[k]) : MatchNo bs (A.flatten ++ [n]) (B.flatten ++ [n]) := by
  intro θ hθ hE e
  have hf : fill θ [n] = [n] := by simp [fill, fillN, hk]
  rw [fill_append, hf, fill_flatten] at e
  have e1 := (List.append_inj' e rfl).1
  have e2 : A.map (fill θ) = B := ones_same (by
    intro x hx
    obtain ⟨a, ha, rfl⟩ := List.mem_map.1 hx
    exact fill_one hθ (hl a ha) (hA a ha)) hB e1
  have e3 : fill θ A[k] = B[k] := by
    have : (A.map (fill θ))[k]'(by simpa using hka) = B[k] := by simp only [e2]
    rw [← this]
    simp
  refine h2 θ hθ (h1.force θ hθ hE ?_) e3
  rw [fill_flatten, List.map_take, e2]

/-- A term's nodes: its kids', and its root. -/
theorem span_kids {t : List Nd} {S ys : List Sp} {n i : Nat} {s : Sp} (h : after t n = some (S, ys)) (hi : i < n) (hs : ys[i]? = some s) (ht : i < t.length) :
    ∃ K, KidsAt t ys i K ∧ span t s.fr i = (kidsIn t K).flatten ++ [t[i]] ∧ (∀ a ∈ kidsIn t K, One a) := by
  obtain ⟨K, hK, ho⟩ := kids_at2 h i hi
  rw [ho] at hs
  simp only [Option.some.injEq] at hs
  subst hs
  have hle := after_le h
  have hc := kids_con hK
  have hfi : frOf K i ≤ i := hc.le
  refine ⟨K, hK, ?_, ?_⟩
  · show span t (frOf K i) i = _
    rw [span_snoc t (frOf K i) i ht hfi, con_flat hc (by omega)]
  · intro a ha
    obtain ⟨x, hx, rfl⟩ := List.mem_map.1 ha
    obtain ⟨r, hr, rfl⟩ := List.getElem_of_mem hx
    have hm := hK.mem r hr
    exact sub_one h (by omega) hm.1

/-- Two fillings of one term that are the same agree at its unknowns. -/
theorem fill_inj {θ θ' : Int → List Nd} (hθ : ∀ x, One (θ x)) (hθ' : ∀ x, One (θ' x)) {t : List Nd} (hl : Leafy t) {S ys : List Sp} {n : Nat} (h : after t n = some (S, ys)) :
    ∀ i, i < n → ∀ s, ys[i]? = some s → fill θ (span t s.fr i) = fill θ' (span t s.fr i) → ∀ x ∈ metas (span t s.fr i), θ x = θ' x := by
  intro i
  induction i using Nat.strongRecOn with
  | ind i ih =>
    intro hi s hs e x hx
    have hle := after_le h
    have hit : i < t.length := by omega
    obtain ⟨K, hK, hsp, hO⟩ := span_kids h hi hs hit
    rw [hsp] at e hx
    by_cases h61 : t[i].kind = 61
    · have hz := hl t[i] (List.getElem_mem hit) h61
      obtain ⟨_, hn⟩ := hK.num
      have hK0 : K = [] := List.eq_nil_of_length_eq_zero (by omega)
      subst hK0
      have hf : ∀ θ, fill θ [t[i]] = θ t[i].num := fun θ => by simp [fill, fillN, h61]
      simp only [kidsIn, List.map_nil, List.flatten_nil, List.nil_append] at e hx
      rw [hf, hf] at e
      simp [metas, h61] at hx
      subst hx
      exact e
    · have hf : ∀ θ, fill θ [t[i]] = [t[i]] := fun θ => by simp [fill, fillN, h61]
      rw [fill_append, fill_append, hf, hf, fill_flatten, fill_flatten] at e
      have e1 := (List.append_inj' e rfl).1
      have hL : ∀ a ∈ kidsIn t K, Leafy a := by
        intro a ha
        obtain ⟨y, hy, rfl⟩ := List.mem_map.1 ha
        exact hl.sub _ _
      have e2 : (kidsIn t K).map (fill θ) = (kidsIn t K).map (fill θ') := ones_same (by
        intro y hy
        obtain ⟨a, ha, rfl⟩ := List.mem_map.1 hy
        exact fill_one hθ (hL a ha) (hO a ha)) (by
        intro y hy
        obtain ⟨a, ha, rfl⟩ := List.mem_map.1 hy
        exact fill_one hθ' (hL a ha) (hO a ha)) e1
      have hm : metas [t[i]] = [] := by simp [metas, h61]
      rw [metas_append, hm, List.append_nil, metas_flatten_mem] at hx
      obtain ⟨a, ha, hxa⟩ := hx
      have e3 : fill θ a = fill θ' a := List.map_inj_left.1 e2 a ha
      obtain ⟨y, hy, rfl⟩ := List.mem_map.1 ha
      obtain ⟨r, hr, rfl⟩ := List.getElem_of_mem hy
      have hmr := hK.mem r hr
      exact ih K[r].rt hmr.2.2 (by omega) K[r] hmr.1 e3 x hxa

/-- Rising, each once. -/
def Up (xs : List Int) : Prop := xs.Pairwise (· < ·)

theorem up_same {xs ys : List Int} (hx : Up xs) (hy : Up ys) (h : ∀ x, x ∈ xs ↔ x ∈ ys) : xs = ys := by
  induction xs generalizing ys with
  | nil =>
    cases ys with
    | nil => rfl
    | cons y ys => exact absurd ((h y).2 (by simp)) (by simp)
  | cons x xs ih =>
    cases ys with
    | nil => exact absurd ((h x).1 (by simp)) (by simp)
    | cons y ys =>
      unfold Up at hx hy
      rw [List.pairwise_cons] at hx hy
      have e : x = y := by
        have h1 := (h x).1 (by simp)
        have h2 := (h y).2 (by simp)
        rcases List.mem_cons.1 h1 with h1 | h1
        · exact h1
        · rcases List.mem_cons.1 h2 with h2 | h2
          · exact h2.symm
          · have := hx.1 y h2; have := hy.1 x h1; omega
      subst e
      rw [ih hx.2 hy.2 (fun z => ?_)]
      constructor
      · intro hz
        have h1 := (h z).1 (by simp [hz])
        rcases List.mem_cons.1 h1 with e | h1
        · have := hx.1 z hz; omega
        · exact h1
      · intro hz
        have h1 := (h z).2 (by simp [hz])
        rcases List.mem_cons.1 h1 with e | h1
        · have := hy.1 z hz; omega
        · exact h1

/-- What a term makes of what its unknowns are. -/
def EvF (σ : Nd → DT) (R : List Nd × DT → Prop) (x : List Nd × DT) : Prop :=
  (∃ (n : Nd), x = ([n], σ n) ∧ (n.kind = 61) ∧ (n.kids = 0)) ∨
  (∃ (n : Nd) (xss : List (List Nd)) (ds : List DT), x = (xss.flatten ++ [n], con n ds) ∧ (n.kind ≠ 61) ∧ (n.kids = (ds.length : Int)) ∧ (ds.length = xss.length) ∧ (∀ i (h1 : i < xss.length) (h2 : i < ds.length), R (xss[i], ds[i])))

structure Ev (σ : Nd → DT) (xs : List Nd) (d : DT) : Prop where
  of ::
  lfp : Lfp (EvF σ) (xs, d)

theorem Ev.grows (σ : Nd → DT) : Grows (EvF σ) := by
  rintro R R' x h0 (⟨n, e0, hk, h0⟩ | ⟨n, xss, ds, e0, hk, hn, hl, h⟩)
  · exact .inl ⟨n, e0, hk, h0⟩
  · exact .inr (⟨n, xss, ds, e0, hk, hn, hl, fun i h1 h2 => h0 _ (h i h1 h2)⟩)

theorem Ev.leaf {σ : Nd → DT} (n : Nd) (hk : n.kind = 61) (h0 : n.kids = 0) : Ev σ ([n]) (σ n) :=
  ⟨Lfp.fold (Ev.grows σ) (.inl ⟨n, rfl, hk, h0⟩)⟩

theorem Ev.node {σ : Nd → DT} (n : Nd) (hk : n.kind ≠ 61) (xss : List (List Nd)) (ds : List DT) (hn : n.kids = (ds.length : Int)) (hl : ds.length = xss.length) (h : ∀ i (h1 : i < xss.length) (h2 : i < ds.length), Ev σ (xss[i]) (ds[i])) : Ev σ (xss.flatten ++ [n]) (con n ds) :=
  ⟨Lfp.fold (Ev.grows σ) (.inr (⟨n, xss, ds, rfl, hk, hn, hl, fun i h1 h2 => (h i h1 h2).lfp⟩))⟩

theorem Ev.elim {σ : Nd → DT} {motive : ∀ xs d, Ev σ xs d → Prop}
    (leaf : ∀ (n : Nd) (hk : n.kind = 61) (h0 : n.kids = 0), motive ([n]) (σ n) (Ev.leaf n hk h0))
    (node : ∀ (n : Nd) (hk : n.kind ≠ 61) (xss : List (List Nd)) (ds : List DT) (hn : n.kids = (ds.length : Int)) (hl : ds.length = xss.length) (h : ∀ i (h1 : i < xss.length) (h2 : i < ds.length), Ev σ (xss[i]) (ds[i])), (∀ i (h1 : i < xss.length) (h2 : i < ds.length), motive (xss[i]) (ds[i]) (h i h1 h2)) → motive (xss.flatten ++ [n]) (con n ds) (Ev.node n hk xss ds hn hl h))
    {xs : List Nd} {d : DT} (h : Ev σ xs d) : motive xs d h := by
  have key : ∀ h, motive (xs, d).1 (xs, d).2 h := Lfp.ind (Ev.grows σ) (p := fun x => ∀ h, motive x.1 x.2 h) (by
    rintro x (⟨n, e0, hk, h0⟩ | ⟨n, xss, ds, e0, hk, hn, hl, h⟩) h9
    · subst e0; exact leaf n hk h0
    · subst e0; exact node n hk xss ds hn hl (fun i h1 h2 => ⟨(h i h1 h2).1⟩) (fun i h1 h2 => (h i h1 h2).2 _)) h.lfp
  exact key h

theorem Ev.inv {σ : Nd → DT} {motive : ∀ xs d, Ev σ xs d → Prop}
    (leaf : ∀ (n : Nd) (hk : n.kind = 61) (h0 : n.kids = 0), motive ([n]) (σ n) (Ev.leaf n hk h0))
    (node : ∀ (n : Nd) (hk : n.kind ≠ 61) (xss : List (List Nd)) (ds : List DT) (hn : n.kids = (ds.length : Int)) (hl : ds.length = xss.length) (h : ∀ i (h1 : i < xss.length) (h2 : i < ds.length), Ev σ (xss[i]) (ds[i])), motive (xss.flatten ++ [n]) (con n ds) (Ev.node n hk xss ds hn hl h))
    {xs : List Nd} {d : DT} (h : Ev σ xs d) : motive xs d h := by
  induction h using Ev.elim with
  | leaf n hk h0 => exact leaf n hk h0
  | node n hk xss ds hn hl h _ => exact node n hk xss ds hn hl h

/-- An unknown that stands for itself. -/
def selfT (n : Nd) : DT := con n []

theorem Ev.one {σ : Nd → DT} {xs : List Nd} {d : DT} (h : Ev σ xs d) : One xs := by
  induction h using Ev.elim with
  | leaf n hk h0 =>
    have := One.join (A := []) (n := n) (by simp) (by simpa using h0)
    simpa using this
  | node n hk xss ds hn hl h ih =>
    refine One.join (fun x hx => ?_) (by rw [hn, hl])
    obtain ⟨i, hi, rfl⟩ := List.getElem_of_mem hx
    exact ih i hi (by omega)

theorem Ev.last {σ : Nd → DT} {xs : List Nd} {d : DT} (h : Ev σ xs d) : (∃ n : Nd, xs = [n] ∧ (n.kind = 61 ∧ n.kids = 0) ∧ d = σ n) ∨ ∃ (n : Nd) (xss : List (List Nd)) (ds : List DT), n.kind ≠ 61 ∧ n.kids = (ds.length : Int) ∧ ds.length = xss.length ∧ (∀ i (h1 : i < xss.length) (h2 : i < ds.length), Ev σ xss[i] ds[i]) ∧ xs = xss.flatten ++ [n] ∧ d = con n ds := by
  cases h using Ev.inv with
  | leaf n hk h0 => exact .inl ⟨n, rfl, ⟨hk, h0⟩, rfl⟩
  | node n hk xss ds hn hl h => exact .inr ⟨n, xss, ds, hk, hn, hl, h, rfl, rfl⟩

theorem ev_ones {σ : Nd → DT} {xss : List (List Nd)} {ds : List DT} (hl : ds.length = xss.length) (h : ∀ i (h1 : i < xss.length) (h2 : i < ds.length), Ev σ xss[i] ds[i]) : ∀ x ∈ xss, One x := by
  intro x hx
  obtain ⟨i, hi, rfl⟩ := List.getElem_of_mem hx
  exact (h i hi (by omega)).one

/-- A term makes one thing. -/
theorem Ev.fun {σ : Nd → DT} {xs : List Nd} {d : DT} (h : Ev σ xs d) : ∀ {d' : DT}, Ev σ xs d' → d = d' := by
  induction h using Ev.elim with
  | leaf n hk h0 =>
    intro d' h'
    rcases h'.last with ⟨m, e, _, rfl⟩ | ⟨m, xss, ds, hm, _, _, _, e, rfl⟩
    · simp at e; subst e; rfl
    · have := (List.append_inj' (s₁ := []) e rfl).2
      simp at this
      subst this
      exact absurd hk hm
  | node n hk xss ds hn hl h ih =>
    intro d' h'
    rcases h'.last with ⟨m, e, ⟨hm, _⟩, rfl⟩ | ⟨m, yss, es, hm, hn', hl', h2, e, rfl⟩
    · have := (List.append_inj' (s₂ := []) e rfl).2
      simp at this
      subst this
      exact absurd hm hk
    · obtain ⟨e1, e2⟩ := List.append_inj' e rfl
      simp at e2
      subst e2
      have e3 := ones_same (ev_ones hl h) (ev_ones hl' h2) e1
      subst e3
      have : ds = es := by
        apply List.ext_getElem (by omega)
        intro i h3 h4
        exact ih i (by omega) h3 (h2 i (by omega) h4)
      rw [this]

theorem selfT_root {xs : List Nd} {d : DT} (h : Ev selfT xs d) : ∃ k, d [] = some k := by
  rcases h.last with ⟨n, _, _, rfl⟩ | ⟨n, _, ds, _, _, _, _, _, rfl⟩
  · exact ⟨n, rfl⟩
  · exact ⟨n, rfl⟩

theorem ev_roots {xss : List (List Nd)} {ds : List DT} (hl : ds.length = xss.length) (h : ∀ i (h1 : i < xss.length) (h2 : i < ds.length), Ev selfT xss[i] ds[i]) : ∀ d ∈ ds, ∃ k, d [] = some k := by
  intro d hd
  obtain ⟨i, hi, rfl⟩ := List.getElem_of_mem hd
  exact selfT_root (h i (by omega) hi)

/-- A type has one way of being written. -/
theorem Ev.self {xs : List Nd} {d : DT} (h : Ev selfT xs d) : ∀ {ys : List Nd}, Ev selfT ys d → xs = ys := by
  induction h using Ev.elim with
  | leaf n hk h0 =>
    intro ys h'
    rcases h'.last with ⟨m, rfl, _, e⟩ | ⟨m, yss, es, hm, _, _, h2, rfl, e⟩
    · rw [con_nd e]
    · have := con_nd e
      subst this
      exact absurd hk hm
  | node n hk xss ds hn hl h ih =>
    intro ys h'
    rcases h'.last with ⟨m, rfl, ⟨hm, _⟩, e⟩ | ⟨m, yss, es, hm, hn', hl', h2, rfl, e⟩
    · have := con_nd e
      subst this
      exact absurd hm hk
    · have hlE := con_len e (ev_roots hl h) (ev_roots hl' h2)
      have e1 := con_nd e
      subst e1
      have e2 := con_kids e hlE
      subst e2
      have : xss = yss := by
        apply List.ext_getElem (by omega)
        intro i h3 h4
        exact ih i h3 (by omega) (h2 i h4 (by omega))
      rw [this]

/-- A node's own way of being written, from its kids'. -/
theorem Ev.kids {n : Nd} {ds : List DT} {xs : List Nd} (h : Ev selfT xs (con n ds)) (hr : ∀ d ∈ ds, ∃ k, d [] = some k) : ∃ xss : List (List Nd), xss.length = ds.length ∧ (∀ i (h1 : i < xss.length) (h2 : i < ds.length), Ev selfT xss[i] ds[i]) ∧ xs = xss.flatten ++ [n] ∧ n.kids = (ds.length : Int) := by
  rcases h.last with ⟨m, rfl, ⟨hm, hm0⟩, e⟩ | ⟨m, yss, es, hm, hn', hl', h2, rfl, e⟩
  · have e1 := con_nd e
    subst e1
    have hl := con_len e hr (by simp)
    have : ds = [] := List.eq_nil_of_length_eq_zero (by simpa using hl)
    subst this
    exact ⟨[], rfl, by simp, by simp, by simpa using hm0⟩
  · have e1 := con_nd e
    subst e1
    have hl := con_len e hr (ev_roots hl' h2)
    have e2 := con_kids e hl
    subst e2
    exact ⟨yss, by omega, h2, rfl, hn'⟩

/-- From what a term makes, to what its unknowns are. -/
theorem Ev.back {σ : Nd → DT} {g : List Nd} {d : DT} (h : Ev σ g d) : ∀ {t : List Nd}, Ev selfT t d → (∀ n ∈ g, n.kind = 61 → ∃ xs, Ev selfT xs (σ n)) ∧ ∀ ρ : Int → List Nd, (∀ n ∈ g, n.kind = 61 → Ev selfT (ρ n.num) (σ n)) → fill ρ g = t := by
  induction h using Ev.elim with
  | leaf n hk h0 =>
    intro t ht
    refine ⟨fun m hm _ => ?_, fun ρ hρ => ?_⟩
    · simp at hm; subst hm; exact ⟨t, ht⟩
    · have h1 := hρ n (by simp) hk
      simp only [fill, fillN, List.flatMap_cons, List.flatMap_nil, hk, if_true, List.append_nil]
      exact h1.self ht
  | node n hk xss ds hn hl h ih =>
    intro t ht
    rcases ht.last with ⟨m, rfl, ⟨hm, _⟩, e⟩ | ⟨m, yss, es, hm, hn', hl', h2, rfl, e⟩
    · have := con_nd e
      subst this
      exact absurd hm hk
    · have e1 := con_nd e
      subst e1
      have hlE : ds.length = es.length := by omega
      have e2 := con_kids e hlE
      subst e2
      refine ⟨fun m hm hm61 => ?_, fun ρ hρ => ?_⟩
      · rcases List.mem_append.1 hm with hm | hm
        · obtain ⟨a, ha, hma⟩ := List.mem_flatten.1 hm
          obtain ⟨i, hi, rfl⟩ := List.getElem_of_mem ha
          exact (ih i hi (by omega) (h2 i (by omega) (by omega))).1 m hma hm61
        · simp at hm; subst hm; exact absurd hm61 hk
      · rw [fill_append, fill_flatten]
        have e3 : fill ρ [n] = [n] := by simp [fill, fillN, hk]
        rw [e3]
        congr 2
        apply List.ext_getElem (by simp; omega)
        intro i h3 h4
        simp only [List.getElem_map]
        have hi : i < xss.length := by simpa using h3
        refine (ih i hi (by omega) (h2 i h4 (by omega))).2 ρ (fun m hm hm61 => ?_)
        exact hρ m (List.mem_append_left _ (List.mem_flatten.2 ⟨_, List.getElem_mem hi, hm⟩)) hm61

/-- Every term makes something. -/
theorem ev_span (σ : Nd → DT) {t : List Nd} (hl : Leafy t) {S ys : List Sp} {n : Nat} (h : after t n = some (S, ys)) : ∀ i, i < n → ∀ s, ys[i]? = some s → ∃ d, Ev σ (span t s.fr i) d := by
  intro i
  induction i using Nat.strongRecOn with
  | ind i ih =>
    intro hi s hs
    have hle := after_le h
    have hit : i < t.length := by omega
    obtain ⟨K, hK, hsp, hO⟩ := span_kids h hi hs hit
    obtain ⟨_, hn⟩ := hK.num
    rw [hsp]
    by_cases h61 : t[i].kind = 61
    · have hz := hl t[i] (List.getElem_mem hit) h61
      have hK0 : K = [] := List.eq_nil_of_length_eq_zero (by omega)
      subst hK0
      exact ⟨_, by simpa [kidsIn] using Ev.leaf (σ := σ) t[i] h61 hz⟩
    · have hk : ∀ r, ∃ d, ∀ hr : r < K.length, Ev σ (span t K[r].fr K[r].rt) d := by
        intro r
        by_cases hr : r < K.length
        · have hm := hK.mem r hr
          obtain ⟨d, hd⟩ := ih K[r].rt hm.2.2 (by omega) K[r] hm.1
          exact ⟨d, fun _ => hd⟩
        · exact ⟨fun _ => none, fun h => absurd h hr⟩
      obtain ⟨F, hF⟩ := Classical.axiomOfChoice hk
      refine ⟨con t[i] ((List.range K.length).map F), Ev.node t[i] h61 (kidsIn t K) _ (by simpa using hn) (by simp [kidsIn]) (fun r h1 h2 => ?_)⟩
      have hr : r < K.length := by simpa using h2
      simp only [kidsIn, List.getElem_map, List.getElem_range]
      exact hF r hr

end Go.Proofs.YtahdmflbdmlfhaaGreatDoor

namespace Go.Proofs.YtahdmflbdmlfhaaGreatDoor

open Go.RowKit

theorem Ev.congr {σ σ' : Nd → DT} {t : List Nd} {d : DT} (h : Ev σ t d) (hσ : ∀ n ∈ t, n.kind = 61 → σ n = σ' n) : Ev σ' t d := by
  induction h using Ev.elim with
  | leaf n hk h0 =>
    rw [hσ n (by simp) hk]
    exact Ev.leaf n hk h0
  | node n hk xss ds hn hl h ih =>
    refine Ev.node n hk xss ds hn hl (fun i h1 h2 => ih i h1 h2 (fun m hm hm61 => hσ m (List.mem_append_left _ (List.mem_flatten.2 ⟨_, List.getElem_mem h1, hm⟩)) hm61))

/-- What the unknowns of a level are. -/
def sg (U : Int → Int → Option Nat) (lv : Int) (θ : Nat → DT) (n : Nd) : DT := match U lv n.num with
  | some b => θ b
  | none => selfT n

/-- A cell as it is made. -/
def FreshC (lv : Int) (c : CC) : Prop := c.td = none ∧ c.told = 0 ∧ c.sn = 0 ∧ (c.nd.kind = 61 → c.lv = lv)

/-- What some cells say, and the others by another word. -/
def mixG (dec : ∀ p : Prop, Decidable p) (X : Nat → Prop) (g g' : Nat → GC) (i : Nat) : GC := @ite _ (X i) (dec _) (g i) (g' i)

theorem mixG_in {X : Nat → Prop} {g g' : Nat → GC} {i : Nat} (h : X i) : mixG Classical.propDecidable X g g' i = g i := by
  unfold mixG
  rw [if_pos h]

theorem mixG_out {X : Nat → Prop} {g g' : Nat → GC} {i : Nat} (h : ¬ X i) : mixG Classical.propDecidable X g g' i = g' i := by
  unfold mixG
  rw [if_neg h]

theorem satC_congr {X : Nat → Prop} {g g' : Nat → GC} {l : Nat → Option Nat} {θ : Nat → DT} (h : ∀ i, X i → g i = g' i) (hs : SatC X g l θ) : SatC X g' l θ := by
  refine ⟨hs.1, fun i hi hl ho => ?_⟩
  rw [← h i hi] at ho ⊢
  exact hs.2 i hi hl ho

/-- A store has grown: nothing of the old one has changed, and whatever fitted the old one can be gone on with, with unknowns of the level as one likes. -/
structure Grow (lv : Int) (ok : (Int → DT) → Prop) (X : Nat → Prop) (f : Nat → CC) (lk : Nat → Option Nat) (K : (Option Addr × Nat × Nat) → List Nat) (U : Int → Int → Option Nat) (X' : Nat → Prop) (f' : Nat → CC) (lk' : Nat → Option Nat) (K' : (Option Addr × Nat × Nat) → List Nat) (U' : Int → Int → Option Nat) : Prop where
  sub : ∀ i, X i → X' i
  same : ∀ i, X i → gc K' f' i = gc K f i
  link : ∀ i, X i → lk' i = lk i
  keep : ∀ l x b, U l x = some b → U' l x = some b
  other : ∀ l x, l ≠ lv → U' l x = U l x
  inX : (∀ i j, lk i = some j → X i ∧ X j)
  on : ∀ θ, SatC X (gc K f) lk θ → ∀ ρ, ok ρ → ∃ θ', SatC X' (gc K' f') lk' θ' ∧ (∀ i, X i → θ' i = θ i) ∧ ∀ x b, U lv x = none → U' lv x = some b → θ' b = ρ x
  old : ∀ i, X i → f' i = f i
  new : ∀ i, X' i → ¬ X i → FreshC lv (f' i)
  leaf : ∀ x b, U lv x = none → U' lv x = some b → (f' b).nd.kind = 61 ∧ (f' b).nd.num = x ∧ ¬ X b
  onG : ∀ (g : Nat → GC) (l : Nat → Option Nat), (∀ i j, l i = some j → X i ∧ X j) → (∀ i, X i → ∀ k ∈ (g i).ks, X k) → ∀ θ, SatC X g l θ → ∀ ρ, ok ρ → ∃ θ', SatC X' (mixG Classical.propDecidable X g (gc K' f')) l θ' ∧ (∀ i, X i → θ' i = θ i) ∧ ∀ x b, U lv x = none → U' lv x = some b → θ' b = ρ x

theorem Grow.refl {lv : Int} {ok : (Int → DT) → Prop} {X : Nat → Prop} {f : Nat → CC} {lk : Nat → Option Nat} {K : (Option Addr × Nat × Nat) → List Nat} {U : Int → Int → Option Nat} (h : ∀ i j, lk i = some j → X i ∧ X j) : Grow lv ok X f lk K U X f lk K U :=
  ⟨fun _ h => h, fun _ _ => rfl, fun _ _ => rfl, fun _ _ _ h => h, fun _ _ _ => rfl, h, fun θ h ρ _ => ⟨θ, h, fun _ _ => rfl, fun x b h1 h2 => by rw [h1] at h2; cases h2⟩, fun _ _ => rfl, fun i h1 h2 => absurd h1 h2, (fun x b h1 h2 => by rw [h1] at h2; cases h2), fun g l _ _ θ hs ρ _ => ⟨θ, satC_congr (fun i hi => (mixG_in hi).symm) hs, fun _ _ => rfl, fun x b h1 h2 => by rw [h1] at h2; cases h2⟩⟩

theorem Grow.back {lv : Int} {ok : (Int → DT) → Prop} {X X' : Nat → Prop} {f f' : Nat → CC} {lk lk' : Nat → Option Nat} {K K' : (Option Addr × Nat × Nat) → List Nat} {U U' : Int → Int → Option Nat} (h : Grow lv ok X f lk K U X' f' lk' K' U') {θ : Nat → DT} (hs : SatC X' (gc K' f') lk' θ) : SatC X (gc K f) lk θ := by
  refine ⟨fun i j e => hs.1 i j (by rw [h.link i (h.inX i j e).1]; exact e), fun i hi hl ho => ?_⟩
  have h9 := hs.2 i (h.sub i hi) (by rw [h.link i hi]; exact hl) (by rw [h.same i hi]; exact ho)
  rw [h.same i hi] at h9
  exact h9

theorem Grow.trans {lv : Int} {ok : (Int → DT) → Prop} {X X1 X2 : Nat → Prop} {f f1 f2 : Nat → CC} {lk lk1 lk2 : Nat → Option Nat} {K K1 K2 : (Option Addr × Nat × Nat) → List Nat} {U U1 U2 : Int → Int → Option Nat} (h : Grow lv ok X f lk K U X1 f1 lk1 K1 U1) (h' : Grow lv ok X1 f1 lk1 K1 U1 X2 f2 lk2 K2 U2) (hU : ∀ l x b, U1 l x = some b → X1 b) (hself1 : ∀ i, X1 i → ∀ k ∈ (gc K1 f1 i).ks, X1 k) : Grow lv ok X f lk K U X2 f2 lk2 K2 U2 := by
  refine ⟨fun i hi => h'.sub i (h.sub i hi), fun i hi => (h'.same i (h.sub i hi)).trans (h.same i hi), fun i hi => (h'.link i (h.sub i hi)).trans (h.link i hi), fun l x b e => h'.keep l x b (h.keep l x b e), fun l x e => (h'.other l x e).trans (h.other l x e), h.inX, fun θ hs ρ hρ => ?_, fun i hi => (h'.old i (h.sub i hi)).trans (h.old i hi), fun i h1 h2 => ?_, fun x b e1 e2 => ?_, fun g l hl hg θ hs ρ hρ => ?_⟩
  · obtain ⟨θ1, s1, a1, b1⟩ := h.on θ hs ρ hρ
    obtain ⟨θ2, s2, a2, b2⟩ := h'.on θ1 s1 ρ hρ
    refine ⟨θ2, s2, fun i hi => (a2 i (h.sub i hi)).trans (a1 i hi), fun x b e1 e2 => ?_⟩
    cases e3 : U1 lv x with
    | none => exact b2 x b e3 e2
    | some c =>
      have := h'.keep lv x c e3
      rw [this] at e2
      cases e2
      rw [a2 b (hU lv x b e3)]
      exact b1 x b e1 e3
  · by_cases h3 : X1 i
    · rw [h'.old i h3]; exact h.new i h3 h2
    · exact h'.new i h1 h3
  · cases e3 : U1 lv x with
    | none =>
      obtain ⟨p1, p2, p3⟩ := h'.leaf x b e3 e2
      exact ⟨p1, p2, fun h9 => p3 (h.sub b h9)⟩
    | some c =>
      have := h'.keep lv x c e3
      rw [this] at e2
      cases e2
      rw [h'.old b (hU lv x b e3)]
      exact h.leaf x b e1 e3
  · obtain ⟨θ1, s1, a1, b1⟩ := h.onG g l hl hg θ hs ρ hρ
    obtain ⟨θ2, s2, a2, b2⟩ := h'.onG (mixG Classical.propDecidable X g (gc K1 f1)) l (fun i j e => ⟨h.sub i (hl i j e).1, h.sub j (hl i j e).2⟩) (fun i hi k hk => by
      by_cases hx : X i
      · rw [mixG_in hx] at hk; exact h.sub k (hg i hx k hk)
      · rw [mixG_out hx] at hk; exact hself1 i hi k hk) θ1 s1 ρ hρ
    refine ⟨θ2, satC_congr (fun i _ => ?_) s2, fun i hi => (a2 i (h.sub i hi)).trans (a1 i hi), fun x b e1 e2 => ?_⟩
    · by_cases hx1 : X1 i
      · rw [mixG_in hx1]
        by_cases hx : X i
        · rw [mixG_in hx, mixG_in hx]
        · rw [mixG_out hx, mixG_out hx, h'.same i hx1]
      · rw [mixG_out hx1, mixG_out (fun hx => hx1 (h.sub i hx))]
    · cases e3 : U1 lv x with
      | none => exact b2 x b e3 e2
      | some c =>
        have := h'.keep lv x c e3
        rw [this] at e2
        cases e2
        rw [a2 b (hU lv x b e3)]
        exact b1 x b e1 e3

/-- One cell more, whatever the old ones say. -/
theorem one_on {lv : Int} {ok : (Int → DT) → Prop} {X : Nat → Prop} {g g' : Nat → GC} {lk : Nat → Option Nat} {U U' : Int → Int → Option Nat} {b : Nat} (hb : ¬ X b) (hin : ∀ i j, lk i = some j → X i ∧ X j) (hsame : ∀ i, X i → g' i = g i)
    (hkid : ∀ k ∈ (g' b).ks, X k) (hself : ∀ i, X i → ∀ k ∈ (g i).ks, X k) (hval : ∀ ρ, ok ρ → ∃ v : DT, ∀ θ : Nat → DT, ((g' b).op = false → v = con (g' b).nd ((g' b).ks.map θ) ∨ (g' b).ks ≠ []) ∧ ∀ x c, U lv x = none → U' lv x = some c → c = b ∧ v = ρ x) (hnone : (g' b).ks ≠ [] → (∀ x c, U lv x = none → U' lv x = some c → False)) :
    ∀ θ, SatC X g lk θ → ∀ ρ, ok ρ → ∃ θ', SatC (fun i => X i ∨ i = b) g' lk θ' ∧ (∀ i, X i → θ' i = θ i) ∧ ∀ x c, U lv x = none → U' lv x = some c → θ' c = ρ x := by
  intro θ hs ρ hρ
  obtain ⟨v, hv⟩ := hval ρ hρ
  have hlkb : lk b = none := by
    cases e : lk b with
    | none => rfl
    | some j => exact absurd (hin b j e).1 hb
  by_cases hk : (g' b).ks = []
  · refine ⟨fun i => if i = b then v else θ i, ⟨fun i j e => ?_, fun i hi hl ho => ?_⟩, fun i hi => ?_, fun x c e1 e2 => ?_⟩
    · have n1 : i ≠ b := fun e9 => hb (e9 ▸ (hin i j e).1)
      have n2 : j ≠ b := fun e9 => hb (e9 ▸ (hin i j e).2)
      simp only [n1, n2, if_false]
      exact hs.1 i j e
    · by_cases hib : i = b
      · subst hib
        simp only [if_true]
        rcases (hv θ).1 ho with h9 | h9
        · rw [hk] at h9 ⊢
          exact h9
        · exact absurd hk h9
      · have hXi : X i := hi.resolve_right hib
        simp only [hib, if_false]
        rw [hsame i hXi] at ho ⊢
        rw [hs.2 i hXi hl ho]
        congr 1
        apply List.map_congr_left
        intro k hk'
        have : k ≠ b := fun e9 => hb (e9 ▸ hself i hXi k hk')
        simp only [this, if_false]
    · have : i ≠ b := fun e9 => hb (e9 ▸ hi)
      simp only [this, if_false]
    · obtain ⟨rfl, rfl⟩ := (hv θ).2 x c e1 e2
      simp only [if_true]
  · refine ⟨fun i => if i = b then con (g' b).nd ((g' b).ks.map θ) else θ i, ⟨fun i j e => ?_, fun i hi hl ho => ?_⟩, fun i hi => ?_, fun x c e1 e2 => (hnone hk x c e1 e2).elim⟩
    · have n1 : i ≠ b := fun e9 => hb (e9 ▸ (hin i j e).1)
      have n2 : j ≠ b := fun e9 => hb (e9 ▸ (hin i j e).2)
      simp only [n1, n2, if_false]
      exact hs.1 i j e
    · by_cases hib : i = b
      · subst hib
        simp only [if_true]
        congr 1
        apply List.map_congr_left
        intro k hk'
        have : k ≠ i := fun e9 => hb (e9 ▸ hkid k hk')
        simp only [this, if_false]
      · have hXi : X i := hi.resolve_right hib
        simp only [hib, if_false]
        rw [hsame i hXi] at ho ⊢
        rw [hs.2 i hXi hl ho]
        congr 1
        apply List.map_congr_left
        intro k hk'
        have : k ≠ b := fun e9 => hb (e9 ▸ hself i hXi k hk')
        simp only [this, if_false]
    · have : i ≠ b := fun e9 => hb (e9 ▸ hi)
      simp only [this, if_false]

/-- One cell more. -/
theorem grow_one {lv : Int} {ok : (Int → DT) → Prop} {X : Nat → Prop} {f f' : Nat → CC} {lk : Nat → Option Nat} {K K' : (Option Addr × Nat × Nat) → List Nat} {U U' : Int → Int → Option Nat} {b : Nat} (hb : ¬ X b) (hin : ∀ i j, lk i = some j → X i ∧ X j) (hsame : ∀ i, X i → gc K' f' i = gc K f i) (hkeep : ∀ l x c, U l x = some c → U' l x = some c) (hother : ∀ l x, l ≠ lv → U' l x = U l x)
    (hkid : ∀ k ∈ (gc K' f' b).ks, X k) (hself : ∀ i, X i → ∀ k ∈ (gc K f i).ks, X k) (hval : ∀ ρ, ok ρ → ∃ v : DT, ∀ θ : Nat → DT, ((gc K' f' b).op = false → v = con (gc K' f' b).nd ((gc K' f' b).ks.map θ) ∨ (gc K' f' b).ks ≠ []) ∧ ∀ x c, U lv x = none → U' lv x = some c → c = b ∧ v = ρ x) (hnone : (gc K' f' b).ks ≠ [] → (∀ x c, U lv x = none → U' lv x = some c → False))
    (hold : ∀ i, X i → f' i = f i) (hnew : FreshC lv (f' b)) (hleaf : ∀ x c, U lv x = none → U' lv x = some c → (f' c).nd.kind = 61 ∧ (f' c).nd.num = x ∧ ¬ X c) :
    Grow lv ok X f lk K U (fun i => X i ∨ i = b) f' lk K' U' := by
  refine ⟨fun i hi => .inl hi, hsame, fun _ _ => rfl, hkeep, hother, hin, one_on hb hin hsame hkid hself hval hnone, hold, fun i h1 h2 => by rw [h1.resolve_left h2]; exact hnew, hleaf, fun g l hl hg => ?_⟩
  have e9 : mixG Classical.propDecidable X g (gc K' f') b = gc K' f' b := mixG_out hb
  exact one_on (g' := mixG Classical.propDecidable X g (gc K' f')) hb hl (fun i hi => mixG_in hi) (by rw [e9]; exact hkid) hg (by rw [e9]; exact hval) (by rw [e9]; exact hnone)

/-- A node more. -/
theorem grow_node {lv : Int} {ok : (Int → DT) → Prop} {X : Nat → Prop} {f f' : Nat → CC} {lk : Nat → Option Nat} {K K' : (Option Addr × Nat × Nat) → List Nat} {U : Int → Int → Option Nat} {b : Nat} (hb : ¬ X b) (hin : ∀ i j, lk i = some j → X i ∧ X j) (hsame : ∀ i, X i → gc K' f' i = gc K f i) (hkid : ∀ k ∈ (gc K' f' b).ks, X k) (hself : ∀ i, X i → ∀ k ∈ (gc K f i).ks, X k) (hold : ∀ i, X i → f' i = f i) (hnew : FreshC lv (f' b)) :
    Grow lv ok X f lk K U (fun i => X i ∨ i = b) f' lk K' U :=
  grow_one hb hin hsame (fun _ _ _ h => h) (fun _ _ _ => rfl) hkid hself (fun ρ _ => ⟨con (gc K' f' b).nd [], fun θ => ⟨fun _ => by
    by_cases h : (gc K' f' b).ks = []
    · left; rw [h]; rfl
    · exact .inr h, fun x c e1 e2 => by rw [e1] at e2; cases e2⟩⟩) (fun _ x c e1 e2 => by rw [e1] at e2; cases e2) hold hnew (fun x c e1 e2 => by rw [e1] at e2; cases e2)

/-- An unknown more. -/
theorem grow_leaf {lv : Int} {ok : (Int → DT) → Prop} {X : Nat → Prop} {f f' : Nat → CC} {lk : Nat → Option Nat} {K K' : (Option Addr × Nat × Nat) → List Nat} {U U' : Int → Int → Option Nat} {b : Nat} {x : Int} (hb : ¬ X b) (hin : ∀ i j, lk i = some j → X i ∧ X j) (hsame : ∀ i, X i → gc K' f' i = gc K f i) (hself : ∀ i, X i → ∀ k ∈ (gc K f i).ks, X k)
    (hU : ∀ l y, U' l y = if l = lv ∧ y = x then some b else U l y) (hUx : U lv x = none) (hks : (gc K' f' b).ks = []) (hok : ∀ ρ, ok ρ → (gc K' f' b).op = false → ρ x = con (gc K' f' b).nd []) (hold : ∀ i, X i → f' i = f i) (hnew : FreshC lv (f' b)) (hnd : (f' b).nd.kind = 61 ∧ (f' b).nd.num = x) :
    Grow lv ok X f lk K U (fun i => X i ∨ i = b) f' lk K' U' := by
  refine grow_one hb hin hsame (fun l y c e => ?_) (fun l y hl => ?_) (by rw [hks]; simp) hself (fun ρ hρ => ⟨ρ x, fun θ => ⟨fun ho => .inl (by rw [hks]; exact hok ρ hρ ho), fun y c e1 e2 => ?_⟩⟩) (fun h => absurd hks h) hold hnew (fun y c e1 e2 => ?_)
  · rw [hU]
    by_cases h : l = lv ∧ y = x
    · obtain ⟨rfl, rfl⟩ := h
      rw [hUx] at e
      cases e
    · rw [if_neg h]; exact e
  · rw [hU, if_neg (fun h => hl h.1)]
  · rw [hU] at e2
    by_cases h : y = x
    · subst h
      rw [if_pos ⟨rfl, rfl⟩] at e2
      cases e2
      exact ⟨rfl, rfl⟩
    · rw [if_neg (fun h9 => h h9.2), e1] at e2
      cases e2
  · rw [hU] at e2
    by_cases h : y = x
    · subst h
      rw [if_pos ⟨rfl, rfl⟩] at e2
      cases e2
      exact ⟨hnd.1, hnd.2, hb⟩
    · rw [if_neg (fun h9 => h h9.2), e1] at e2
      cases e2

end Go.Proofs.YtahdmflbdmlfhaaGreatDoor
