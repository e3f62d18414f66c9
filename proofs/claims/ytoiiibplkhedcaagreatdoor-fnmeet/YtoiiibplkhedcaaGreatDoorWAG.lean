import Derived.Test.YtoiiibplkhedcaaGreatDoorWAF
namespace Go.Proofs.YtoiiibplkhedcaaGreatDoor
open Go.RowKit
theorem Ev.congr {σ σ' : Nd → DT} {t : List Nd} {d : DT} (h : Ev σ t d) (hσ : ∀ n ∈ t, n.kind = 61 → σ n = σ' n) : Ev σ' t d := by
  induction h using Ev.elim with
  | leaf n hk h0 =>
    rw [hσ n (by simp) hk]
    exact Ev.leaf n hk h0
  | node n hk xss ds hn hl h ih =>
    refine Ev.node n hk xss ds hn hl (fun i h1 h2 => ih i h1 h2 (fun m hm hm61 => hσ m (List.mem_append_left _ (List.mem_flatten.2 ⟨_, List.getElem_mem h1, hm⟩)) hm61))
def sg (U : Int → Int → Option Nat) (lv : Int) (θ : Nat → DT) (n : Nd) : DT := match U lv n.num with
  | some b => θ b
  | none => Qbh n
def Qsk (lv : Int) (c : CC) : Prop := c.td = none ∧ c.told = 0 ∧ c.sn = 0 ∧ (c.nd.kind = 61 → c.lv = lv)
def mixG (dec : ∀ p : Prop, Decidable p) (X : Nat → Prop) (g g' : Nat → GC) (i : Nat) : GC := @ite _ (X i) (dec _) (g i) (g' i)
theorem Qgq {X : Nat → Prop} {g g' : Nat → GC} {i : Nat} (h : X i) : mixG Classical.propDecidable X g g' i = g i := by
  unfold mixG
  rw [if_pos h]
theorem Qez {X : Nat → Prop} {g g' : Nat → GC} {i : Nat} (h : ¬ X i) : mixG Classical.propDecidable X g g' i = g' i := by
  unfold mixG
  rw [if_neg h]
theorem Qhv {X : Nat → Prop} {g g' : Nat → GC} {l : Nat → Option Nat} {θ : Nat → DT} (h : ∀ i, X i → g i = g' i) (hs : SatC X g l θ) : SatC X g' l θ := by
  refine ⟨hs.1, fun i hi hl ho => ?_⟩
  rw [← h i hi] at ho ⊢
  exact hs.2 i hi hl ho
structure Grow (lv : Int) (ok : (Int → DT) → Prop) (X : Nat → Prop) (f : Nat → CC) (lk : Nat → Option Nat) (K : (Option Addr × Nat × Nat) → List Nat) (U : Int → Int → Option Nat) (X' : Nat → Prop) (f' : Nat → CC) (lk' : Nat → Option Nat) (K' : (Option Addr × Nat × Nat) → List Nat) (U' : Int → Int → Option Nat) : Prop where
  sub : ∀ i, X i → X' i
  same : ∀ i, X i → gc K' f' i = gc K f i
  link : ∀ i, X i → lk' i = lk i
  keep : ∀ l x b, U l x = some b → U' l x = some b
  other : ∀ l x, l ≠ lv → U' l x = U l x
  inX : (∀ i j, lk i = some j → X i ∧ X j)
  on : ∀ θ, SatC X (gc K f) lk θ → ∀ ρ, ok ρ → ∃ θ', SatC X' (gc K' f') lk' θ' ∧ (∀ i, X i → θ' i = θ i) ∧ ∀ x b, U lv x = none → U' lv x = some b → θ' b = ρ x
  old : ∀ i, X i → f' i = f i
  new : ∀ i, X' i → ¬ X i → Qsk lv (f' i)
  leaf : ∀ x b, U lv x = none → U' lv x = some b → (f' b).nd.kind = 61 ∧ (f' b).nd.num = x ∧ ¬ X b
  onG : ∀ (g : Nat → GC) (l : Nat → Option Nat), (∀ i j, l i = some j → X i ∧ X j) → (∀ i, X i → ∀ k ∈ (g i).ks, X k) → ∀ θ, SatC X g l θ → ∀ ρ, ok ρ → ∃ θ', SatC X' (mixG Classical.propDecidable X g (gc K' f')) l θ' ∧ (∀ i, X i → θ' i = θ i) ∧ ∀ x b, U lv x = none → U' lv x = some b → θ' b = ρ x
theorem Grow.refl {lv : Int} {ok : (Int → DT) → Prop} {X : Nat → Prop} {f : Nat → CC} {lk : Nat → Option Nat} {K : (Option Addr × Nat × Nat) → List Nat} {U : Int → Int → Option Nat} (h : ∀ i j, lk i = some j → X i ∧ X j) : Grow lv ok X f lk K U X f lk K U :=
  ⟨fun _ h => h, fun _ _ => rfl, fun _ _ => rfl, fun _ _ _ h => h, fun _ _ _ => rfl, h, fun θ h ρ _ => ⟨θ, h, fun _ _ => rfl, fun x b h1 h2 => by rw [h1] at h2; cases h2⟩, fun _ _ => rfl, fun i h1 h2 => absurd h1 h2, (fun x b h1 h2 => by rw [h1] at h2; cases h2), fun g l _ _ θ hs ρ _ => ⟨θ, Qhv (fun i hi => (Qgq hi).symm) hs, fun _ _ => rfl, fun x b h1 h2 => by rw [h1] at h2; cases h2⟩⟩
theorem Grow.back {lv : Int} {ok : (Int → DT) → Prop} {X X' : Nat → Prop} {f f' : Nat → CC} {lk lk' : Nat → Option Nat} {K K' : (Option Addr × Nat × Nat) → List Nat} {U U' : Int → Int → Option Nat} (h : Grow lv ok X f lk K U X' f' lk' K' U') {θ : Nat → DT} (hs : SatC X' (gc K' f') lk' θ) : SatC X (gc K f) lk θ := by
  refine ⟨fun i j e => hs.1 i j (by rw [h.link i (h.inX i j e).1]; exact e), fun i hi hl ho => ?_⟩
  have h9 := hs.2 i (h.sub i hi) (by rw [h.link i hi]; exact hl) (by rw [h.same i hi]; exact ho)
  rw [h.same i hi] at h9
  exact h9
theorem Grow.trans {lv : Int} {ok : (Int → DT) → Prop} {X X1 X2 : Nat → Prop} {f f1 f2 : Nat → CC} {lk lk1 lk2 : Nat → Option Nat} {K K1 K2 : (Option Addr × Nat × Nat) → List Nat} {U U1 U2 : Int → Int → Option Nat} (h : Grow lv ok X f lk K U X1 f1 lk1 K1 U1) (h' : Grow lv ok X1 f1 lk1 K1 U1 X2 f2 lk2 K2 U2) (hU : ∀ l x b, U1 l x = some b → X1 b) (hself1 : ∀ i, X1 i → ∀ k ∈ (gc K1 f1 i).ks, X1 k) : Grow lv ok X f lk K U X2 f2 lk2 K2 U2 := by
  refine ⟨fun i hi => h'.sub i (h.sub i hi), fun i hi => (h'.same i (h.sub i hi)).trans (h.same i hi), fun i hi => (h'.link i (h.sub i hi)).trans (h.link i hi), fun l x b e => h'.keep l x b (h.keep l x b e), fun l x e => (h'.other l x e).trans (h.other l x e), h.inX, fun θ hs ρ hρ => ?_, fun i hi => (h'.old i (h.sub i hi)).trans (h.old i hi), fun i h1 h2 => ?_, fun x b e1 e2 => ?_, fun g l hl hg θ hs ρ hρ => ?_⟩
  · obtain ⟨θ1, s1, a1, b1⟩ := h.on θ hs ρ hρ
    obtain ⟨θ2, s2, a2, b2⟩ := h'.on θ1 s1 ρ hρ
    refine ⟨θ2, s2, fun i hi => (a2 i (h.sub i hi)).trans (a1 i hi), fun x b e1 e2 => ?_⟩
    cases e3 : U1 lv x with
    | none => exact b2 x b e3 e2
    | some c =>
      have := h'.keep lv x c e3
      rw [this] at e2
      cases e2
      rw [a2 b (hU lv x b e3)]
      exact b1 x b e1 e3
  · by_cases h3 : X1 i
    · rw [h'.old i h3]; exact h.new i h3 h2
    · exact h'.new i h1 h3
  · cases e3 : U1 lv x with
    | none =>
      obtain ⟨p1, p2, p3⟩ := h'.leaf x b e3 e2
      exact ⟨p1, p2, fun h9 => p3 (h.sub b h9)⟩
    | some c =>
      have := h'.keep lv x c e3
      rw [this] at e2
      cases e2
      rw [h'.old b (hU lv x b e3)]
      exact h.leaf x b e1 e3
  · obtain ⟨θ1, s1, a1, b1⟩ := h.onG g l hl hg θ hs ρ hρ
    obtain ⟨θ2, s2, a2, b2⟩ := h'.onG (mixG Classical.propDecidable X g (gc K1 f1)) l (fun i j e => ⟨h.sub i (hl i j e).1, h.sub j (hl i j e).2⟩) (fun i hi k hk => by
      by_cases hx : X i
      · rw [Qgq hx] at hk; exact h.sub k (hg i hx k hk)
      · rw [Qez hx] at hk; exact hself1 i hi k hk) θ1 s1 ρ hρ
    refine ⟨θ2, Qhv (fun i _ => ?_) s2, fun i hi => (a2 i (h.sub i hi)).trans (a1 i hi), fun x b e1 e2 => ?_⟩
    · by_cases hx1 : X1 i
      · rw [Qgq hx1]
        by_cases hx : X i
        · rw [Qgq hx, Qgq hx]
        · rw [Qez hx, Qez hx, h'.same i hx1]
      · rw [Qez hx1, Qez (fun hx => hx1 (h.sub i hx))]
    · cases e3 : U1 lv x with
      | none => exact b2 x b e3 e2
      | some c =>
        have := h'.keep lv x c e3
        rw [this] at e2
        cases e2
        rw [a2 b (hU lv x b e3)]
        exact b1 x b e1 e3
theorem Jbd {lv : Int} {ok : (Int → DT) → Prop} {X : Nat → Prop} {g g' : Nat → GC} {lk : Nat → Option Nat} {U U' : Int → Int → Option Nat} {b : Nat} (hb : ¬ X b) (hin : ∀ i j, lk i = some j → X i ∧ X j) (hsame : ∀ i, X i → g' i = g i)
    (hkid : ∀ k ∈ (g' b).ks, X k) (hself : ∀ i, X i → ∀ k ∈ (g i).ks, X k) (hval : ∀ ρ, ok ρ → ∃ v : DT, ∀ θ : Nat → DT, ((g' b).op = false → v = con (g' b).nd ((g' b).ks.map θ) ∨ (g' b).ks ≠ []) ∧ ∀ x c, U lv x = none → U' lv x = some c → c = b ∧ v = ρ x) (hnone : (g' b).ks ≠ [] → (∀ x c, U lv x = none → U' lv x = some c → False)) :
    ∀ θ, SatC X g lk θ → ∀ ρ, ok ρ → ∃ θ', SatC (fun i => X i ∨ i = b) g' lk θ' ∧ (∀ i, X i → θ' i = θ i) ∧ ∀ x c, U lv x = none → U' lv x = some c → θ' c = ρ x := by
  intro θ hs ρ hρ
  obtain ⟨v, hv⟩ := hval ρ hρ
  have hlkb : lk b = none := by
    cases e : lk b with
    | none => rfl
    | some j => exact absurd (hin b j e).1 hb
  by_cases hk : (g' b).ks = []
  · refine ⟨fun i => if i = b then v else θ i, ⟨fun i j e => ?_, fun i hi hl ho => ?_⟩, fun i hi => ?_, fun x c e1 e2 => ?_⟩
    · have n1 : i ≠ b := fun e9 => hb (e9 ▸ (hin i j e).1)
      have n2 : j ≠ b := fun e9 => hb (e9 ▸ (hin i j e).2)
      simp only [n1, n2, if_false]
      exact hs.1 i j e
    · by_cases hib : i = b
      · subst hib
        simp only [if_true]
        rcases (hv θ).1 ho with h9 | h9
        · rw [hk] at h9 ⊢
          exact h9
        · exact absurd hk h9
      · have hXi : X i := hi.resolve_right hib
        simp only [hib, if_false]
        rw [hsame i hXi] at ho ⊢
        rw [hs.2 i hXi hl ho]
        congr 1
        apply List.map_congr_left
        intro k hk'
        have : k ≠ b := fun e9 => hb (e9 ▸ hself i hXi k hk')
        simp only [this, if_false]
    · have : i ≠ b := fun e9 => hb (e9 ▸ hi)
      simp only [this, if_false]
    · obtain ⟨rfl, rfl⟩ := (hv θ).2 x c e1 e2
      simp only [if_true]
  · refine ⟨fun i => if i = b then con (g' b).nd ((g' b).ks.map θ) else θ i, ⟨fun i j e => ?_, fun i hi hl ho => ?_⟩, fun i hi => ?_, fun x c e1 e2 => (hnone hk x c e1 e2).elim⟩
    · have n1 : i ≠ b := fun e9 => hb (e9 ▸ (hin i j e).1)
      have n2 : j ≠ b := fun e9 => hb (e9 ▸ (hin i j e).2)
      simp only [n1, n2, if_false]
      exact hs.1 i j e
    · by_cases hib : i = b
      · subst hib
        simp only [if_true]
        congr 1
        apply List.map_congr_left
        intro k hk'
        have : k ≠ i := fun e9 => hb (e9 ▸ hkid k hk')
        simp only [this, if_false]
      · have hXi : X i := hi.resolve_right hib
        simp only [hib, if_false]
        rw [hsame i hXi] at ho ⊢
        rw [hs.2 i hXi hl ho]
        congr 1
        apply List.map_congr_left
        intro k hk'
        have : k ≠ b := fun e9 => hb (e9 ▸ hself i hXi k hk')
        simp only [this, if_false]
    · have : i ≠ b := fun e9 => hb (e9 ▸ hi)
      simp only [this, if_false]
theorem Qsh {lv : Int} {ok : (Int → DT) → Prop} {X : Nat → Prop} {f f' : Nat → CC} {lk : Nat → Option Nat} {K K' : (Option Addr × Nat × Nat) → List Nat} {U U' : Int → Int → Option Nat} {b : Nat} (hb : ¬ X b) (hin : ∀ i j, lk i = some j → X i ∧ X j) (hsame : ∀ i, X i → gc K' f' i = gc K f i) (hkeep : ∀ l x c, U l x = some c → U' l x = some c) (hother : ∀ l x, l ≠ lv → U' l x = U l x)
    (hkid : ∀ k ∈ (gc K' f' b).ks, X k) (hself : ∀ i, X i → ∀ k ∈ (gc K f i).ks, X k) (hval : ∀ ρ, ok ρ → ∃ v : DT, ∀ θ : Nat → DT, ((gc K' f' b).op = false → v = con (gc K' f' b).nd ((gc K' f' b).ks.map θ) ∨ (gc K' f' b).ks ≠ []) ∧ ∀ x c, U lv x = none → U' lv x = some c → c = b ∧ v = ρ x) (hnone : (gc K' f' b).ks ≠ [] → (∀ x c, U lv x = none → U' lv x = some c → False))
    (hold : ∀ i, X i → f' i = f i) (hnew : Qsk lv (f' b)) (hleaf : ∀ x c, U lv x = none → U' lv x = some c → (f' c).nd.kind = 61 ∧ (f' c).nd.num = x ∧ ¬ X c) :
    Grow lv ok X f lk K U (fun i => X i ∨ i = b) f' lk K' U' := by
  refine ⟨fun i hi => .inl hi, hsame, fun _ _ => rfl, hkeep, hother, hin, Jbd hb hin hsame hkid hself hval hnone, hold, fun i h1 h2 => by rw [h1.resolve_left h2]; exact hnew, hleaf, fun g l hl hg => ?_⟩
  have e9 : mixG Classical.propDecidable X g (gc K' f') b = gc K' f' b := Qez hb
  exact Jbd (g' := mixG Classical.propDecidable X g (gc K' f')) hb hl (fun i hi => Qgq hi) (by rw [e9]; exact hkid) hg (by rw [e9]; exact hval) (by rw [e9]; exact hnone)
theorem Qxe {lv : Int} {ok : (Int → DT) → Prop} {X : Nat → Prop} {f f' : Nat → CC} {lk : Nat → Option Nat} {K K' : (Option Addr × Nat × Nat) → List Nat} {U : Int → Int → Option Nat} {b : Nat} (hb : ¬ X b) (hin : ∀ i j, lk i = some j → X i ∧ X j) (hsame : ∀ i, X i → gc K' f' i = gc K f i) (hkid : ∀ k ∈ (gc K' f' b).ks, X k) (hself : ∀ i, X i → ∀ k ∈ (gc K f i).ks, X k) (hold : ∀ i, X i → f' i = f i) (hnew : Qsk lv (f' b)) :
    Grow lv ok X f lk K U (fun i => X i ∨ i = b) f' lk K' U :=
  Qsh hb hin hsame (fun _ _ _ h => h) (fun _ _ _ => rfl) hkid hself (fun ρ _ => ⟨con (gc K' f' b).nd [], fun θ => ⟨fun _ => by
    by_cases h : (gc K' f' b).ks = []
    · left; rw [h]; rfl
    · exact .inr h, fun x c e1 e2 => by rw [e1] at e2; cases e2⟩⟩) (fun _ x c e1 e2 => by rw [e1] at e2; cases e2) hold hnew (fun x c e1 e2 => by rw [e1] at e2; cases e2)
theorem Qxf {lv : Int} {ok : (Int → DT) → Prop} {X : Nat → Prop} {f f' : Nat → CC} {lk : Nat → Option Nat} {K K' : (Option Addr × Nat × Nat) → List Nat} {U U' : Int → Int → Option Nat} {b : Nat} {x : Int} (hb : ¬ X b) (hin : ∀ i j, lk i = some j → X i ∧ X j) (hsame : ∀ i, X i → gc K' f' i = gc K f i) (hself : ∀ i, X i → ∀ k ∈ (gc K f i).ks, X k)
    (hU : ∀ l y, U' l y = if l = lv ∧ y = x then some b else U l y) (hUx : U lv x = none) (hks : (gc K' f' b).ks = []) (hok : ∀ ρ, ok ρ → (gc K' f' b).op = false → ρ x = con (gc K' f' b).nd []) (hold : ∀ i, X i → f' i = f i) (hnew : Qsk lv (f' b)) (hnd : (f' b).nd.kind = 61 ∧ (f' b).nd.num = x) :
    Grow lv ok X f lk K U (fun i => X i ∨ i = b) f' lk K' U' := by
  refine Qsh hb hin hsame (fun l y c e => ?_) (fun l y hl => ?_) (by rw [hks]; simp) hself (fun ρ hρ => ⟨ρ x, fun θ => ⟨fun ho => .inl (by rw [hks]; exact hok ρ hρ ho), fun y c e1 e2 => ?_⟩⟩) (fun h => absurd hks h) hold hnew (fun y c e1 e2 => ?_)
  · rw [hU]
    by_cases h : l = lv ∧ y = x
    · obtain ⟨rfl, rfl⟩ := h
      rw [hUx] at e
      cases e
    · rw [if_neg h]; exact e
  · rw [hU, if_neg (fun h => hl h.1)]
  · rw [hU] at e2
    by_cases h : y = x
    · subst h
      rw [if_pos ⟨rfl, rfl⟩] at e2
      cases e2
      exact ⟨rfl, rfl⟩
    · rw [if_neg (fun h9 => h h9.2), e1] at e2
      cases e2
  · rw [hU] at e2
    by_cases h : y = x
    · subst h
      rw [if_pos ⟨rfl, rfl⟩] at e2
      cases e2
      exact ⟨hnd.1, hnd.2, hb⟩
    · rw [if_neg (fun h9 => h h9.2), e1] at e2
      cases e2
end Go.Proofs.YtoiiibplkhedcaaGreatDoor
namespace Go.Proofs.YtoiiibplkhedcaaGreatDoor
open Go.RowKit
/-! A store that has grown was, at every time, what it was, and what is new. -/
section
variable {lv : Int} {ok : (Int → DT) → Prop} {X X' : Nat → Prop} {f f' : Nat → CC} {lk : Nat → Option Nat} {K K' : (Option Addr × Nat × Nat) → List Nat} {U U' : Int → Int → Option Nat} {now : Int}
theorem Grow.tdAt (h : Grow lv ok X f lk K U X' f' lk K' U') (t : Int) : tdAt Classical.propDecidable X' f' t = tdAt Classical.propDecidable X f t := by
  funext i
  by_cases hx : X i
  · have e := h.old i hx
    cases e2 : Go.Proofs.YtoiiibplkhedcaaGreatDoor.tdAt Classical.propDecidable X f t i with
    | none =>
      rw [tdAt_none] at e2 ⊢
      intro _ h2
      rw [e] at h2 ⊢
      exact e2 hx h2
    | some j =>
      rw [tdAt_some] at e2 ⊢
      rw [e]
      exact ⟨h.sub i hx, e2.2⟩
  · have e2 : Go.Proofs.YtoiiibplkhedcaaGreatDoor.tdAt Classical.propDecidable X f t i = none := tdAt_none.2 (fun h9 => absurd h9 hx)
    rw [e2, tdAt_none]
    intro h1 _
    exact (h.new i h1 hx).1
theorem Grow.gcAt_old (h : Grow lv ok X f lk K U X' f' lk K' U') (t : Int) {i : Nat} (hi : X i) : gcAt K' f' t i = gcAt K f t i := by
  have e := h.old i hi
  have e2 := congrArg GC.ks (h.same i hi)
  simp only [gc, e] at e2
  simp only [gcAt, e, e2]
theorem Grow.gcAt_new (h : Grow lv ok X f lk K U X' f' lk K' U') {t : Int} (ht : 0 ≤ t) {i : Nat} (hi : X' i) (hn : ¬ X i) : gcAt K' f' t i = gc K' f' i := by
  have e := (h.new i hi hn).2.1
  unfold gcAt gc
  rw [e, decide_eq_false (by omega), Bool.false_or]
theorem Grow.backAt (h : Grow lv ok X f lk K U X' f' lk K' U') {t : Int} {θ : Nat → DT} (hs : SatC X' (gcAt K' f' t) (Go.Proofs.YtoiiibplkhedcaaGreatDoor.tdAt Classical.propDecidable X' f' t) θ) : SatC X (gcAt K f t) (Go.Proofs.YtoiiibplkhedcaaGreatDoor.tdAt Classical.propDecidable X f t) θ := by
  rw [h.tdAt t] at hs
  refine ⟨hs.1, fun i hi hl ho => ?_⟩
  have h9 := hs.2 i (h.sub i hi) hl (by rw [h.gcAt_old t hi]; exact ho)
  rw [h.gcAt_old t hi] at h9
  exact h9
theorem Grow.onAt (h : Grow lv ok X f lk K U X' f' lk K' U') {t : Int} (ht : 0 ≤ t) (hX : ∀ b j, X b → (f b).td = some j → X j) (hself : ∀ i, X i → ∀ k ∈ K (f i).ks, X k) {θ : Nat → DT} (hs : SatC X (gcAt K f t) (Go.Proofs.YtoiiibplkhedcaaGreatDoor.tdAt Classical.propDecidable X f t) θ) (ρ : Int → DT) (hρ : ok ρ) : ∃ θ', SatC X' (gcAt K' f' t) (Go.Proofs.YtoiiibplkhedcaaGreatDoor.tdAt Classical.propDecidable X' f' t) θ' ∧ (∀ i, X i → θ' i = θ i) ∧ ∀ x b, U lv x = none → U' lv x = some b → θ' b = ρ x := by
  obtain ⟨θ', s1, s2, s3⟩ := h.onG (gcAt K f t) (Go.Proofs.YtoiiibplkhedcaaGreatDoor.tdAt Classical.propDecidable X f t) (fun i j e => by rw [tdAt_some] at e; exact ⟨e.1, hX i j e.1 e.2.2⟩) hself θ hs ρ hρ
  refine ⟨θ', ?_, s2, s3⟩
  rw [h.tdAt t]
  refine Qhv (fun i hi => ?_) s1
  by_cases hx : X i
  · rw [Qgq hx, h.gcAt_old t hx]
  · rw [Qez hx, h.gcAt_new ht hi hx]
theorem Grow.hist (h : Grow 1 ok X f lk K U X' f' lk K' U') (H : Hist X f lk now) : Hist X' f' lk now := by
  have e := h.tdAt now
  refine ⟨H.now0, by rw [e]; exact H.hd, by rw [e]; exact H.acyc, fun b j hb hj => ?_, fun b j hb hj => ?_, fun b hb => ?_, fun b hb hk => ?_⟩
  all_goals by_cases hx : X b
  · rw [h.old b hx] at hj; exact h.sub j (H.inX b j hx hj)
  · rw [(h.new b hb hx).1] at hj; cases hj
  · rw [h.old b hx] at hj ⊢; exact H.si b j hx hj
  · rw [(h.new b hb hx).1] at hj; cases hj
  · rw [h.old b hx]; exact H.told b hx
  · rw [(h.new b hb hx).2.1]; exact ⟨Int.le_refl _, H.now0⟩
  · rw [h.old b hx] at hk ⊢; exact H.open' b hx hk
  · exact (h.new b hb hx).2.2.2 hk
theorem Hist.later (H : Hist X f lk now) {now' : Int} (hn : now ≤ now') : Hist X f lk now' := by
  have e : Go.Proofs.YtoiiibplkhedcaaGreatDoor.tdAt Classical.propDecidable X f now' = Go.Proofs.YtoiiibplkhedcaaGreatDoor.tdAt Classical.propDecidable X f now := by
    funext i
    cases e2 : Go.Proofs.YtoiiibplkhedcaaGreatDoor.tdAt Classical.propDecidable X f now i with
    | none =>
      rw [tdAt_none] at e2 ⊢
      intro h1 _
      cases e3 : (f i).td with
      | none => rfl
      | some j =>
        have h9 := e2 h1 (H.si i j h1 e3)
        rw [e3] at h9
        cases h9
    | some j =>
      rw [tdAt_some] at e2 ⊢
      exact ⟨e2.1, by omega, e2.2.2⟩
  exact ⟨by have := H.now0; omega, by rw [e]; exact H.hd, by rw [e]; exact H.acyc, H.inX, fun b j hb hj => by have := H.si b j hb hj; omega, fun b hb => by have := H.told b hb; omega, H.open'⟩
theorem Jbh (hin : ∀ i j, lk i = some j → X i ∧ X j) {i r : Nat} (hr : Hd lk i r) (hi : X i) : X r := by
  induction hr using Hd.elim with
  | root _ => exact hi
  | step h1 _ ih => exact ih (hin _ _ h1).2
theorem Grow.num (h : Grow 1 ok X f lk K U X' f' lk K' U') (hU : NumOk X (U 1) f lk) (hUX : ∀ x b, U 1 x = some b → X b) (hU' : ∀ i, X' i → ¬ X i → (f' i).nd.kind = 61 → U' 1 (f' i).nd.num = some i) : NumOk X' (U' 1) f' lk := by
  have hlX : ∀ i, ¬ X i → lk i = none := by
    intro i hx
    cases e : lk i with
    | none => rfl
    | some j => exact absurd (h.inX i j e).1 hx
  refine ⟨fun x b r hu hr ho => ?_, fun r hX hl ho => ?_⟩
  · cases e : U 1 x with
    | some c =>
      have h1 := h.keep 1 x c e
      rw [h1] at hu
      cases hu
      have hXr : X r := Jbh h.inX hr (hUX x b e)
      rw [h.old r hXr] at ho ⊢
      exact hU.low x b r e hr ho
    | none =>
      obtain ⟨p1, p2, p3⟩ := h.leaf x b e hu
      have hrb : r = b := hr.fun (.root (hlX b p3))
      subst hrb
      omega
  · by_cases hx : X r
    · rw [h.old r hx] at ho ⊢
      obtain ⟨c, c1, c2⟩ := hU.has r hx hl ho
      exact ⟨c, h.keep 1 _ c c1, c2⟩
    · have hk : (f' r).nd.kind = 61 := by
        unfold CC.open? at ho
        simp only [Bool.and_eq_true, beq_iff_eq] at ho
        exact ho.1
      exact ⟨r, hU' r hX hx hk, .root (hlX r hx)⟩
end
end Go.Proofs.YtoiiibplkhedcaaGreatDoor
namespace Go.Proofs.YtoiiibplkhedcaaGreatDoor
open Go.RowKit
/-! What a store says of the pairs that it has taken in, at every time. -/
def Holds (σ : Nd → DT) (p : List Nd × List Nd) : Prop := ∃ d, Ev σ p.1 d ∧ Ev σ p.2 d
theorem Holds.congr {σ σ' : Nd → DT} {p : List Nd × List Nd} (h : Holds σ p) (hσ : ∀ n, n ∈ p.1 ∨ n ∈ p.2 → n.kind = 61 → σ n = σ' n) : Holds σ' p := by
  obtain ⟨d, h1, h2⟩ := h
  exact ⟨d, h1.congr fun n hn hk => hσ n (.inl hn) hk, h2.congr fun n hn hk => hσ n (.inr hn) hk⟩
section
variable {ps : List (List Nd × List Nd)} {k : Nat} {ok : (Int → DT) → Prop} {X X' : Nat → Prop} {f f' : Nat → CC} {lk lk' : Nat → Option Nat} {K K' : (Option Addr × Nat × Nat) → List Nat} {U U' : Int → Int → Option Nat}
structure TimeM (ps : List (List Nd × List Nd)) (k : Nat) (X : Nat → Prop) (f : Nat → CC) (K : (Option Addr × Nat × Nat) → List Nat) (U : Int → Int → Option Nat) : Prop where
  known : ∀ i (h : i < ps.length), i < k → ∀ n, n ∈ ps[i].1 ∨ n ∈ ps[i].2 → n.kind = 61 → ∃ b, U 1 n.num = some b
  inX : ∀ x b, U 1 x = some b → X b
  sound : ∀ t : Nat, t < k → ∀ θ, SatC X (gcAt K f t) (tdAt Classical.propDecidable X f t) θ → ∀ i (h : i < ps.length), i ≤ t → Holds (sg U 1 θ) ps[i]
  full : ∀ t : Nat, t < k → ∀ ρ : Int → DT, (∀ i (h : i < ps.length), i ≤ t → Holds (fun n => ρ n.num) ps[i]) → ∃ θ, SatC X (gcAt K f t) (tdAt Classical.propDecidable X f t) θ ∧ ∀ x b, U 1 x = some b → θ b = ρ x
structure LoopM (ps : List (List Nd × List Nd)) (k : Nat) (X : Nat → Prop) (f : Nat → CC) (lk : Nat → Option Nat) (K : (Option Addr × Nat × Nat) → List Nat) (U : Int → Int → Option Nat) : Prop where
  times : TimeM ps k X f K U
  csound : ∀ θ, SatC X (gc K f) lk θ → ∀ i (h : i < ps.length), i < k → Holds (sg U 1 θ) ps[i]
  cur : ∀ ρ : Int → DT, (∀ i (h : i < ps.length), i < k → Holds (fun n => ρ n.num) ps[i]) → ∃ θ, SatC X (gc K f) lk θ ∧ ∀ x b, U 1 x = some b → θ b = ρ x
theorem Qrt (hk : ∀ l x b, U l x = some b → U' l x = some b) (θ : Nat → DT) {n : Nd} (hn : ∃ b, U 1 n.num = some b) : sg U 1 θ n = sg U' 1 θ n := by
  obtain ⟨b, hb⟩ := hn
  unfold sg
  rw [hb, hk 1 _ b hb]
theorem Jcv {θ : Nat → DT} {ρ : Int → DT} (h : ∀ x b, U 1 x = some b → θ b = ρ x) {n : Nd} (hn : ∃ b, U 1 n.num = some b) : sg U 1 θ n = ρ n.num := by
  obtain ⟨b, hb⟩ := hn
  unfold sg
  rw [hb]
  exact h _ b hb
theorem Qpc (h : Grow 1 ok X f lk K U X' f' lk K' U') (hin : ∀ x b, U 1 x = some b → X b) {θ θ' : Nat → DT} {ρ : Int → DT} (h1 : ∀ x b, U 1 x = some b → θ b = ρ x) (s2 : ∀ i, X i → θ' i = θ i) (s3 : ∀ x b, U 1 x = none → U' 1 x = some b → θ' b = ρ x) (x : Int) (b : Nat) (hb : U' 1 x = some b) : θ' b = ρ x := by
  cases e : U 1 x with
  | some c =>
    have h9 := h.keep 1 x c e
    rw [h9] at hb
    cases hb
    rw [s2 b (hin x b e)]
    exact h1 x b e
  | none => exact s3 x b e hb
theorem TimeM.grow (M : TimeM ps k X f K U) (h : Grow 1 ok X f lk K U X' f' lk K' U') (hok : ∀ ρ, ok ρ) (hX : ∀ b j, X b → (f b).td = some j → X j) (hself : ∀ i, X i → ∀ k ∈ K (f i).ks, X k) (hin : ∀ x b, U' 1 x = some b → X' b) : TimeM ps k X' f' K' U' := by
  refine ⟨fun i hi hk n hn h61 => ?_, hin, fun t ht θ hs i hi hit => ?_, fun t ht ρ hρ => ?_⟩
  · obtain ⟨b, hb⟩ := M.known i hi hk n hn h61
    exact ⟨b, h.keep 1 _ b hb⟩
  · exact (M.sound t ht θ (h.backAt hs) i hi hit).congr fun n hn h61 => Qrt h.keep θ (M.known i hi (by omega) n hn h61)
  · obtain ⟨θ, h1, h2⟩ := M.full t ht ρ hρ
    obtain ⟨θ', s1, s2, s3⟩ := h.onAt (by omega) hX hself h1 ρ (hok ρ)
    exact ⟨θ', s1, Qpc h M.inX h2 s2 s3⟩
theorem LoopM.grow (M : LoopM ps k X f lk K U) (h : Grow 1 ok X f lk K U X' f' lk K' U') (hok : ∀ ρ, ok ρ) (hX : ∀ b j, X b → (f b).td = some j → X j) (hself : ∀ i, X i → ∀ k ∈ K (f i).ks, X k) (hin : ∀ x b, U' 1 x = some b → X' b) : LoopM ps k X' f' lk K' U' := by
  refine ⟨M.times.grow h hok hX hself hin, fun θ hs i hi hik => ?_, fun ρ hρ => ?_⟩
  · exact (M.csound θ (h.back hs) i hi hik).congr fun n hn h61 => Qrt h.keep θ (M.times.known i hi hik n hn h61)
  · obtain ⟨θ, h1, h2⟩ := M.cur ρ hρ
    obtain ⟨θ', s1, s2, s3⟩ := h.on θ h1 ρ (hok ρ)
    exact ⟨θ', s1, Qpc h M.times.inX h2 s2 s3⟩
theorem TimeM.ties (M : TimeM ps k X f K U) (hT : Ties X (k : Int) f lk f' lk') (H : Hist X f lk (k : Int)) : TimeM ps k X f' K U := by
  have h9 := (hT.hist H).2 K
  refine ⟨M.known, M.inX, fun t ht θ hs => M.sound t ht θ ((h9 t θ (by omega)).1 hs), fun t ht ρ hρ => ?_⟩
  obtain ⟨θ, h1, h2⟩ := M.full t ht ρ hρ
  exact ⟨θ, (h9 t θ (by omega)).2 h1, h2⟩
theorem LoopM.next (M : LoopM ps k X f lk K U) (H : Hist X f lk (k : Int)) (hk : k < ps.length) (hkn : ∀ n, n ∈ ps[k].1 ∨ n ∈ ps[k].2 → n.kind = 61 → ∃ b, U 1 n.num = some b) {a b : Nat} (hA : ∀ θ, SatC X (gc K f) lk θ → Ev (sg U 1 θ) ps[k].1 (θ a)) (hB : ∀ θ, SatC X (gc K f) lk θ → Ev (sg U 1 θ) ps[k].2 (θ b))
    (hT : Ties X (k : Int) f lk f' lk') {d' : Nat → Nat} (hd : Acyc lk' d') (hiff : ∀ θ, SatC X (gc K f') lk' θ ↔ SatC X (gc K f) lk θ ∧ θ a = θ b) : LoopM ps (k + 1) X f' lk' K U := by
  have T := M.times.ties hT H
  have H' := (hT.hist H).1
  have hnow := H'.satNow K hd
  have hcs : ∀ θ, SatC X (gc K f') lk' θ → ∀ i (h : i < ps.length), i < k + 1 → Holds (sg U 1 θ) ps[i] := by
    intro θ hs i hi hik
    obtain ⟨h1, h2⟩ := (hiff θ).1 hs
    by_cases e : i < k
    · exact M.csound θ h1 i hi e
    · have e2 : i = k := by omega
      subst e2
      have hb := hB θ h1
      rw [← h2] at hb
      exact ⟨θ a, hA θ h1, hb⟩
  have hcu : ∀ ρ : Int → DT, (∀ i (h : i < ps.length), i < k + 1 → Holds (fun n => ρ n.num) ps[i]) → ∃ θ, SatC X (gc K f') lk' θ ∧ ∀ x b, U 1 x = some b → θ b = ρ x := by
    intro ρ hρ
    obtain ⟨θ, h1, h2⟩ := M.cur ρ fun i hi hik => hρ i hi (by omega)
    refine ⟨θ, (hiff θ).2 ⟨h1, ?_⟩, h2⟩
    obtain ⟨d, e1, e2⟩ := (hρ k hk (by omega)).congr (σ' := sg U 1 θ) fun n hn h61 => (Jcv h2 (hkn n hn h61)).symm
    rw [(hA θ h1).fun e1, (hB θ h1).fun e2]
  refine ⟨⟨fun i hi hik n hn h61 => ?_, M.times.inX, fun t ht θ hs i hi hit => ?_, fun t ht ρ hρ => ?_⟩, hcs, hcu⟩
  · by_cases e : i < k
    · exact M.times.known i hi e n hn h61
    · have e2 : i = k := by omega
      subst e2
      exact hkn n hn h61
  · by_cases e : t < k
    · exact T.sound t e θ hs i hi hit
    · have e2 : t = k := by omega
      subst e2
      exact hcs θ ((hnow θ).1 hs) i hi (by omega)
  · by_cases e : t < k
    · exact T.full t e ρ hρ
    · have e2 : t = k := by omega
      subst e2
      obtain ⟨θ, h1, h2⟩ := hcu ρ fun i hi hik => hρ i hi (by omega)
      exact ⟨θ, (hnow θ).2 h1, h2⟩
theorem LoopM.no (M : LoopM ps k X f lk K U) (hk : k < ps.length) (hkn : ∀ n, n ∈ ps[k].1 ∨ n ∈ ps[k].2 → n.kind = 61 → ∃ b, U 1 n.num = some b) {a b : Nat} (hA : ∀ θ, SatC X (gc K f) lk θ → Ev (sg U 1 θ) ps[k].1 (θ a)) (hB : ∀ θ, SatC X (gc K f) lk θ → Ev (sg U 1 θ) ps[k].2 (θ b))
    (hno : ∀ θ, SatC X (gc K f) lk θ → θ a ≠ θ b) (ρ : Int → DT) (hρ : ∀ i (h : i < ps.length), i ≤ k → Holds (fun n => ρ n.num) ps[i]) : False := by
  obtain ⟨θ, h1, h2⟩ := M.cur ρ fun i hi hik => hρ i hi (by omega)
  obtain ⟨d, e1, e2⟩ := (hρ k hk (by omega)).congr (σ' := sg U 1 θ) fun n hn h61 => (Jcv h2 (hkn n hn h61)).symm
  exact hno θ h1 (by rw [(hA θ h1).fun e1, (hB θ h1).fun e2])
theorem LoopM.start (hX : ∀ i, ¬ X i) (hl : ∀ i, lk i = none) (hU : ∀ x, U 1 x = none) : LoopM ps 0 X f lk K U := by
  have hU' : ∀ {x : Int} {b : Nat} {P : Prop}, U 1 x = some b → P := by
    intro x b P h
    rw [hU] at h
    cases h
  refine ⟨⟨?_, ?_, ?_, ?_⟩, ?_, ?_⟩
  · intro i _ h
    omega
  · intro x b h
    exact hU' h
  · intro t h
    omega
  · intro t h
    omega
  · intro θ _ i _ h
    omega
  · intro ρ _
    refine ⟨fun _ _ => none, ⟨?_, ?_⟩, fun x b h => hU' h⟩
    · exact fun i j h => absurd ((hl i).symm.trans h) nofun
    · exact fun i h => absurd h (hX i)
end
end Go.Proofs.YtoiiibplkhedcaaGreatDoor
namespace Go.Proofs.YtoiiibplkhedcaaGreatDoor
open Go.RowKit
/-! A term as it is written, whatever its nodes are: what stands at each place. -/
def OtF (R : List Nd × DT → Prop) (x : List Nd × DT) : Prop :=
  (∃ (n : Nd) (xss : List (List Nd)) (ds : List DT), x = (xss.flatten ++ [n], con n ds) ∧ (n.kids = (ds.length : Int)) ∧ (ds.length = xss.length) ∧ (∀ i (h1 : i < xss.length) (h2 : i < ds.length), R (xss[i], ds[i])))
structure Ot (xs : List Nd) (d : DT) : Prop where
  of ::
  lfp : Lfp (OtF) (xs, d)
theorem Ot.grows : Qkq (OtF) := by
  rintro R R' x h0 ⟨n, xss, ds, e0, hn, hl, h⟩
  · exact ⟨n, xss, ds, e0, hn, hl, fun i h1 h2 => h0 _ (h i h1 h2)⟩
theorem Ot.node (n : Nd) (xss : List (List Nd)) (ds : List DT) (hn : n.kids = (ds.length : Int)) (hl : ds.length = xss.length) (h : ∀ i (h1 : i < xss.length) (h2 : i < ds.length), Ot (xss[i]) (ds[i])) : Ot (xss.flatten ++ [n]) (con n ds) :=
  ⟨Lfp.fold (Ot.grows) (⟨n, xss, ds, rfl, hn, hl, fun i h1 h2 => (h i h1 h2).lfp⟩)⟩
theorem Ot.elim {motive : ∀ xs d, Ot xs d → Prop}
    (node : ∀ (n : Nd) (xss : List (List Nd)) (ds : List DT) (hn : n.kids = (ds.length : Int)) (hl : ds.length = xss.length) (h : ∀ i (h1 : i < xss.length) (h2 : i < ds.length), Ot (xss[i]) (ds[i])), (∀ i (h1 : i < xss.length) (h2 : i < ds.length), motive (xss[i]) (ds[i]) (h i h1 h2)) → motive (xss.flatten ++ [n]) (con n ds) (Ot.node n xss ds hn hl h))
    {xs : List Nd} {d : DT} (h : Ot xs d) : motive xs d h := by
  have key : ∀ h, motive (xs, d).1 (xs, d).2 h := Lfp.ind (Ot.grows) (p := fun x => ∀ h, motive x.1 x.2 h) (by
    rintro x ⟨n, xss, ds, e0, hn, hl, h⟩ h9
    · subst e0; exact node n xss ds hn hl (fun i h1 h2 => ⟨(h i h1 h2).1⟩) (fun i h1 h2 => (h i h1 h2).2 _)) h.lfp
  exact key h
theorem Ot.inv {motive : ∀ xs d, Ot xs d → Prop}
    (node : ∀ (n : Nd) (xss : List (List Nd)) (ds : List DT) (hn : n.kids = (ds.length : Int)) (hl : ds.length = xss.length) (h : ∀ i (h1 : i < xss.length) (h2 : i < ds.length), Ot (xss[i]) (ds[i])), motive (xss.flatten ++ [n]) (con n ds) (Ot.node n xss ds hn hl h))
    {xs : List Nd} {d : DT} (h : Ot xs d) : motive xs d h := by
  induction h using Ot.elim with
  | node n xss ds hn hl h _ => exact node n xss ds hn hl h
theorem Ot.last {xs : List Nd} {d : DT} (h : Ot xs d) : ∃ (n : Nd) (xss : List (List Nd)) (ds : List DT), n.kids = (ds.length : Int) ∧ ds.length = xss.length ∧ (∀ i (h1 : i < xss.length) (h2 : i < ds.length), Ot xss[i] ds[i]) ∧ xs = xss.flatten ++ [n] ∧ d = con n ds := by
  cases h using Ot.inv with
  | node n xss ds hn hl h => exact ⟨n, xss, ds, hn, hl, h, rfl, rfl⟩
theorem Ot.one {xs : List Nd} {d : DT} (h : Ot xs d) : One xs := by
  induction h using Ot.elim with
  | node n xss ds hn hl h ih =>
    refine One.join (fun x hx => ?_) (by rw [hn, hl])
    obtain ⟨i, hi, rfl⟩ := List.getElem_of_mem hx
    exact ih i hi (by omega)
theorem Qwd {xss : List (List Nd)} {ds : List DT} (hl : ds.length = xss.length) (h : ∀ i (h1 : i < xss.length) (h2 : i < ds.length), Ot xss[i] ds[i]) : ∀ x ∈ xss, One x := by
  intro x hx
  obtain ⟨i, hi, rfl⟩ := List.getElem_of_mem hx
  exact (h i hi (by omega)).one
theorem Ot.fun {xs : List Nd} {d : DT} (h : Ot xs d) : ∀ {d' : DT}, Ot xs d' → d = d' := by
  induction h using Ot.elim with
  | node n xss ds hn hl h ih =>
    intro d' h'
    obtain ⟨m, yss, es, hn', hl', h2, e, rfl⟩ := h'.last
    obtain ⟨e1, e2⟩ := List.append_inj' e rfl
    simp at e2
    subst e2
    have e3 := Qen (Qwd hl h) (Qwd hl' h2) e1
    subst e3
    have : ds = es := by
      apply List.ext_getElem (by omega)
      intro i h3 h4
      exact ih i (by omega) h3 (h2 i (by omega) h4)
    rw [this]
theorem Ot.fin {xs : List Nd} {d : DT} (h : Ot xs d) : Fin' d xs := by
  induction h using Ot.elim with
  | node n xss ds hn hl h ih => exact .mk n ds xss hl fun i h1 h2 => ih i h2 h1
theorem Jby {t : List Nd} {S ys : List Sp} {n : Nat} (h : Qag t n = some (S, ys)) : ∀ i, i < n → ∀ s, ys[i]? = some s → ∃ d, Ot (span t s.fr i) d := by
  intro i
  induction i using Nat.strongRecOn with
  | ind i ih =>
    intro hi s hs
    have hle := Qee h
    have hit : i < t.length := by omega
    obtain ⟨K, hK, hsp, hO⟩ := Qej h hi hs hit
    obtain ⟨_, hn⟩ := hK.num
    rw [hsp]
    have hk : ∀ r, ∃ d, ∀ hr : r < K.length, Ot (span t K[r].fr K[r].rt) d := by
      intro r
      by_cases hr : r < K.length
      · have hm := hK.mem r hr
        obtain ⟨d, hd⟩ := ih K[r].rt hm.2.2 (by omega) K[r] hm.1
        exact ⟨d, fun _ => hd⟩
      · exact ⟨fun _ => none, fun h => absurd h hr⟩
    obtain ⟨F, hF⟩ := Classical.axiomOfChoice hk
    refine ⟨con t[i] ((List.range K.length).map F), Ot.node t[i] (Qae t K) _ (by simpa using hn) (by simp [Qae]) (fun r h1 h2 => ?_)⟩
    have hr : r < K.length := by simpa using h2
    simp only [Qae, List.getElem_map, List.getElem_range]
    exact hF r hr
theorem Jbz {t : List Nd} (h : One t) : ∃ d, Ot t d := by
  have hne := List.length_pos_iff.2 h.ne
  obtain ⟨s, ys, hA⟩ := h
  have hf := Qaf hA
  have hc := hf.chain.2.2.1 (by simp)
  simp only [List.getElem_cons_zero, List.length_cons, List.length_nil, Nat.zero_add, Nat.sub_self] at hc
  have hm := hf.mem 0 (by simp)
  simp only [List.getElem_cons_zero] at hm
  have hrt : s.rt = t.length - 1 := by omega
  rw [hrt] at hm
  have hsp : span t s.fr (t.length - 1) = t := by
    unfold span
    rw [hc.1, List.drop_zero, List.take_of_length_le (by omega)]
  obtain ⟨d, hd⟩ := Jby hA (t.length - 1) (by omega) s hm
  rw [hsp] at hd
  exact ⟨d, hd⟩
theorem Ev.written {σ : Nd → DT} {g : List Nd} {d : DT} (h : Ev σ g d) {ρ : Int → List Nd} (hρ : ∀ n ∈ g, n.kind = 61 → Ot (ρ n.num) (σ n)) : Ot (fill ρ g) d := by
  induction h using Ev.elim with
  | leaf n hk h0 =>
    have h1 := hρ n (by simp) hk
    simp only [fill, Qas, List.flatMap_cons, List.flatMap_nil, hk, if_true, List.append_nil]
    exact h1
  | node n hk xss ds hn hl h ih =>
    rw [Qaj, Qbl]
    have e3 : fill ρ [n] = [n] := by simp [fill, Qas, hk]
    rw [e3]
    refine Ot.node n _ ds hn (by simp [hl]) (fun i h1 h2 => ?_)
    simp only [List.getElem_map]
    have hi : i < xss.length := by simpa using h1
    exact ih i hi h2 (fun m hm hm61 => hρ m (List.mem_append_left _ (List.mem_flatten.2 ⟨_, List.getElem_mem hi, hm⟩)) hm61)
theorem Ot.same {xs ys : List Nd} {d : DT} (h : Ot xs d) (h' : Ot ys d) : xs = ys := h.fin.one h'.fin
theorem Jan {g g' : List Nd} {ρ : Int → List Nd} {σ : Nd → DT} (hσ : ∀ n, Ot (ρ n.num) (σ n)) {d d' : DT} (h : Ev σ g d) (h' : Ev σ g' d') (e : fill ρ g = fill ρ g') : Holds σ (g, g') := by
  have h1 := h.written (ρ := ρ) fun n _ _ => hσ n
  have h2 := h'.written (ρ := ρ) fun n _ _ => hσ n
  rw [e] at h1
  have := h1.fun h2
  subst this
  exact ⟨d, h, h'⟩
theorem Qvh {p : List Nd × List Nd} {ρ : Int → List Nd} {σ : Nd → DT} (h : Holds σ p) (hσ : ∀ n, n ∈ p.1 ∨ n ∈ p.2 → n.kind = 61 → Ot (ρ n.num) (σ n)) : fill ρ p.1 = fill ρ p.2 := by
  obtain ⟨d, h1, h2⟩ := h
  exact (h1.written fun n hn hk => hσ n (.inl hn) hk).same (h2.written fun n hn hk => hσ n (.inr hn) hk)
end Go.Proofs.YtoiiibplkhedcaaGreatDoor
