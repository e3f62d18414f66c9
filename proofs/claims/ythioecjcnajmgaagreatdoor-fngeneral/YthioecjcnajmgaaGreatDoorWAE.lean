import Derived.Test.YthioecjcnajmgaaGreatDoorWAD
import Derived.Test.YthioecjcnajmgaaGreatDoorProg
import Derived.Test.YthioecjcnajmgaaGreatDoorWAA
import Derived.Deep.Light
import Derived.Test.YthioecjcnajmgaaGreatDoorWAC
import Derived.BigQuiet
namespace Go.Proofs.YthioecjcnajmgaaGreatDoor

/-- One term, and nothing beside it. -/
def One (a : List Nd) : Prop := ∃ s ys, after a a.length = some ([s], ys)

/-- How many terms more stand behind a list than ahead of it. -/
def wt (a : List Nd) : Int := (a.map fun n => 1 - n.kids).sum

theorem wt_append (a b : List Nd) : wt (a ++ b) = wt a + wt b := by simp [wt]

theorem after_wt {a : List Nd} : ∀ {k : Nat} {S ys : List Sp}, after a k = some (S, ys) → (S.length : Int) = wt (a.take k) := by
  intro k
  induction k with
  | zero => intro S ys h; simp only [after, Option.some.injEq, Prod.mk.injEq] at h; obtain ⟨rfl, rfl⟩ := h; rfl
  | succ k ih =>
    intro S' ys' h
    obtain ⟨S, ys, s, hk, ha, hs, rfl⟩ := after_inv h
    obtain ⟨h0, h1, rfl, _⟩ := step_some hs
    have h2 := ih ha
    rw [List.take_succ_eq_append_getElem hk, wt_append, ← h2]
    simp [wt]
    omega

theorem One.ne {a : List Nd} (h : One a) : a ≠ [] := by
  obtain ⟨s, ys, h⟩ := h
  intro e
  subst e
  simp [after] at h

theorem One.wt {a : List Nd} (h : One a) : wt a = 1 := by
  obtain ⟨s, ys, h⟩ := h
  have h1 := after_wt h
  rw [List.take_of_length_le (Nat.le_refl _)] at h1
  rw [← h1]; rfl

theorem One.tail {a : List Nd} (h : One a) (k : Nat) (h0 : 0 < k) (hk : k ≤ a.length) : YthioecjcnajmgaaGreatDoor.wt (a.drop k) ≤ 0 := by
  have hw := h.wt
  obtain ⟨s, ys, h⟩ := h
  obtain ⟨S, hS⟩ := after_part h k hk
  have h1 := after_wt hS
  have h2 := (after_fine hS).chain.2.2.2
  have h3 : YthioecjcnajmgaaGreatDoor.wt a = YthioecjcnajmgaaGreatDoor.wt (a.take k) + YthioecjcnajmgaaGreatDoor.wt (a.drop k) := by rw [← wt_append, List.take_append_drop]
  have h4 : S.length ≠ 0 := fun e => by have := h2 e; omega
  omega

/-- A term at the end of a list is told by the list. -/
theorem One.suffix {a b X Y : List Nd} (ha : One a) (hb : One b) (h : X ++ a = Y ++ b) : X = Y ∧ a = b := by
  have key : ∀ {a b X Y : List Nd}, One a → One b → X ++ a = Y ++ b → a.length ≤ b.length → a.length = b.length := by
    intro a b X Y ha hb h hl
    rcases Nat.lt_or_ge a.length b.length with hlt | hge
    · exfalso
      have hla : 0 < a.length := List.length_pos_iff.2 ha.ne
      have e : a = b.drop (b.length - a.length) := by
        have h1 : (X ++ a).drop X.length = (Y ++ b).drop X.length := by rw [h]
        have h2 := congrArg List.length h
        simp only [List.length_append] at h2
        rw [List.drop_left, List.drop_append, List.drop_of_length_le (by omega), List.nil_append] at h1
        have e3 : X.length - Y.length = b.length - a.length := by omega
        rw [e3] at h1
        exact h1
      have h3 := hb.tail (b.length - a.length) (by omega) (by omega)
      rw [← e, ha.wt] at h3
      omega
    · omega
  have hl : a.length = b.length := by
    rcases Nat.le_total a.length b.length with h1 | h1
    · exact key ha hb h h1
    · exact (key hb ha h.symm h1).symm
  exact List.append_inj' h hl

theorem flatten_snoc (A : List (List Nd)) (a : List Nd) : (A ++ [a]).flatten = A.flatten ++ a := by simp

/-- Terms one behind the other are told by what they make together. -/
theorem ones_same : ∀ {A B : List (List Nd)}, (∀ x ∈ A, One x) → (∀ x ∈ B, One x) → A.flatten = B.flatten → A = B := by
  intro A
  induction hn : A.length generalizing A with
  | zero =>
    intro B hA hB h
    have : A = [] := List.eq_nil_of_length_eq_zero hn
    subst this
    cases B with
    | nil => rfl
    | cons b B =>
      exfalso
      have h1 := (hB b (by simp)).ne
      simp only [List.flatten_nil, List.flatten_cons] at h
      have := congrArg List.length h
      simp only [List.length_nil, List.length_append] at this
      exact h1 (List.eq_nil_of_length_eq_zero (by omega))
  | succ n ih =>
    intro B hA hB h
    have hne : A ≠ [] := fun e => by simp [e] at hn
    obtain ⟨A', a, rfl⟩ : ∃ A' a, A = A' ++ [a] := ⟨_, _, (List.dropLast_concat_getLast hne).symm⟩
    have hb : B ≠ [] := by
      intro e
      subst e
      have h1 := (hA a (by simp)).ne
      simp only [flatten_snoc, List.flatten_nil, List.append_eq_nil_iff] at h
      exact h1 h.2
    obtain ⟨B', b, rfl⟩ : ∃ B' b, B = B' ++ [b] := ⟨_, _, (List.dropLast_concat_getLast hb).symm⟩
    rw [flatten_snoc, flatten_snoc] at h
    obtain ⟨h1, h2⟩ := (hA a (by simp)).suffix (hB b (by simp)) h
    have h3 := ih (A := A') (by simpa using hn) (fun x hx => hA x (by simp [hx])) (fun x hx => hB x (by simp [hx])) h1
    rw [h3, h2]

/-- The run over terms one behind the other. -/
theorem ones_run : ∀ {A : List (List Nd)}, (∀ x ∈ A, One x) → ∃ S ys, after A.flatten A.flatten.length = some (S, ys) ∧ S.length = A.length := by
  intro A
  induction hn : A.length generalizing A with
  | zero =>
    intro _
    have : A = [] := List.eq_nil_of_length_eq_zero hn
    subst this
    exact ⟨[], [], rfl, rfl⟩
  | succ n ih =>
    intro hA
    have hne : A ≠ [] := fun e => by simp [e] at hn
    obtain ⟨A', a, rfl⟩ : ∃ A' a, A = A' ++ [a] := ⟨_, _, (List.dropLast_concat_getLast hne).symm⟩
    obtain ⟨S, ys, h1, h2⟩ := ih (A := A') (by simpa using hn) (fun x hx => hA x (by simp [hx]))
    obtain ⟨s, y, h3⟩ := hA a (by simp)
    have h4 := after_append h1 h3
    rw [flatten_snoc, List.length_append, h4]
    exact ⟨_, _, rfl, by simp; simp at h2 hn; omega⟩

/-- Terms, and a node over them. -/
theorem One.join {A : List (List Nd)} {n : Nd} (hA : ∀ x ∈ A, One x) (hn : n.kids = (A.length : Int)) : One (A.flatten ++ [n]) := by
  obtain ⟨S, ys, h1, h2⟩ := ones_run hA
  have hst : step S A.flatten.length n.kids = some ([over S A.flatten.length], over S A.flatten.length) := by
    rw [hn, step_of (by omega) (by omega)]
    have e : S.length - (A.length : Int).toNat = 0 := by omega
    rw [e]
    simp
  have h3 : after (A.flatten ++ [n]) A.flatten.length = some (S, ys) := by rw [after_front (Nat.le_refl _)]; exact h1
  refine ⟨over S A.flatten.length, ys ++ [over S A.flatten.length], ?_⟩
  have h4 := after_succ h3 (by simp) (S' := [over S A.flatten.length]) (s := over S A.flatten.length) (by
    rw [List.getElem_append_right (Nat.le_refl _)]
    simp only [Nat.sub_self, List.getElem_singleton]
    exact hst)
  rw [List.length_append]
  exact h4

/-- A term inside a list is one. -/
theorem sub_one {t : List Nd} {S ys : List Sp} {n i : Nat} {s : Sp} (h : after t n = some (S, ys)) (hi : i < n) (hs : ys[i]? = some s) : One (span t s.fr i) := by
  obtain ⟨ys', h1⟩ := sub_run h i hi s hs
  have hle := after_le h
  refine ⟨⟨0, i - s.fr, s.dp⟩, ys', ?_⟩
  rw [span_length t s.fr i (by omega)]
  exact h1

/-- A type with its unknowns filled. -/
def fillN (θ : Int → List Nd) (n : Nd) : List Nd := if n.kind = 61 then θ n.num else [n]

def fill (θ : Int → List Nd) (a : List Nd) : List Nd := a.flatMap (fillN θ)

theorem fill_append (θ : Int → List Nd) (a b : List Nd) : fill θ (a ++ b) = fill θ a ++ fill θ b := by simp [fill]

theorem fill_flatten (θ : Int → List Nd) (A : List (List Nd)) : fill θ A.flatten = (A.map (fill θ)).flatten := by
  induction A with
  | nil => rfl
  | cons a A ih => rw [List.flatten_cons, fill_append, ih]; rfl

/-- The unknowns of a list. -/
def metas (a : List Nd) : List Int := (a.filter (fun n => n.kind == 61)).map (fun n => n.num)

theorem metas_append (a b : List Nd) : metas (a ++ b) = metas a ++ metas b := by simp [metas]

theorem metas_flatten_mem {A : List (List Nd)} {x : Int} : x ∈ metas A.flatten ↔ ∃ a ∈ A, x ∈ metas a := by
  induction A with
  | nil => simp [metas]
  | cons a A ih => rw [List.flatten_cons, metas_append, List.mem_append, ih]; simp

theorem fill_congr {θ θ' : Int → List Nd} {a : List Nd} (h : ∀ x ∈ metas a, θ x = θ' x) : fill θ a = fill θ' a := by
  induction a with
  | nil => rfl
  | cons n a ih =>
    have e : ∀ θ, fill θ (n :: a) = fillN θ n ++ fill θ a := fun θ => by simp [fill]
    rw [e, e]
    have h1 : fill θ a = fill θ' a := ih (fun x hx => h x (by
      have : metas (n :: a) = metas [n] ++ metas a := metas_append [n] a
      rw [this]; exact List.mem_append_right _ hx))
    rw [h1]
    congr 1
    unfold fillN
    by_cases hk : n.kind = 61
    · rw [if_pos hk, if_pos hk]
      exact h n.num (by simp [metas, hk])
    · rw [if_neg hk, if_neg hk]

/-- Unknowns are leaves. -/
def Leafy (a : List Nd) : Prop := ∀ n ∈ a, n.kind = 61 → n.kids = 0

theorem Leafy.sub {a : List Nd} (h : Leafy a) (f i : Nat) : Leafy (span a f i) := by
  intro n hn
  exact h n (List.mem_of_mem_take (List.mem_of_mem_drop hn))

theorem fill_run {θ : Int → List Nd} (hθ : ∀ x, One (θ x)) {a : List Nd} (hl : Leafy a) :
    ∀ {k : Nat} {S ys : List Sp}, after a k = some (S, ys) → ∃ S' ys', after (fill θ (a.take k)) (fill θ (a.take k)).length = some (S', ys') ∧ S'.length = S.length := by
  intro k
  induction k with
  | zero => intro S ys h; simp only [after, Option.some.injEq, Prod.mk.injEq] at h; obtain ⟨rfl, rfl⟩ := h; exact ⟨[], [], rfl, rfl⟩
  | succ k ih =>
    intro S' ys' h
    obtain ⟨S, ys, s, hk, ha, hs, rfl⟩ := after_inv h
    obtain ⟨h0, h1, rfl, _⟩ := step_some hs
    obtain ⟨S1, y1, r1, l1⟩ := ih ha
    rw [List.take_succ_eq_append_getElem hk, fill_append]
    have e : fill θ [a[k]] = fillN θ a[k] := by simp [fill]
    rw [e]
    by_cases h61 : a[k].kind = 61
    · have hz := hl a[k] (List.getElem_mem hk) h61
      obtain ⟨s2, y2, r2⟩ := hθ a[k].num
      have e2 : fillN θ a[k] = θ a[k].num := by rw [fillN, if_pos h61]
      rw [e2, List.length_append, after_append r1 r2]
      refine ⟨_, _, rfl, ?_⟩
      simp [hz]
      omega
    · have e2 : fillN θ a[k] = [a[k]] := by rw [fillN, if_neg h61]
      rw [e2]
      have r3 : after (fill θ (a.take k) ++ [a[k]]) (fill θ (a.take k)).length = some (S1, y1) := by rw [after_front (Nat.le_refl _)]; exact r1
      have hst := step_of (S := S1) (i := (fill θ (a.take k)).length) (n := a[k].kids) h0 (by omega)
      have r4 := after_succ r3 (by simp) (by
        rw [List.getElem_append_right (Nat.le_refl _)]
        simp only [Nat.sub_self, List.getElem_singleton]
        exact hst)
      rw [List.length_append]
      refine ⟨_, _, r4, ?_⟩
      simp
      omega

theorem fill_one {θ : Int → List Nd} (hθ : ∀ x, One (θ x)) {a : List Nd} (hl : Leafy a) (ha : One a) : One (fill θ a) := by
  obtain ⟨s, ys, h⟩ := ha
  obtain ⟨S', ys', h1, h2⟩ := fill_run hθ hl h
  rw [List.take_of_length_le (Nat.le_refl _)] at h1
  match S', h2 with
  | [s'], _ => exact ⟨s', ys', h1⟩

def nums (bs : List (Int × List Nd)) : List Int := bs.map Prod.fst

/-- A filling that gives what the binds say. -/
def Ext (θ : Int → List Nd) (bs : List (Int × List Nd)) : Prop := ∀ p ∈ bs, θ p.1 = p.2

/-- From binds bs on, G matches T by the binds bs'. -/
structure MatchOk (bs : List (Int × List Nd)) (G T : List Nd) (bs' : List (Int × List Nd)) : Prop where
  pre : ∀ p ∈ bs, p ∈ bs'
  nodup : (nums bs').Nodup
  one : ∀ p ∈ bs', One p.2
  mem : ∀ x, x ∈ nums bs' ↔ x ∈ nums bs ∨ x ∈ metas G
  fills : ∀ θ, Ext θ bs' → fill θ G = T
  force : ∀ θ, (∀ x, One (θ x)) → Ext θ bs → fill θ G = T → Ext θ bs'

def MatchNo (bs : List (Int × List Nd)) (G T : List Nd) : Prop := ∀ θ, (∀ x, One (θ x)) → Ext θ bs → fill θ G ≠ T

theorem MatchOk.step {bs bs1 bs2 : List (Int × List Nd)} {G T A B : List Nd} (h1 : MatchOk bs G T bs1) (h2 : MatchOk bs1 A B bs2) (hA : One A) (hl : Leafy A) (hB : One B) : MatchOk bs (G ++ A) (T ++ B) bs2 := by
  refine ⟨fun p hp => h2.pre p (h1.pre p hp), h2.nodup, h2.one, ?_, ?_, ?_⟩
  · intro x
    rw [h2.mem, h1.mem, metas_append, List.mem_append, or_assoc]
  · intro θ h
    rw [fill_append, h2.fills θ h, h1.fills θ (fun p hp => h (p) (h2.pre p hp))]
  · intro θ hθ h e
    rw [fill_append] at e
    obtain ⟨e1, e2⟩ := (fill_one hθ hl hA).suffix hB e
    exact h2.force θ hθ (h1.force θ hθ h e1) e2

theorem MatchOk.over {bs bs' : List (Int × List Nd)} {G T : List Nd} {n : Nd} (h : MatchOk bs G T bs') (hk : n.kind ≠ 61) : MatchOk bs (G ++ [n]) (T ++ [n]) bs' := by
  have hf : ∀ θ, fill θ [n] = [n] := fun θ => by simp [fill, fillN, hk]
  refine ⟨h.pre, h.nodup, h.one, ?_, ?_, ?_⟩
  · intro x
    have hm : metas [n] = [] := by simp [metas, hk]
    rw [h.mem, metas_append, hm, List.append_nil]
  · intro θ hE
    rw [fill_append, hf, h.fills θ hE]
  · intro θ hθ hE e
    rw [fill_append, hf] at e
    exact h.force θ hθ hE (List.append_inj' e rfl).1

/-- A kid that can't be matched: the whole can't. -/
theorem MatchNo.kid {bs bs1 : List (Int × List Nd)} {A B : List (List Nd)} {n : Nd} {k : Nat} (hk : n.kind ≠ 61) (hA : ∀ a ∈ A, One a) (hl : ∀ a ∈ A, Leafy a) (hB : ∀ b ∈ B, One b) (hka : k < A.length) (hkb : k < B.length)
    (h1 : MatchOk bs (A.take k).flatten (B.take k).flatten bs1) (h2 : MatchNo bs1 A[k] B[k]) : MatchNo bs (A.flatten ++ [n]) (B.flatten ++ [n]) := by
  intro θ hθ hE e
  have hf : fill θ [n] = [n] := by simp [fill, fillN, hk]
  rw [fill_append, hf, fill_flatten] at e
  have e1 := (List.append_inj' e rfl).1
  have e2 : A.map (fill θ) = B := ones_same (by
    intro x hx
    obtain ⟨a, ha, rfl⟩ := List.mem_map.1 hx
    exact fill_one hθ (hl a ha) (hA a ha)) hB e1
  have e3 : fill θ A[k] = B[k] := by
    have : (A.map (fill θ))[k]'(by simpa using hka) = B[k] := by simp only [e2]
    rw [← this]
    simp
  refine h2 θ hθ (h1.force θ hθ hE ?_) e3
  rw [fill_flatten, List.map_take, e2]

/-- A term's nodes: its kids', and its root. -/
theorem span_kids {t : List Nd} {S ys : List Sp} {n i : Nat} {s : Sp} (h : after t n = some (S, ys)) (hi : i < n) (hs : ys[i]? = some s) (ht : i < t.length) :
    ∃ K, KidsAt t ys i K ∧ span t s.fr i = (kidsIn t K).flatten ++ [t[i]] ∧ (∀ a ∈ kidsIn t K, One a) := by
  obtain ⟨K, hK, ho⟩ := kids_at2 h i hi
  rw [ho] at hs
  simp only [Option.some.injEq] at hs
  subst hs
  have hle := after_le h
  have hc := kids_con hK
  have hfi : frOf K i ≤ i := hc.le
  refine ⟨K, hK, ?_, ?_⟩
  · show span t (frOf K i) i = _
    rw [span_snoc t (frOf K i) i ht hfi, con_flat hc (by omega)]
  · intro a ha
    obtain ⟨x, hx, rfl⟩ := List.mem_map.1 ha
    obtain ⟨r, hr, rfl⟩ := List.getElem_of_mem hx
    have hm := hK.mem r hr
    exact sub_one h (by omega) hm.1

/-- Two fillings of one term that are the same agree at its unknowns. -/
theorem fill_inj {θ θ' : Int → List Nd} (hθ : ∀ x, One (θ x)) (hθ' : ∀ x, One (θ' x)) {t : List Nd} (hl : Leafy t) {S ys : List Sp} {n : Nat} (h : after t n = some (S, ys)) :
    ∀ i, i < n → ∀ s, ys[i]? = some s → fill θ (span t s.fr i) = fill θ' (span t s.fr i) → ∀ x ∈ metas (span t s.fr i), θ x = θ' x := by
  intro i
  induction i using Nat.strongRecOn with
  | ind i ih =>
    intro hi s hs e x hx
    have hle := after_le h
    have hit : i < t.length := by omega
    obtain ⟨K, hK, hsp, hO⟩ := span_kids h hi hs hit
    rw [hsp] at e hx
    by_cases h61 : t[i].kind = 61
    · have hz := hl t[i] (List.getElem_mem hit) h61
      obtain ⟨_, hn⟩ := hK.num
      have hK0 : K = [] := List.eq_nil_of_length_eq_zero (by omega)
      subst hK0
      have hf : ∀ θ, fill θ [t[i]] = θ t[i].num := fun θ => by simp [fill, fillN, h61]
      simp only [kidsIn, List.map_nil, List.flatten_nil, List.nil_append] at e hx
      rw [hf, hf] at e
      simp [metas, h61] at hx
      subst hx
      exact e
    · have hf : ∀ θ, fill θ [t[i]] = [t[i]] := fun θ => by simp [fill, fillN, h61]
      rw [fill_append, fill_append, hf, hf, fill_flatten, fill_flatten] at e
      have e1 := (List.append_inj' e rfl).1
      have hL : ∀ a ∈ kidsIn t K, Leafy a := by
        intro a ha
        obtain ⟨y, hy, rfl⟩ := List.mem_map.1 ha
        exact hl.sub _ _
      have e2 : (kidsIn t K).map (fill θ) = (kidsIn t K).map (fill θ') := ones_same (by
        intro y hy
        obtain ⟨a, ha, rfl⟩ := List.mem_map.1 hy
        exact fill_one hθ (hL a ha) (hO a ha)) (by
        intro y hy
        obtain ⟨a, ha, rfl⟩ := List.mem_map.1 hy
        exact fill_one hθ' (hL a ha) (hO a ha)) e1
      have hm : metas [t[i]] = [] := by simp [metas, h61]
      rw [metas_append, hm, List.append_nil, metas_flatten_mem] at hx
      obtain ⟨a, ha, hxa⟩ := hx
      have e3 : fill θ a = fill θ' a := List.map_inj_left.1 e2 a ha
      obtain ⟨y, hy, rfl⟩ := List.mem_map.1 ha
      obtain ⟨r, hr, rfl⟩ := List.getElem_of_mem hy
      have hmr := hK.mem r hr
      exact ih K[r].rt hmr.2.2 (by omega) K[r] hmr.1 e3 x hxa

/-- Rising, each once. -/
def Up (xs : List Int) : Prop := xs.Pairwise (· < ·)

/-- What Instance's binds are. -/
structure InstOk (g t : List Nd) (bs : List (Int × List Nd)) : Prop where
  up : Up (nums bs)
  mem : ∀ x, x ∈ nums bs ↔ x ∈ metas g
  one : ∀ p ∈ bs, One p.2
  fills : ∀ θ, Ext θ bs → fill θ g = t

def InstNo (g t : List Nd) : Prop := ∀ θ, (∀ x, One (θ x)) → fill θ g ≠ t

/-- The filling that binds say; a leaf beyond them. -/
def pick (bs : List (Int × List Nd)) (x : Int) : List Nd := match bs.find? (fun p => p.1 == x) with
  | some p => p.2
  | none => [Nd.zero]

theorem pick_one {bs : List (Int × List Nd)} (h : ∀ p ∈ bs, One p.2) (x : Int) : One (pick bs x) := by
  unfold pick
  cases hf : bs.find? (fun p => p.1 == x) with
  | some p => exact h p (List.mem_of_find?_eq_some hf)
  | none => exact ⟨_, _, rfl⟩

theorem pick_ext {bs : List (Int × List Nd)} (h : (nums bs).Nodup) : Ext (pick bs) bs := by
  intro p hp
  unfold pick
  induction bs with
  | nil => simp at hp
  | cons b bs ih =>
    simp only [nums, List.map_cons, List.nodup_cons] at h
    rcases List.mem_cons.1 hp with rfl | hp
    · simp
    · have hne : b.1 ≠ p.1 := fun e => h.1 (by rw [e]; exact List.mem_map.2 ⟨p, hp, rfl⟩)
      have hb : (b.1 == p.1) = false := by simpa using hne
      rw [List.find?_cons, hb]
      exact ih h.2 hp

theorem up_nodup {xs : List Int} (h : Up xs) : xs.Nodup := List.Pairwise.imp (fun h => by omega) h

end Go.Proofs.YthioecjcnajmgaaGreatDoor

namespace Go.Proofs.YthioecjcnajmgaaGreatDoor

open Go.RowKit



/-- Block g is a row of elements of type T, of the call's own, that begins with these cells. -/
def OwnT (T : Nat) (w : World) (g : Nat) (cs : List Value) : Prop := ∃ cur rest, w.heap[g]? = some (.cells cur T (0, 0)) ∧ cur.toList = cs ++ rest

theorem OwnT.lt {T : Nat} {w : World} {g : Nat} {cs : List Value} (h : OwnT T w g cs) : g < w.heap.size := by
  obtain ⟨cur, rest, hg, _⟩ := h
  exact (Array.getElem?_eq_some_iff.1 hg).1

theorem OwnT.set {T : Nat} {w : World} {g : Nat} {cs : List Value} (h : OwnT T w g cs) (j : Nat) (v : Value) (hj : j < cs.length) : OwnT T (w.setCell ⟨g, j, none⟩ v) g (cs.set j v) := by
  obtain ⟨cur, rest, hg, hc⟩ := h
  exact ⟨_, rest, heap_setCell_same _ g _ _ T _ hg, by rw [Array.toList_setIfInBounds, hc, List.set_append_left _ _ hj]⟩

theorem OwnT.at {T : Nat} {w : World} {g : Nat} {cs : List Value} (h : OwnT T w g cs) (j : Nat) (hj : j < cs.length) : w.cell? ⟨g, j, none⟩ = cs[j]? := by
  obtain ⟨cur, rest, hg, hc⟩ := h
  rw [cell_of_row w g _ cur T (0, 0) hg, ← Array.getElem?_toList, hc, List.getElem?_append_left hj]

theorem OwnT.frozen {T : Nat} {w : World} {g : Nat} {cs : List Value} (h : OwnT T w g cs) (j : Nat) : w.frozen? ⟨g, j, none⟩ = false := by
  obtain ⟨cur, _, hg, _⟩ := h
  exact frozen_of_row w g j cur T hg

theorem OwnT.but {S : Nat → Prop} {T : Nat} {w w' : World} {g : Nat} {cs : List Value} (h : OwnT T w g cs) (hb : But S w w') (hn : ¬ S g) : OwnT T w' g cs := by
  have hlt := h.lt
  obtain ⟨cur, rest, hg, hc⟩ := h
  exact ⟨cur, rest, (hb.block g hlt hn).trans hg, hc⟩

theorem OwnT.below {T : Nat} {w w' : World} {g : Nat} {cs : List Value} (h : OwnT T w g cs) (hb : Below w.heap.size w w') : OwnT T w' g cs := by
  have hlt := h.lt
  obtain ⟨cur, rest, hg, hc⟩ := h
  exact ⟨cur, rest, (hb.block g hlt).trans hg, hc⟩

/-- Block g is a row of int64s. -/
def LRow (w : World) (g : Nat) (xs : List Int) : Prop := OwnT 2 w g (ints xs)

theorem LRow.at {w : World} {g : Nat} {xs : List Int} (h : LRow w g xs) (j : Nat) (hj : j < xs.length) : w.cell? ⟨g, j, none⟩ = some (.int .i64 xs[j]) := by
  rw [OwnT.at h j (by simp [ints]; exact hj)]
  simp [ints, List.getElem?_eq_getElem hj]

theorem LRow.put {w : World} {g : Nat} {xs : List Int} (h : LRow w g xs) (j : Nat) (hj : j < xs.length) (v : Int) : LRow (w.setCell ⟨g, j, none⟩ (.int .i64 v)) g (xs.set j v) := by
  have h9 := OwnT.set h j (.int .i64 v) (by simp [ints]; exact hj)
  have e : (ints xs).set j (.int .i64 v) = ints (xs.set j v) := by simp [ints]
  rw [e] at h9
  exact h9

theorem LRow.below {w w' : World} {g : Nat} {xs : List Int} (h : LRow w g xs) (hb : Below w.heap.size w w') : LRow w' g xs := OwnT.below h hb

theorem LRow.but {S : Nat → Prop} {w w' : World} {g : Nat} {xs : List Int} (h : LRow w g xs) (hb : But S w w') (hn : ¬ S g) : LRow w' g xs := OwnT.but h hb hn

theorem LRow.frozen {w : World} {g : Nat} {xs : List Int} (h : LRow w g xs) (j : Nat) : w.frozen? ⟨g, j, none⟩ = false := OwnT.frozen h j

theorem LRow.lt {w : World} {g : Nat} {xs : List Int} (h : LRow w g xs) : g < w.heap.size := OwnT.lt h

/-- A slice of int64s to be read. -/
def LCells (w : World) (ao : Option Addr) (xs : List Int) : Prop := ∀ i (h : i < xs.length), ∃ b o, ao = some ⟨b, o, none⟩ ∧ w.cell? ⟨b, o + i, none⟩ = some (.int .i64 xs[i])

theorem LCells.below {w w' : World} {ao : Option Addr} {xs : List Int} (h : LCells w ao xs) (hb : Below w.heap.size w w') : LCells w' ao xs := by
  intro i hi
  obtain ⟨b, o, e, hc⟩ := h i hi
  exact ⟨b, o, e, (hb.cell (p := ⟨b, o + i, none⟩) (lt_of_cell hc)).trans hc⟩

theorem LRow.cells {w : World} {g : Nat} {xs : List Int} (h : LRow w g xs) : LCells w (some ⟨g, 0, none⟩) xs := fun i hi => ⟨g, 0, rfl, by rw [Nat.zero_add]; exact h.at i hi⟩

/-- An answer: a slice of int64s that is empty, or a row of the call's own, from block B on. -/
def LAns (w : World) (B : Nat) (ao : Option Addr) (zs : List Int) : Prop := zs = [] ∨ ∃ g, ao = some ⟨g, 0, none⟩ ∧ B ≤ g ∧ LRow w g zs

theorem LAns.cells {w : World} {B : Nat} {ao : Option Addr} {zs : List Int} (h : LAns w B ao zs) : LCells w ao zs := by
  rcases h with rfl | ⟨g, rfl, _, hr⟩
  · exact fun i hi => by simp at hi
  · exact hr.cells

theorem LAns.below {w w' : World} {B : Nat} {ao : Option Addr} {zs : List Int} (h : LAns w B ao zs) (hb : Below w.heap.size w w') : LAns w' B ao zs := by
  rcases h with rfl | ⟨g, rfl, hB, hr⟩
  · exact Or.inl rfl
  · exact Or.inr ⟨g, rfl, hB, hr.below hb⟩

theorem LAns.but {S : Nat → Prop} {w w' : World} {B : Nat} {ao : Option Addr} {zs : List Int} (h : LAns w B ao zs) (hb : But S w w') (hS : ∀ g, ao = some ⟨g, 0, none⟩ → B ≤ g → LRow w g zs → ¬ S g) : LAns w' B ao zs := by
  rcases h with rfl | ⟨g, rfl, hB, hr⟩
  · exact Or.inl rfl
  · exact Or.inr ⟨g, rfl, hB, hr.but hb (hS g rfl hB hr)⟩

end Go.Proofs.YthioecjcnajmgaaGreatDoor
