import Derived.Test.YtoiiibplkhedcaaGreatDoorWAE
namespace Go.Proofs.YtoiiibplkhedcaaGreatDoor
def One (a : List Nd) : Prop := ∃ s ys, Qag a a.length = some ([s], ys)
def wt (a : List Nd) : Int := (a.map fun n => 1 - n.kids).sum
theorem Qjg (a b : List Nd) : wt (a ++ b) = wt a + wt b := by simp [wt]
theorem Qfe {a : List Nd} : ∀ {k : Nat} {S ys : List Sp}, Qag a k = some (S, ys) → (S.length : Int) = wt (a.take k) := by
  intro k
  induction k with
  | zero => intro S ys h; simp only [Qag, Option.some.injEq, Prod.mk.injEq] at h; obtain ⟨rfl, rfl⟩ := h; rfl
  | succ k ih =>
    intro S' ys' h
    obtain ⟨S, ys, s, hk, ha, hs, rfl⟩ := Qcq h
    obtain ⟨h0, h1, rfl, _⟩ := Qdq hs
    have h2 := ih ha
    rw [List.take_succ_eq_append_getElem hk, Qjg, ← h2]
    simp [wt]
    omega
theorem One.ne {a : List Nd} (h : One a) : a ≠ [] := by
  obtain ⟨s, ys, h⟩ := h
  intro e
  subst e
  simp [Qag] at h
theorem One.wt {a : List Nd} (h : One a) : wt a = 1 := by
  obtain ⟨s, ys, h⟩ := h
  have h1 := Qfe h
  rw [List.take_of_length_le (Nat.le_refl _)] at h1
  rw [← h1]; rfl
theorem One.tail {a : List Nd} (h : One a) (k : Nat) (h0 : 0 < k) (hk : k ≤ a.length) : YtoiiibplkhedcaaGreatDoor.wt (a.drop k) ≤ 0 := by
  have hw := h.wt
  obtain ⟨s, ys, h⟩ := h
  obtain ⟨S, hS⟩ := Qdn h k hk
  have h1 := Qfe hS
  have h2 := (Qaf hS).chain.2.2.2
  have h3 : YtoiiibplkhedcaaGreatDoor.wt a = YtoiiibplkhedcaaGreatDoor.wt (a.take k) + YtoiiibplkhedcaaGreatDoor.wt (a.drop k) := by rw [← Qjg, List.take_append_drop]
  have h4 : S.length ≠ 0 := fun e => by have := h2 e; omega
  omega
theorem One.suffix {a b X Y : List Nd} (ha : One a) (hb : One b) (h : X ++ a = Y ++ b) : X = Y ∧ a = b := by
  have key : ∀ {a b X Y : List Nd}, One a → One b → X ++ a = Y ++ b → a.length ≤ b.length → a.length = b.length := by
    intro a b X Y ha hb h hl
    rcases Nat.lt_or_ge a.length b.length with hlt | hge
    · exfalso
      have hla : 0 < a.length := List.length_pos_iff.2 ha.ne
      have e : a = b.drop (b.length - a.length) := by
        have h1 : (X ++ a).drop X.length = (Y ++ b).drop X.length := by rw [h]
        have h2 := congrArg List.length h
        simp only [List.length_append] at h2
        rw [List.drop_left, List.drop_append, List.drop_of_length_le (by omega), List.nil_append] at h1
        have e3 : X.length - Y.length = b.length - a.length := by omega
        rw [e3] at h1
        exact h1
      have h3 := hb.tail (b.length - a.length) (by omega) (by omega)
      rw [← e, ha.wt] at h3
      omega
    · omega
  have hl : a.length = b.length := by
    rcases Nat.le_total a.length b.length with h1 | h1
    · exact key ha hb h h1
    · exact (key hb ha h.symm h1).symm
  exact List.append_inj' h hl
theorem Qch (A : List (List Nd)) (a : List Nd) : (A ++ [a]).flatten = A.flatten ++ a := by simp
theorem Qen : ∀ {A B : List (List Nd)}, (∀ x ∈ A, One x) → (∀ x ∈ B, One x) → A.flatten = B.flatten → A = B := by
  intro A
  induction hn : A.length generalizing A with
  | zero =>
    intro B hA hB h
    have : A = [] := List.eq_nil_of_length_eq_zero hn
    subst this
    cases B with
    | nil => rfl
    | cons b B =>
      exfalso
      have h1 := (hB b (by simp)).ne
      simp only [List.flatten_nil, List.flatten_cons] at h
      have := congrArg List.length h
      simp only [List.length_nil, List.length_append] at this
      exact h1 (List.eq_nil_of_length_eq_zero (by omega))
  | succ n ih =>
    intro B hA hB h
    have hne : A ≠ [] := fun e => by simp [e] at hn
    obtain ⟨A', a, rfl⟩ : ∃ A' a, A = A' ++ [a] := ⟨_, _, (List.dropLast_concat_getLast hne).symm⟩
    have hb : B ≠ [] := by
      intro e
      subst e
      have h1 := (hA a (by simp)).ne
      simp only [Qch, List.flatten_nil, List.append_eq_nil_iff] at h
      exact h1 h.2
    obtain ⟨B', b, rfl⟩ : ∃ B' b, B = B' ++ [b] := ⟨_, _, (List.dropLast_concat_getLast hb).symm⟩
    rw [Qch, Qch] at h
    obtain ⟨h1, h2⟩ := (hA a (by simp)).suffix (hB b (by simp)) h
    have h3 := ih (A := A') (by simpa using hn) (fun x hx => hA x (by simp [hx])) (fun x hx => hB x (by simp [hx])) h1
    rw [h3, h2]
theorem Qzt : ∀ {A : List (List Nd)}, (∀ x ∈ A, One x) → ∃ S ys, Qag A.flatten A.flatten.length = some (S, ys) ∧ S.length = A.length := by
  intro A
  induction hn : A.length generalizing A with
  | zero =>
    intro _
    have : A = [] := List.eq_nil_of_length_eq_zero hn
    subst this
    exact ⟨[], [], rfl, rfl⟩
  | succ n ih =>
    intro hA
    have hne : A ≠ [] := fun e => by simp [e] at hn
    obtain ⟨A', a, rfl⟩ : ∃ A' a, A = A' ++ [a] := ⟨_, _, (List.dropLast_concat_getLast hne).symm⟩
    obtain ⟨S, ys, h1, h2⟩ := ih (A := A') (by simpa using hn) (fun x hx => hA x (by simp [hx]))
    obtain ⟨s, y, h3⟩ := hA a (by simp)
    have h4 := Qgb h1 h3
    rw [Qch, List.length_append, h4]
    exact ⟨_, _, rfl, by simp; simp at h2 hn; omega⟩
theorem One.join {A : List (List Nd)} {n : Nd} (hA : ∀ x ∈ A, One x) (hn : n.kids = (A.length : Int)) : One (A.flatten ++ [n]) := by
  obtain ⟨S, ys, h1, h2⟩ := Qzt hA
  have hst : step S A.flatten.length n.kids = some ([over S A.flatten.length], over S A.flatten.length) := by
    rw [hn, Qhs (by omega) (by omega)]
    have e : S.length - (A.length : Int).toNat = 0 := by omega
    rw [e]
    simp
  have h3 : Qag (A.flatten ++ [n]) A.flatten.length = some (S, ys) := by rw [Qff (Nat.le_refl _)]; exact h1
  refine ⟨over S A.flatten.length, ys ++ [over S A.flatten.length], ?_⟩
  have h4 := Qdm h3 (by simp) (S' := [over S A.flatten.length]) (s := over S A.flatten.length) (by
    rw [List.getElem_append_right (Nat.le_refl _)]
    simp only [Nat.sub_self, List.getElem_singleton]
    exact hst)
  rw [List.length_append]
  exact h4
theorem Qjl {t : List Nd} {S ys : List Sp} {n i : Nat} {s : Sp} (h : Qag t n = some (S, ys)) (hi : i < n) (hs : ys[i]? = some s) : One (span t s.fr i) := by
  obtain ⟨ys', h1⟩ := Jbr h i hi s hs
  have hle := Qee h
  refine ⟨⟨0, i - s.fr, s.dp⟩, ys', ?_⟩
  rw [Qdr t s.fr i (by omega)]
  exact h1
def Qas (θ : Int → List Nd) (n : Nd) : List Nd := if n.kind = 61 then θ n.num else [n]
def fill (θ : Int → List Nd) (a : List Nd) : List Nd := a.flatMap (Qas θ)
theorem Qaj (θ : Int → List Nd) (a b : List Nd) : fill θ (a ++ b) = fill θ a ++ fill θ b := by simp [fill]
theorem Qbl (θ : Int → List Nd) (A : List (List Nd)) : fill θ A.flatten = (A.map (fill θ)).flatten := by
  induction A with
  | nil => rfl
  | cons a A ih => rw [List.flatten_cons, Qaj, ih]; rfl
def metas (a : List Nd) : List Int := (a.filter (fun n => n.kind == 61)).map (fun n => n.num)
theorem Qau (a b : List Nd) : metas (a ++ b) = metas a ++ metas b := by simp [metas]
theorem Qeo {A : List (List Nd)} {x : Int} : x ∈ metas A.flatten ↔ ∃ a ∈ A, x ∈ metas a := by
  induction A with
  | nil => simp [metas]
  | cons a A ih => rw [List.flatten_cons, Qau, List.mem_append, ih]; simp
theorem Qbi {θ θ' : Int → List Nd} {a : List Nd} (h : ∀ x ∈ metas a, θ x = θ' x) : fill θ a = fill θ' a := by
  induction a with
  | nil => rfl
  | cons n a ih =>
    have e : ∀ θ, fill θ (n :: a) = Qas θ n ++ fill θ a := fun θ => by simp [fill]
    rw [e, e]
    have h1 : fill θ a = fill θ' a := ih (fun x hx => h x (by
      have : metas (n :: a) = metas [n] ++ metas a := Qau [n] a
      rw [this]; exact List.mem_append_right _ hx))
    rw [h1]
    congr 1
    unfold Qas
    by_cases hk : n.kind = 61
    · rw [if_pos hk, if_pos hk]
      exact h n.num (by simp [metas, hk])
    · rw [if_neg hk, if_neg hk]
def Leafy (a : List Nd) : Prop := ∀ n ∈ a, n.kind = 61 → n.kids = 0
theorem Leafy.sub {a : List Nd} (h : Leafy a) (f i : Nat) : Leafy (span a f i) := by
  intro n hn
  exact h n (List.mem_of_mem_take (List.mem_of_mem_drop hn))
theorem Jaq {θ : Int → List Nd} (hθ : ∀ x, One (θ x)) {a : List Nd} (hl : Leafy a) :
    ∀ {k : Nat} {S ys : List Sp}, Qag a k = some (S, ys) → ∃ S' ys', Qag (fill θ (a.take k)) (fill θ (a.take k)).length = some (S', ys') ∧ S'.length = S.length := by
  intro k
  induction k with
  | zero => intro S ys h; simp only [Qag, Option.some.injEq, Prod.mk.injEq] at h; obtain ⟨rfl, rfl⟩ := h; exact ⟨[], [], rfl, rfl⟩
  | succ k ih =>
    intro S' ys' h
    obtain ⟨S, ys, s, hk, ha, hs, rfl⟩ := Qcq h
    obtain ⟨h0, h1, rfl, _⟩ := Qdq hs
    obtain ⟨S1, y1, r1, l1⟩ := ih ha
    rw [List.take_succ_eq_append_getElem hk, Qaj]
    have e : fill θ [a[k]] = Qas θ a[k] := by simp [fill]
    rw [e]
    by_cases h61 : a[k].kind = 61
    · have hz := hl a[k] (List.getElem_mem hk) h61
      obtain ⟨s2, y2, r2⟩ := hθ a[k].num
      have e2 : Qas θ a[k] = θ a[k].num := by rw [Qas, if_pos h61]
      rw [e2, List.length_append, Qgb r1 r2]
      refine ⟨_, _, rfl, ?_⟩
      simp [hz]
      omega
    · have e2 : Qas θ a[k] = [a[k]] := by rw [Qas, if_neg h61]
      rw [e2]
      have r3 : Qag (fill θ (a.take k) ++ [a[k]]) (fill θ (a.take k)).length = some (S1, y1) := by rw [Qff (Nat.le_refl _)]; exact r1
      have hst := Qhs (S := S1) (i := (fill θ (a.take k)).length) (n := a[k].kids) h0 (by omega)
      have r4 := Qdm r3 (by simp) (by
        rw [List.getElem_append_right (Nat.le_refl _)]
        simp only [Nat.sub_self, List.getElem_singleton]
        exact hst)
      rw [List.length_append]
      refine ⟨_, _, r4, ?_⟩
      simp
      omega
theorem Qec {θ : Int → List Nd} (hθ : ∀ x, One (θ x)) {a : List Nd} (hl : Leafy a) (ha : One a) : One (fill θ a) := by
  obtain ⟨s, ys, h⟩ := ha
  obtain ⟨S', ys', h1, h2⟩ := Jaq hθ hl h
  rw [List.take_of_length_le (Nat.le_refl _)] at h1
  match S', h2 with
  | [s'], _ => exact ⟨s', ys', h1⟩
def nums (bs : List (Int × List Nd)) : List Int := bs.map Prod.fst
def Ext (θ : Int → List Nd) (bs : List (Int × List Nd)) : Prop := ∀ p ∈ bs, θ p.1 = p.2
structure MatchOk (bs : List (Int × List Nd)) (G T : List Nd) (bs' : List (Int × List Nd)) : Prop where
  pre : ∀ p ∈ bs, p ∈ bs'
  nodup : (nums bs').Nodup
  one : ∀ p ∈ bs', One p.2
  mem : ∀ x, x ∈ nums bs' ↔ x ∈ nums bs ∨ x ∈ metas G
  fills : ∀ θ, Ext θ bs' → fill θ G = T
  force : ∀ θ, (∀ x, One (θ x)) → Ext θ bs → fill θ G = T → Ext θ bs'
def MatchNo (bs : List (Int × List Nd)) (G T : List Nd) : Prop := ∀ θ, (∀ x, One (θ x)) → Ext θ bs → fill θ G ≠ T
theorem Qwo {bs : List (Int × List Nd)} {n : Nd} {T : List Nd} (hk : n.kind = 61) (hn : n.num ∉ nums bs) (hd : (nums bs).Nodup) (ho : ∀ p ∈ bs, One p.2) (hT : One T) : MatchOk bs [n] T (bs ++ [(n.num, T)]) := by
  have hf : ∀ θ, fill θ [n] = θ n.num := fun θ => by simp [fill, Qas, hk]
  refine ⟨fun p hp => by simp [hp], ?_, ?_, ?_, ?_, ?_⟩
  · simp only [nums, List.map_append, List.map_cons, List.map_nil]
    rw [List.nodup_append]
    refine ⟨hd, by simp, ?_⟩
    intro a ha b hb e
    simp at hb
    subst hb
    subst e
    exact hn ha
  · intro p hp
    rcases List.mem_append.1 hp with h | h
    · exact ho p h
    · simp at h; subst h; exact hT
  · intro x
    simp [nums, metas, hk]
  · intro θ h
    rw [hf]
    exact h (n.num, T) (by simp)
  · intro θ _ h1 h2 p hp
    rcases List.mem_append.1 hp with h | h
    · exact h1 p h
    · simp at h; subst h; rw [hf] at h2; exact h2
theorem Qwm {bs : List (Int × List Nd)} {n : Nd} {T : List Nd} (hk : n.kind = 61) (hd : (nums bs).Nodup) (ho : ∀ p ∈ bs, One p.2) (hm : (n.num, T) ∈ bs) : MatchOk bs [n] T bs := by
  have hf : ∀ θ, fill θ [n] = θ n.num := fun θ => by simp [fill, Qas, hk]
  refine ⟨fun p hp => hp, hd, ho, ?_, fun θ h => by rw [hf]; exact h _ hm, fun θ _ h _ => h⟩
  intro x
  constructor
  · exact Or.inl
  · rintro (h | h)
    · exact h
    · simp [metas, hk] at h
      subst h
      exact List.mem_map.2 ⟨_, hm, rfl⟩
theorem Qra {bs : List (Int × List Nd)} {n : Nd} {T U : List Nd} (hk : n.kind = 61) (hm : (n.num, U) ∈ bs) (hne : U ≠ T) : MatchNo bs [n] T := by
  have hf : ∀ θ, fill θ [n] = θ n.num := fun θ => by simp [fill, Qas, hk]
  intro θ _ h e
  rw [hf, h _ hm] at e
  exact hne e
theorem Qrc {bs : List (Int × List Nd)} {n n' : Nd} {A B : List Nd} (hk : n.kind ≠ 61) (hne : n ≠ n') : MatchNo bs (A ++ [n]) (B ++ [n']) := by
  intro θ _ _ e
  rw [Qaj] at e
  have hf : fill θ [n] = [n] := by simp [fill, Qas, hk]
  rw [hf] at e
  have := (List.append_inj' e rfl).2
  simp at this
  exact hne this
theorem Qwn {bs : List (Int × List Nd)} (hd : (nums bs).Nodup) (ho : ∀ p ∈ bs, One p.2) : MatchOk bs [] [] bs :=
  ⟨fun p hp => hp, hd, ho, fun x => by simp [metas], fun θ _ => rfl, fun θ _ h _ => h⟩
theorem MatchOk.step {bs bs1 bs2 : List (Int × List Nd)} {G T A B : List Nd} (h1 : MatchOk bs G T bs1) (h2 : MatchOk bs1 A B bs2) (hA : One A) (hl : Leafy A) (hB : One B) : MatchOk bs (G ++ A) (T ++ B) bs2 := by
  refine ⟨fun p hp => h2.pre p (h1.pre p hp), h2.nodup, h2.one, ?_, ?_, ?_⟩
  · intro x
    rw [h2.mem, h1.mem, Qau, List.mem_append, or_assoc]
  · intro θ h
    rw [Qaj, h2.fills θ h, h1.fills θ (fun p hp => h (p) (h2.pre p hp))]
  · intro θ hθ h e
    rw [Qaj] at e
    obtain ⟨e1, e2⟩ := (Qec hθ hl hA).suffix hB e
    exact h2.force θ hθ (h1.force θ hθ h e1) e2
theorem MatchOk.over {bs bs' : List (Int × List Nd)} {G T : List Nd} {n : Nd} (h : MatchOk bs G T bs') (hk : n.kind ≠ 61) : MatchOk bs (G ++ [n]) (T ++ [n]) bs' := by
  have hf : ∀ θ, fill θ [n] = [n] := fun θ => by simp [fill, Qas, hk]
  refine ⟨h.pre, h.nodup, h.one, ?_, ?_, ?_⟩
  · intro x
    have hm : metas [n] = [] := by simp [metas, hk]
    rw [h.mem, Qau, hm, List.append_nil]
  · intro θ hE
    rw [Qaj, hf, h.fills θ hE]
  · intro θ hθ hE e
    rw [Qaj, hf] at e
    exact h.force θ hθ hE (List.append_inj' e rfl).1
theorem MatchNo.kid {bs bs1 : List (Int × List Nd)} {A B : List (List Nd)} {n : Nd} {k : Nat} (hk : n.kind ≠ 61) (hA : ∀ a ∈ A, One a) (hl : ∀ a ∈ A, Leafy a) (hB : ∀ b ∈ B, One b) (hka : k < A.length) (hkb : k < B.length)
    (h1 : MatchOk bs (A.take k).flatten (B.take k).flatten bs1) (h2 : MatchNo bs1 A[k] B[k]) : MatchNo bs (A.flatten ++ [n]) (B.flatten ++ [n]) := by
  intro θ hθ hE e
  have hf : fill θ [n] = [n] := by simp [fill, Qas, hk]
  rw [Qaj, hf, Qbl] at e
  have e1 := (List.append_inj' e rfl).1
  have e2 : A.map (fill θ) = B := Qen (by
    intro x hx
    obtain ⟨a, ha, rfl⟩ := List.mem_map.1 hx
    exact Qec hθ (hl a ha) (hA a ha)) hB e1
  have e3 : fill θ A[k] = B[k] := by
    have : (A.map (fill θ))[k]'(by simpa using hka) = B[k] := by simp only [e2]
    rw [← this]
    simp
  refine h2 θ hθ (h1.force θ hθ hE ?_) e3
  rw [Qbl, List.map_take, e2]
theorem Qej {t : List Nd} {S ys : List Sp} {n i : Nat} {s : Sp} (h : Qag t n = some (S, ys)) (hi : i < n) (hs : ys[i]? = some s) (ht : i < t.length) :
    ∃ K, KidsAt t ys i K ∧ span t s.fr i = (Qae t K).flatten ++ [t[i]] ∧ (∀ a ∈ Qae t K, One a) := by
  obtain ⟨K, hK, ho⟩ := Qjb h i hi
  rw [ho] at hs
  simp only [Option.some.injEq] at hs
  subst hs
  have hle := Qee h
  have hc := Qms hK
  have hfi : frOf K i ≤ i := hc.le
  refine ⟨K, hK, ?_, ?_⟩
  · show span t (frOf K i) i = _
    rw [Qgz t (frOf K i) i ht hfi, Qnb hc (by omega)]
  · intro a ha
    obtain ⟨x, hx, rfl⟩ := List.mem_map.1 ha
    obtain ⟨r, hr, rfl⟩ := List.getElem_of_mem hx
    have hm := hK.mem r hr
    exact Qjl h (by omega) hm.1
theorem Jar {θ θ' : Int → List Nd} (hθ : ∀ x, One (θ x)) (hθ' : ∀ x, One (θ' x)) {t : List Nd} (hl : Leafy t) {S ys : List Sp} {n : Nat} (h : Qag t n = some (S, ys)) :
    ∀ i, i < n → ∀ s, ys[i]? = some s → fill θ (span t s.fr i) = fill θ' (span t s.fr i) → ∀ x ∈ metas (span t s.fr i), θ x = θ' x := by
  intro i
  induction i using Nat.strongRecOn with
  | ind i ih =>
    intro hi s hs e x hx
    have hle := Qee h
    have hit : i < t.length := by omega
    obtain ⟨K, hK, hsp, hO⟩ := Qej h hi hs hit
    rw [hsp] at e hx
    by_cases h61 : t[i].kind = 61
    · have hz := hl t[i] (List.getElem_mem hit) h61
      obtain ⟨_, hn⟩ := hK.num
      have hK0 : K = [] := List.eq_nil_of_length_eq_zero (by omega)
      subst hK0
      have hf : ∀ θ, fill θ [t[i]] = θ t[i].num := fun θ => by simp [fill, Qas, h61]
      simp only [Qae, List.map_nil, List.flatten_nil, List.nil_append] at e hx
      rw [hf, hf] at e
      simp [metas, h61] at hx
      subst hx
      exact e
    · have hf : ∀ θ, fill θ [t[i]] = [t[i]] := fun θ => by simp [fill, Qas, h61]
      rw [Qaj, Qaj, hf, hf, Qbl, Qbl] at e
      have e1 := (List.append_inj' e rfl).1
      have hL : ∀ a ∈ Qae t K, Leafy a := by
        intro a ha
        obtain ⟨y, hy, rfl⟩ := List.mem_map.1 ha
        exact hl.sub _ _
      have e2 : (Qae t K).map (fill θ) = (Qae t K).map (fill θ') := Qen (by
        intro y hy
        obtain ⟨a, ha, rfl⟩ := List.mem_map.1 hy
        exact Qec hθ (hL a ha) (hO a ha)) (by
        intro y hy
        obtain ⟨a, ha, rfl⟩ := List.mem_map.1 hy
        exact Qec hθ' (hL a ha) (hO a ha)) e1
      have hm : metas [t[i]] = [] := by simp [metas, h61]
      rw [Qau, hm, List.append_nil, Qeo] at hx
      obtain ⟨a, ha, hxa⟩ := hx
      have e3 : fill θ a = fill θ' a := List.map_inj_left.1 e2 a ha
      obtain ⟨y, hy, rfl⟩ := List.mem_map.1 ha
      obtain ⟨r, hr, rfl⟩ := List.getElem_of_mem hy
      have hmr := hK.mem r hr
      exact ih K[r].rt hmr.2.2 (by omega) K[r] hmr.1 e3 x hxa
def Up (xs : List Int) : Prop := xs.Pairwise (· < ·)
theorem Jbn {xs ys : List Int} (hx : Up xs) (hy : Up ys) (h : ∀ x, x ∈ xs ↔ x ∈ ys) : xs = ys := by
  induction xs generalizing ys with
  | nil =>
    cases ys with
    | nil => rfl
    | cons y ys => exact absurd ((h y).2 (by simp)) (by simp)
  | cons x xs ih =>
    cases ys with
    | nil => exact absurd ((h x).1 (by simp)) (by simp)
    | cons y ys =>
      unfold Up at hx hy
      rw [List.pairwise_cons] at hx hy
      have e : x = y := by
        have h1 := (h x).1 (by simp)
        have h2 := (h y).2 (by simp)
        rcases List.mem_cons.1 h1 with h1 | h1
        · exact h1
        · rcases List.mem_cons.1 h2 with h2 | h2
          · exact h2.symm
          · have := hx.1 y h2; have := hy.1 x h1; omega
      subst e
      rw [ih hx.2 hy.2 (fun z => ?_)]
      constructor
      · intro hz
        have h1 := (h z).1 (by simp [hz])
        rcases List.mem_cons.1 h1 with e | h1
        · have := hx.1 z hz; omega
        · exact h1
      · intro hz
        have h1 := (h z).2 (by simp [hz])
        rcases List.mem_cons.1 h1 with e | h1
        · have := hy.1 z hz; omega
        · exact h1
structure InstOk (g t : List Nd) (bs : List (Int × List Nd)) : Prop where
  up : Up (nums bs)
  mem : ∀ x, x ∈ nums bs ↔ x ∈ metas g
  one : ∀ p ∈ bs, One p.2
  fills : ∀ θ, Ext θ bs → fill θ g = t
def Jbj (g t : List Nd) : Prop := ∀ θ, (∀ x, One (θ x)) → fill θ g ≠ t
def pick (bs : List (Int × List Nd)) (x : Int) : List Nd := match bs.find? (fun p => p.1 == x) with
  | some p => p.2
  | none => [Nd.zero]
theorem Qzp {bs : List (Int × List Nd)} (h : ∀ p ∈ bs, One p.2) (x : Int) : One (pick bs x) := by
  unfold pick
  cases hf : bs.find? (fun p => p.1 == x) with
  | some p => exact h p (List.mem_of_find?_eq_some hf)
  | none => exact ⟨_, _, rfl⟩
theorem Qzq {bs : List (Int × List Nd)} (h : (nums bs).Nodup) : Ext (pick bs) bs := by
  intro p hp
  unfold pick
  induction bs with
  | nil => simp at hp
  | cons b bs ih =>
    simp only [nums, List.map_cons, List.nodup_cons] at h
    rcases List.mem_cons.1 hp with rfl | hp
    · simp
    · have hne : b.1 ≠ p.1 := fun e => h.1 (by rw [e]; exact List.mem_map.2 ⟨p, hp, rfl⟩)
      have hb : (b.1 == p.1) = false := by simpa using hne
      rw [List.find?_cons, hb]
      exact ih h.2 hp
theorem Qyu {xs : List Int} (h : Up xs) : xs.Nodup := List.Pairwise.imp (fun h => by omega) h
def EvF (σ : Nd → DT) (R : List Nd × DT → Prop) (x : List Nd × DT) : Prop :=
  (∃ (n : Nd), x = ([n], σ n) ∧ (n.kind = 61) ∧ (n.kids = 0)) ∨
  (∃ (n : Nd) (xss : List (List Nd)) (ds : List DT), x = (xss.flatten ++ [n], con n ds) ∧ (n.kind ≠ 61) ∧ (n.kids = (ds.length : Int)) ∧ (ds.length = xss.length) ∧ (∀ i (h1 : i < xss.length) (h2 : i < ds.length), R (xss[i], ds[i])))
structure Ev (σ : Nd → DT) (xs : List Nd) (d : DT) : Prop where
  of ::
  lfp : Lfp (EvF σ) (xs, d)
theorem Ev.grows (σ : Nd → DT) : Qkq (EvF σ) := by
  rintro R R' x h0 (⟨n, e0, hk, h0⟩ | ⟨n, xss, ds, e0, hk, hn, hl, h⟩)
  · exact .inl ⟨n, e0, hk, h0⟩
  · exact .inr (⟨n, xss, ds, e0, hk, hn, hl, fun i h1 h2 => h0 _ (h i h1 h2)⟩)
theorem Ev.leaf {σ : Nd → DT} (n : Nd) (hk : n.kind = 61) (h0 : n.kids = 0) : Ev σ ([n]) (σ n) :=
  ⟨Lfp.fold (Ev.grows σ) (.inl ⟨n, rfl, hk, h0⟩)⟩
theorem Ev.node {σ : Nd → DT} (n : Nd) (hk : n.kind ≠ 61) (xss : List (List Nd)) (ds : List DT) (hn : n.kids = (ds.length : Int)) (hl : ds.length = xss.length) (h : ∀ i (h1 : i < xss.length) (h2 : i < ds.length), Ev σ (xss[i]) (ds[i])) : Ev σ (xss.flatten ++ [n]) (con n ds) :=
  ⟨Lfp.fold (Ev.grows σ) (.inr (⟨n, xss, ds, rfl, hk, hn, hl, fun i h1 h2 => (h i h1 h2).lfp⟩))⟩
theorem Ev.elim {σ : Nd → DT} {motive : ∀ xs d, Ev σ xs d → Prop}
    (leaf : ∀ (n : Nd) (hk : n.kind = 61) (h0 : n.kids = 0), motive ([n]) (σ n) (Ev.leaf n hk h0))
    (node : ∀ (n : Nd) (hk : n.kind ≠ 61) (xss : List (List Nd)) (ds : List DT) (hn : n.kids = (ds.length : Int)) (hl : ds.length = xss.length) (h : ∀ i (h1 : i < xss.length) (h2 : i < ds.length), Ev σ (xss[i]) (ds[i])), (∀ i (h1 : i < xss.length) (h2 : i < ds.length), motive (xss[i]) (ds[i]) (h i h1 h2)) → motive (xss.flatten ++ [n]) (con n ds) (Ev.node n hk xss ds hn hl h))
    {xs : List Nd} {d : DT} (h : Ev σ xs d) : motive xs d h := by
  have key : ∀ h, motive (xs, d).1 (xs, d).2 h := Lfp.ind (Ev.grows σ) (p := fun x => ∀ h, motive x.1 x.2 h) (by
    rintro x (⟨n, e0, hk, h0⟩ | ⟨n, xss, ds, e0, hk, hn, hl, h⟩) h9
    · subst e0; exact leaf n hk h0
    · subst e0; exact node n hk xss ds hn hl (fun i h1 h2 => ⟨(h i h1 h2).1⟩) (fun i h1 h2 => (h i h1 h2).2 _)) h.lfp
  exact key h
theorem Ev.inv {σ : Nd → DT} {motive : ∀ xs d, Ev σ xs d → Prop}
    (leaf : ∀ (n : Nd) (hk : n.kind = 61) (h0 : n.kids = 0), motive ([n]) (σ n) (Ev.leaf n hk h0))
    (node : ∀ (n : Nd) (hk : n.kind ≠ 61) (xss : List (List Nd)) (ds : List DT) (hn : n.kids = (ds.length : Int)) (hl : ds.length = xss.length) (h : ∀ i (h1 : i < xss.length) (h2 : i < ds.length), Ev σ (xss[i]) (ds[i])), motive (xss.flatten ++ [n]) (con n ds) (Ev.node n hk xss ds hn hl h))
    {xs : List Nd} {d : DT} (h : Ev σ xs d) : motive xs d h := by
  induction h using Ev.elim with
  | leaf n hk h0 => exact leaf n hk h0
  | node n hk xss ds hn hl h _ => exact node n hk xss ds hn hl h
def Qbh (n : Nd) : DT := con n []
theorem Ev.one {σ : Nd → DT} {xs : List Nd} {d : DT} (h : Ev σ xs d) : One xs := by
  induction h using Ev.elim with
  | leaf n hk h0 =>
    have := One.join (A := []) (n := n) (by simp) (by simpa using h0)
    simpa using this
  | node n hk xss ds hn hl h ih =>
    refine One.join (fun x hx => ?_) (by rw [hn, hl])
    obtain ⟨i, hi, rfl⟩ := List.getElem_of_mem hx
    exact ih i hi (by omega)
theorem Ev.last {σ : Nd → DT} {xs : List Nd} {d : DT} (h : Ev σ xs d) : (∃ n : Nd, xs = [n] ∧ (n.kind = 61 ∧ n.kids = 0) ∧ d = σ n) ∨ ∃ (n : Nd) (xss : List (List Nd)) (ds : List DT), n.kind ≠ 61 ∧ n.kids = (ds.length : Int) ∧ ds.length = xss.length ∧ (∀ i (h1 : i < xss.length) (h2 : i < ds.length), Ev σ xss[i] ds[i]) ∧ xs = xss.flatten ++ [n] ∧ d = con n ds := by
  cases h using Ev.inv with
  | leaf n hk h0 => exact .inl ⟨n, rfl, ⟨hk, h0⟩, rfl⟩
  | node n hk xss ds hn hl h => exact .inr ⟨n, xss, ds, hk, hn, hl, h, rfl, rfl⟩
theorem Qmy {σ : Nd → DT} {xss : List (List Nd)} {ds : List DT} (hl : ds.length = xss.length) (h : ∀ i (h1 : i < xss.length) (h2 : i < ds.length), Ev σ xss[i] ds[i]) : ∀ x ∈ xss, One x := by
  intro x hx
  obtain ⟨i, hi, rfl⟩ := List.getElem_of_mem hx
  exact (h i hi (by omega)).one
theorem Ev.fun {σ : Nd → DT} {xs : List Nd} {d : DT} (h : Ev σ xs d) : ∀ {d' : DT}, Ev σ xs d' → d = d' := by
  induction h using Ev.elim with
  | leaf n hk h0 =>
    intro d' h'
    rcases h'.last with ⟨m, e, _, rfl⟩ | ⟨m, xss, ds, hm, _, _, _, e, rfl⟩
    · simp at e; subst e; rfl
    · have := (List.append_inj' (s₁ := []) e rfl).2
      simp at this
      subst this
      exact absurd hk hm
  | node n hk xss ds hn hl h ih =>
    intro d' h'
    rcases h'.last with ⟨m, e, ⟨hm, _⟩, rfl⟩ | ⟨m, yss, es, hm, hn', hl', h2, e, rfl⟩
    · have := (List.append_inj' (s₂ := []) e rfl).2
      simp at this
      subst this
      exact absurd hm hk
    · obtain ⟨e1, e2⟩ := List.append_inj' e rfl
      simp at e2
      subst e2
      have e3 := Qen (Qmy hl h) (Qmy hl' h2) e1
      subst e3
      have : ds = es := by
        apply List.ext_getElem (by omega)
        intro i h3 h4
        exact ih i (by omega) h3 (h2 i (by omega) h4)
      rw [this]
theorem Qsz {xs : List Nd} {d : DT} (h : Ev Qbh xs d) : ∃ k, d [] = some k := by
  rcases h.last with ⟨n, _, _, rfl⟩ | ⟨n, _, ds, _, _, _, _, _, rfl⟩
  · exact ⟨n, rfl⟩
  · exact ⟨n, rfl⟩
theorem Qmx {xss : List (List Nd)} {ds : List DT} (hl : ds.length = xss.length) (h : ∀ i (h1 : i < xss.length) (h2 : i < ds.length), Ev Qbh xss[i] ds[i]) : ∀ d ∈ ds, ∃ k, d [] = some k := by
  intro d hd
  obtain ⟨i, hi, rfl⟩ := List.getElem_of_mem hd
  exact Qsz (h i (by omega) hi)
theorem Ev.self {xs : List Nd} {d : DT} (h : Ev Qbh xs d) : ∀ {ys : List Nd}, Ev Qbh ys d → xs = ys := by
  induction h using Ev.elim with
  | leaf n hk h0 =>
    intro ys h'
    rcases h'.last with ⟨m, rfl, _, e⟩ | ⟨m, yss, es, hm, _, _, h2, rfl, e⟩
    · rw [Qfg e]
    · have := Qfg e
      subst this
      exact absurd hk hm
  | node n hk xss ds hn hl h ih =>
    intro ys h'
    rcases h'.last with ⟨m, rfl, ⟨hm, _⟩, e⟩ | ⟨m, yss, es, hm, hn', hl', h2, rfl, e⟩
    · have := Qfg e
      subst this
      exact absurd hm hk
    · have hlE := Qna e (Qmx hl h) (Qmx hl' h2)
      have e1 := Qfg e
      subst e1
      have e2 := Qfc e hlE
      subst e2
      have : xss = yss := by
        apply List.ext_getElem (by omega)
        intro i h3 h4
        exact ih i h3 (by omega) (h2 i h4 (by omega))
      rw [this]
theorem Ev.kids {n : Nd} {ds : List DT} {xs : List Nd} (h : Ev Qbh xs (con n ds)) (hr : ∀ d ∈ ds, ∃ k, d [] = some k) : ∃ xss : List (List Nd), xss.length = ds.length ∧ (∀ i (h1 : i < xss.length) (h2 : i < ds.length), Ev Qbh xss[i] ds[i]) ∧ xs = xss.flatten ++ [n] ∧ n.kids = (ds.length : Int) := by
  rcases h.last with ⟨m, rfl, ⟨hm, hm0⟩, e⟩ | ⟨m, yss, es, hm, hn', hl', h2, rfl, e⟩
  · have e1 := Qfg e
    subst e1
    have hl := Qna e hr (by simp)
    have : ds = [] := List.eq_nil_of_length_eq_zero (by simpa using hl)
    subst this
    exact ⟨[], rfl, by simp, by simp, by simpa using hm0⟩
  · have e1 := Qfg e
    subst e1
    have hl := Qna e hr (Qmx hl' h2)
    have e2 := Qfc e hl
    subst e2
    exact ⟨yss, by omega, h2, rfl, hn'⟩
theorem Ev.back {σ : Nd → DT} {g : List Nd} {d : DT} (h : Ev σ g d) : ∀ {t : List Nd}, Ev Qbh t d → (∀ n ∈ g, n.kind = 61 → ∃ xs, Ev Qbh xs (σ n)) ∧ ∀ ρ : Int → List Nd, (∀ n ∈ g, n.kind = 61 → Ev Qbh (ρ n.num) (σ n)) → fill ρ g = t := by
  induction h using Ev.elim with
  | leaf n hk h0 =>
    intro t ht
    refine ⟨fun m hm _ => ?_, fun ρ hρ => ?_⟩
    · simp at hm; subst hm; exact ⟨t, ht⟩
    · have h1 := hρ n (by simp) hk
      simp only [fill, Qas, List.flatMap_cons, List.flatMap_nil, hk, if_true, List.append_nil]
      exact h1.self ht
  | node n hk xss ds hn hl h ih =>
    intro t ht
    rcases ht.last with ⟨m, rfl, ⟨hm, _⟩, e⟩ | ⟨m, yss, es, hm, hn', hl', h2, rfl, e⟩
    · have := Qfg e
      subst this
      exact absurd hm hk
    · have e1 := Qfg e
      subst e1
      have hlE : ds.length = es.length := by omega
      have e2 := Qfc e hlE
      subst e2
      refine ⟨fun m hm hm61 => ?_, fun ρ hρ => ?_⟩
      · rcases List.mem_append.1 hm with hm | hm
        · obtain ⟨a, ha, hma⟩ := List.mem_flatten.1 hm
          obtain ⟨i, hi, rfl⟩ := List.getElem_of_mem ha
          exact (ih i hi (by omega) (h2 i (by omega) (by omega))).1 m hma hm61
        · simp at hm; subst hm; exact absurd hm61 hk
      · rw [Qaj, Qbl]
        have e3 : fill ρ [n] = [n] := by simp [fill, Qas, hk]
        rw [e3]
        congr 2
        apply List.ext_getElem (by simp; omega)
        intro i h3 h4
        simp only [List.getElem_map]
        have hi : i < xss.length := by simpa using h3
        refine (ih i hi (by omega) (h2 i h4 (by omega))).2 ρ (fun m hm hm61 => ?_)
        exact hρ m (List.mem_append_left _ (List.mem_flatten.2 ⟨_, List.getElem_mem hi, hm⟩)) hm61
theorem Ev.forth {σ : Nd → DT} {g : List Nd} {d : DT} (h : Ev σ g d) {ρ : Int → List Nd} (hρ : ∀ n ∈ g, n.kind = 61 → Ev Qbh (ρ n.num) (σ n)) : Ev Qbh (fill ρ g) d := by
  induction h using Ev.elim with
  | leaf n hk h0 =>
    have h1 := hρ n (by simp) hk
    simp only [fill, Qas, List.flatMap_cons, List.flatMap_nil, hk, if_true, List.append_nil]
    exact h1
  | node n hk xss ds hn hl h ih =>
    rw [Qaj, Qbl]
    have e3 : fill ρ [n] = [n] := by simp [fill, Qas, hk]
    rw [e3]
    refine Ev.node n hk _ ds hn (by simp [hl]) (fun i h1 h2 => ?_)
    simp only [List.getElem_map]
    have hi : i < xss.length := by simpa using h1
    exact ih i hi h2 (fun m hm hm61 => hρ m (List.mem_append_left _ (List.mem_flatten.2 ⟨_, List.getElem_mem hi, hm⟩)) hm61)
theorem Ev.asSelf {σ : Nd → DT} {t : List Nd} {d : DT} (h : Ev σ t d) (hσ : ∀ n ∈ t, n.kind = 61 → σ n = Qbh n) : Ev Qbh t d := by
  induction h using Ev.elim with
  | leaf n hk h0 =>
    rw [hσ n (by simp) hk]
    exact Ev.leaf n hk h0
  | node n hk xss ds hn hl h ih =>
    refine Ev.node n hk xss ds hn hl (fun i h1 h2 => ih i h1 h2 (fun m hm hm61 => hσ m (List.mem_append_left _ (List.mem_flatten.2 ⟨_, List.getElem_mem h1, hm⟩)) hm61))
theorem Jck (σ : Nd → DT) {t : List Nd} (hl : Leafy t) {S ys : List Sp} {n : Nat} (h : Qag t n = some (S, ys)) : ∀ i, i < n → ∀ s, ys[i]? = some s → ∃ d, Ev σ (span t s.fr i) d := by
  intro i
  induction i using Nat.strongRecOn with
  | ind i ih =>
    intro hi s hs
    have hle := Qee h
    have hit : i < t.length := by omega
    obtain ⟨K, hK, hsp, hO⟩ := Qej h hi hs hit
    obtain ⟨_, hn⟩ := hK.num
    rw [hsp]
    by_cases h61 : t[i].kind = 61
    · have hz := hl t[i] (List.getElem_mem hit) h61
      have hK0 : K = [] := List.eq_nil_of_length_eq_zero (by omega)
      subst hK0
      exact ⟨_, by simpa [Qae] using Ev.leaf (σ := σ) t[i] h61 hz⟩
    · have hk : ∀ r, ∃ d, ∀ hr : r < K.length, Ev σ (span t K[r].fr K[r].rt) d := by
        intro r
        by_cases hr : r < K.length
        · have hm := hK.mem r hr
          obtain ⟨d, hd⟩ := ih K[r].rt hm.2.2 (by omega) K[r] hm.1
          exact ⟨d, fun _ => hd⟩
        · exact ⟨fun _ => none, fun h => absurd h hr⟩
      obtain ⟨F, hF⟩ := Classical.axiomOfChoice hk
      refine ⟨con t[i] ((List.range K.length).map F), Ev.node t[i] h61 (Qae t K) _ (by simpa using hn) (by simp [Qae]) (fun r h1 h2 => ?_)⟩
      have hr : r < K.length := by simpa using h2
      simp only [Qae, List.getElem_map, List.getElem_range]
      exact hF r hr
theorem Ev.cut {σ : Nd → DT} {g : List Nd} {d : DT} (h : Ev σ g d) {ρ : Int → List Nd} (hρ : ∀ x, One (ρ x)) : ∀ {D : DT}, Ev Qbh (fill ρ g) D → ∀ n ∈ g, n.kind = 61 → ∃ e, Ev Qbh (ρ n.num) e := by
  induction h using Ev.elim with
  | leaf n hk h0 =>
    intro D hD m hm _
    simp at hm
    subst hm
    have e : fill ρ [m] = ρ m.num := by simp [fill, Qas, hk]
    rw [e] at hD
    exact ⟨D, hD⟩
  | node n hk xss ds hn hl h ih =>
    intro D hD m hm hm61
    have e3 : fill ρ [n] = [n] := by simp [fill, Qas, hk]
    rw [Qaj, Qbl, e3] at hD
    have hO := Qmy hl h
    have hL : ∀ i (h1 : i < xss.length), Leafy xss[i] := by
      have key : ∀ {xs : List Nd} {d : DT}, Ev σ xs d → Leafy xs := by
        intro xs d hx
        induction hx using Ev.elim with
        | leaf n hk h0 => intro m hm _; simp at hm; subst hm; exact h0
        | node n hk yss es hn hl h ih =>
          intro m hm hm61
          rcases List.mem_append.1 hm with hm | hm
          · obtain ⟨a, ha, hma⟩ := List.mem_flatten.1 hm
            obtain ⟨i, hi, rfl⟩ := List.getElem_of_mem ha
            exact ih i hi (by omega) m hma hm61
          · simp at hm; subst hm; exact absurd hm61 hk
      exact fun i h1 => key (h i h1 (by omega))
    rcases hD.last with ⟨q, e, ⟨hq, _⟩, _⟩ | ⟨q, yss, es, hq, hn', hl', h2, e, _⟩
    · have := (List.append_inj' (s₂ := []) e rfl).2
      simp at this
      subst this
      exact absurd hq hk
    · obtain ⟨e1, e2⟩ := List.append_inj' e rfl
      have e4 := Qen (A := xss.map (fill ρ)) (by
        intro y hy
        obtain ⟨a, ha, rfl⟩ := List.mem_map.1 hy
        obtain ⟨i, hi, rfl⟩ := List.getElem_of_mem ha
        exact Qec hρ (hL i hi) (hO _ (List.getElem_mem hi))) (Qmy hl' h2) e1
      rcases List.mem_append.1 hm with hm | hm
      · obtain ⟨a, ha, hma⟩ := List.mem_flatten.1 hm
        obtain ⟨i, hi, rfl⟩ := List.getElem_of_mem ha
        have hi2 : i < yss.length := by rw [← e4]; simpa using hi
        have e5 : yss[i] = fill ρ xss[i] := by
          have : yss[i] = (xss.map (fill ρ))[i]'(by simpa using hi) := by simp only [e4]
          rw [this]
          simp
        have h9 := h2 i hi2 (by omega)
        rw [e5] at h9
        exact ih i hi (by omega) h9 m hma hm61
      · simp at hm; subst hm; exact absurd hm61 hk
end Go.Proofs.YtoiiibplkhedcaaGreatDoor
