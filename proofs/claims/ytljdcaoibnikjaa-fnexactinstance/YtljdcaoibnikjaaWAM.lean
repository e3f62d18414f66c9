import Derived.Test.YtljdcaoibnikjaaOne
import Derived.Test.YtljdcaoibnikjaaProg
import Derived.Test.YtljdcaoibnikjaaWAC
import Derived.Deep.Light
namespace Go.Proofs.Ytljdcaoibnikjaa

def nums (bs : List (Int × List Nd)) : List Int := bs.map Prod.fst

/-- A filling that gives what the binds say. -/
def Ext (θ : Int → List Nd) (bs : List (Int × List Nd)) : Prop := ∀ p ∈ bs, θ p.1 = p.2

/-- From binds bs on, G matches T by the binds bs'. -/
structure MatchOk (bs : List (Int × List Nd)) (G T : List Nd) (bs' : List (Int × List Nd)) : Prop where
  pre : ∀ p ∈ bs, p ∈ bs'
  nodup : (nums bs').Nodup
  one : ∀ p ∈ bs', One p.2
  mem : ∀ x, x ∈ nums bs' ↔ x ∈ nums bs ∨ x ∈ metas G
  fills : ∀ θ, Ext θ bs' → fill θ G = T
  force : ∀ θ, (∀ x, One (θ x)) → Ext θ bs → fill θ G = T → Ext θ bs'

def MatchNo (bs : List (Int × List Nd)) (G T : List Nd) : Prop := ∀ θ, (∀ x, One (θ x)) → Ext θ bs → fill θ G ≠ T

theorem match_new {bs : List (Int × List Nd)} {n : Nd} {T : List Nd} (hk : n.kind = 61) (hn : n.num ∉ nums bs) (hd : (nums bs).Nodup) (ho : ∀ p ∈ bs, One p.2) (hT : One T) : MatchOk bs [n] T (bs ++ [(n.num, T)]) := by
  have hf : ∀ θ, fill θ [n] = θ n.num := fun θ => by simp [fill, fillN, hk]
  refine ⟨fun p hp => by simp [hp], ?_, ?_, ?_, ?_, ?_⟩
  · simp only [nums, List.map_append, List.map_cons, List.map_nil]
    rw [List.nodup_append]
    refine ⟨hd, by simp, ?_⟩
    intro a ha b hb e
    simp at hb
    subst hb
    subst e
    exact hn ha
  · intro p hp
    rcases List.mem_append.1 hp with h | h
    · exact ho p h
    · simp at h; subst h; exact hT
  · intro x
    simp [nums, metas, hk]
  · intro θ h
    rw [hf]
    exact h (n.num, T) (by simp)
  · intro θ _ h1 h2 p hp
    rcases List.mem_append.1 hp with h | h
    · exact h1 p h
    · simp at h; subst h; rw [hf] at h2; exact h2

theorem match_old {bs : List (Int × List Nd)} {n : Nd} {T : List Nd} (hk : n.kind = 61) (hd : (nums bs).Nodup) (ho : ∀ p ∈ bs, One p.2) (hm : (n.num, T) ∈ bs) : MatchOk bs [n] T bs := by
  have hf : ∀ θ, fill θ [n] = θ n.num := fun θ => by simp [fill, fillN, hk]
  refine ⟨fun p hp => hp, hd, ho, ?_, fun θ h => by rw [hf]; exact h _ hm, fun θ _ h _ => h⟩
  intro x
  constructor
  · exact Or.inl
  · rintro (h | h)
    · exact h
    · simp [metas, hk] at h
      subst h
      exact List.mem_map.2 ⟨_, hm, rfl⟩

theorem match_other {bs : List (Int × List Nd)} {n : Nd} {T U : List Nd} (hk : n.kind = 61) (hm : (n.num, U) ∈ bs) (hne : U ≠ T) : MatchNo bs [n] T := by
  have hf : ∀ θ, fill θ [n] = θ n.num := fun θ => by simp [fill, fillN, hk]
  intro θ _ h e
  rw [hf, h _ hm] at e
  exact hne e

theorem match_clash {bs : List (Int × List Nd)} {n n' : Nd} {A B : List Nd} (hk : n.kind ≠ 61) (hne : n ≠ n') : MatchNo bs (A ++ [n]) (B ++ [n']) := by
  intro θ _ _ e
  rw [fill_append] at e
  have hf : fill θ [n] = [n] := by simp [fill, fillN, hk]
  rw [hf] at e
  have := (List.append_inj' e rfl).2
  simp at this
  exact hne this

theorem match_nil {bs : List (Int × List Nd)} (hd : (nums bs).Nodup) (ho : ∀ p ∈ bs, One p.2) : MatchOk bs [] [] bs :=
  ⟨fun p hp => hp, hd, ho, fun x => by simp [metas], fun θ _ => rfl, fun θ _ h _ => h⟩

theorem MatchOk.step {bs bs1 bs2 : List (Int × List Nd)} {G T A B : List Nd} (h1 : MatchOk bs G T bs1) (h2 : MatchOk bs1 A B bs2) (hA : One A) (hl : Leafy A) (hB : One B) : MatchOk bs (G ++ A) (T ++ B) bs2 := by
  refine ⟨fun p hp => h2.pre p (h1.pre p hp), h2.nodup, h2.one, ?_, ?_, ?_⟩
  · intro x
    rw [h2.mem, h1.mem, metas_append, List.mem_append, or_assoc]
  · intro θ h
    rw [fill_append, h2.fills θ h, h1.fills θ (fun p hp => h (p) (h2.pre p hp))]
  · intro θ hθ h e
    rw [fill_append] at e
    obtain ⟨e1, e2⟩ := (fill_one hθ hl hA).suffix hB e
    exact h2.force θ hθ (h1.force θ hθ h e1) e2

theorem MatchOk.over {bs bs' : List (Int × List Nd)} {G T : List Nd} {n : Nd} (h : MatchOk bs G T bs') (hk : n.kind ≠ 61) : MatchOk bs (G ++ [n]) (T ++ [n]) bs' := by
  have hf : ∀ θ, fill θ [n] = [n] := fun θ => by simp [fill, fillN, hk]
  refine ⟨h.pre, h.nodup, h.one, ?_, ?_, ?_⟩
  · intro x
    have hm : metas [n] = [] := by simp [metas, hk]
    rw [h.mem, metas_append, hm, List.append_nil]
  · intro θ hE
    rw [fill_append, hf, h.fills θ hE]
  · intro θ hθ hE e
    rw [fill_append, hf] at e
    exact h.force θ hθ hE (List.append_inj' e rfl).1

/-- A kid that can't be matched: the whole can't. -/
theorem MatchNo.kid {bs bs1 : List (Int × List Nd)} {A B : List (List Nd)} {n : Nd} {k : Nat} (hk : n.kind ≠ 61) (hA : ∀ a ∈ A, One a) (hl : ∀ a ∈ A, Leafy a) (hB : ∀ b ∈ B, One b) (hka : k < A.length) (hkb : k < B.length)
    (h1 : MatchOk bs (A.take k).flatten (B.take k).flatten bs1) (h2 : MatchNo bs1 A[k] B[k]) : MatchNo bs (A.flatten ++ [n]) (B.flatten ++ [n]) := by
  intro θ hθ hE e
  have hf : fill θ [n] = [n] := by simp [fill, fillN, hk]
  rw [fill_append, hf, fill_flatten] at e
  have e1 := (List.append_inj' e rfl).1
  have e2 : A.map (fill θ) = B := ones_same (by
    intro x hx
    obtain ⟨a, ha, rfl⟩ := List.mem_map.1 hx
    exact fill_one hθ (hl a ha) (hA a ha)) hB e1
  have e3 : fill θ A[k] = B[k] := by
    have : (A.map (fill θ))[k]'(by simpa using hka) = B[k] := by simp only [e2]
    rw [← this]
    simp
  refine h2 θ hθ (h1.force θ hθ hE ?_) e3
  rw [fill_flatten, List.map_take, e2]

/-- A term's nodes: its kids', and its root. -/
theorem span_kids {t : List Nd} {S ys : List Sp} {n i : Nat} {s : Sp} (h : after t n = some (S, ys)) (hi : i < n) (hs : ys[i]? = some s) (ht : i < t.length) :
    ∃ K, KidsAt t ys i K ∧ span t s.fr i = (kidsIn t K).flatten ++ [t[i]] ∧ (∀ a ∈ kidsIn t K, One a) := by
  obtain ⟨K, hK, ho⟩ := kids_at2 h i hi
  rw [ho] at hs
  simp only [Option.some.injEq] at hs
  subst hs
  have hle := after_le h
  have hc := kids_con hK
  have hfi : frOf K i ≤ i := hc.le
  refine ⟨K, hK, ?_, ?_⟩
  · show span t (frOf K i) i = _
    rw [span_snoc t (frOf K i) i ht hfi, con_flat hc (by omega)]
  · intro a ha
    obtain ⟨x, hx, rfl⟩ := List.mem_map.1 ha
    obtain ⟨r, hr, rfl⟩ := List.getElem_of_mem hx
    have hm := hK.mem r hr
    exact sub_one h (by omega) hm.1

/-- Two fillings of one term that are the same agree at its unknowns. -/
theorem fill_inj {θ θ' : Int → List Nd} (hθ : ∀ x, One (θ x)) (hθ' : ∀ x, One (θ' x)) {t : List Nd} (hl : Leafy t) {S ys : List Sp} {n : Nat} (h : after t n = some (S, ys)) :
    ∀ i, i < n → ∀ s, ys[i]? = some s → fill θ (span t s.fr i) = fill θ' (span t s.fr i) → ∀ x ∈ metas (span t s.fr i), θ x = θ' x := by
  intro i
  induction i using Nat.strongRecOn with
  | ind i ih =>
    intro hi s hs e x hx
    have hle := after_le h
    have hit : i < t.length := by omega
    obtain ⟨K, hK, hsp, hO⟩ := span_kids h hi hs hit
    rw [hsp] at e hx
    by_cases h61 : t[i].kind = 61
    · have hz := hl t[i] (List.getElem_mem hit) h61
      obtain ⟨_, hn⟩ := hK.num
      have hK0 : K = [] := List.eq_nil_of_length_eq_zero (by omega)
      subst hK0
      have hf : ∀ θ, fill θ [t[i]] = θ t[i].num := fun θ => by simp [fill, fillN, h61]
      simp only [kidsIn, List.map_nil, List.flatten_nil, List.nil_append] at e hx
      rw [hf, hf] at e
      simp [metas, h61] at hx
      subst hx
      exact e
    · have hf : ∀ θ, fill θ [t[i]] = [t[i]] := fun θ => by simp [fill, fillN, h61]
      rw [fill_append, fill_append, hf, hf, fill_flatten, fill_flatten] at e
      have e1 := (List.append_inj' e rfl).1
      have hL : ∀ a ∈ kidsIn t K, Leafy a := by
        intro a ha
        obtain ⟨y, hy, rfl⟩ := List.mem_map.1 ha
        exact hl.sub _ _
      have e2 : (kidsIn t K).map (fill θ) = (kidsIn t K).map (fill θ') := ones_same (by
        intro y hy
        obtain ⟨a, ha, rfl⟩ := List.mem_map.1 hy
        exact fill_one hθ (hL a ha) (hO a ha)) (by
        intro y hy
        obtain ⟨a, ha, rfl⟩ := List.mem_map.1 hy
        exact fill_one hθ' (hL a ha) (hO a ha)) e1
      have hm : metas [t[i]] = [] := by simp [metas, h61]
      rw [metas_append, hm, List.append_nil, metas_flatten_mem] at hx
      obtain ⟨a, ha, hxa⟩ := hx
      have e3 : fill θ a = fill θ' a := List.map_inj_left.1 e2 a ha
      obtain ⟨y, hy, rfl⟩ := List.mem_map.1 ha
      obtain ⟨r, hr, rfl⟩ := List.getElem_of_mem hy
      have hmr := hK.mem r hr
      exact ih K[r].rt hmr.2.2 (by omega) K[r] hmr.1 e3 x hxa

/-- Rising, each once. -/
def Up (xs : List Int) : Prop := xs.Pairwise (· < ·)

theorem up_same {xs ys : List Int} (hx : Up xs) (hy : Up ys) (h : ∀ x, x ∈ xs ↔ x ∈ ys) : xs = ys := by
  induction xs generalizing ys with
  | nil =>
    cases ys with
    | nil => rfl
    | cons y ys => exact absurd ((h y).2 (by simp)) (by simp)
  | cons x xs ih =>
    cases ys with
    | nil => exact absurd ((h x).1 (by simp)) (by simp)
    | cons y ys =>
      unfold Up at hx hy
      rw [List.pairwise_cons] at hx hy
      have e : x = y := by
        have h1 := (h x).1 (by simp)
        have h2 := (h y).2 (by simp)
        rcases List.mem_cons.1 h1 with h1 | h1
        · exact h1
        · rcases List.mem_cons.1 h2 with h2 | h2
          · exact h2.symm
          · have := hx.1 y h2; have := hy.1 x h1; omega
      subst e
      rw [ih hx.2 hy.2 (fun z => ?_)]
      constructor
      · intro hz
        have h1 := (h z).1 (by simp [hz])
        rcases List.mem_cons.1 h1 with e | h1
        · have := hx.1 z hz; omega
        · exact h1
      · intro hz
        have h1 := (h z).2 (by simp [hz])
        rcases List.mem_cons.1 h1 with e | h1
        · have := hy.1 z hz; omega
        · exact h1

/-- What Instance's binds are. -/
structure InstOk (g t : List Nd) (bs : List (Int × List Nd)) : Prop where
  up : Up (nums bs)
  mem : ∀ x, x ∈ nums bs ↔ x ∈ metas g
  one : ∀ p ∈ bs, One p.2
  fills : ∀ θ, Ext θ bs → fill θ g = t

def InstNo (g t : List Nd) : Prop := ∀ θ, (∀ x, One (θ x)) → fill θ g ≠ t

/-- The filling that binds say; a leaf beyond them. -/
def pick (bs : List (Int × List Nd)) (x : Int) : List Nd := match bs.find? (fun p => p.1 == x) with
  | some p => p.2
  | none => [Nd.zero]

theorem pick_one {bs : List (Int × List Nd)} (h : ∀ p ∈ bs, One p.2) (x : Int) : One (pick bs x) := by
  unfold pick
  cases hf : bs.find? (fun p => p.1 == x) with
  | some p => exact h p (List.mem_of_find?_eq_some hf)
  | none => exact ⟨_, _, rfl⟩

theorem pick_ext {bs : List (Int × List Nd)} (h : (nums bs).Nodup) : Ext (pick bs) bs := by
  intro p hp
  unfold pick
  induction bs with
  | nil => simp at hp
  | cons b bs ih =>
    simp only [nums, List.map_cons, List.nodup_cons] at h
    rcases List.mem_cons.1 hp with rfl | hp
    · simp
    · have hne : b.1 ≠ p.1 := fun e => h.1 (by rw [e]; exact List.mem_map.2 ⟨p, hp, rfl⟩)
      have hb : (b.1 == p.1) = false := by simpa using hne
      rw [List.find?_cons, hb]
      exact ih h.2 hp

theorem up_nodup {xs : List Int} (h : Up xs) : xs.Nodup := List.Pairwise.imp (fun h => by omega) h

theorem bs_of_pick {bs : List (Int × List Nd)} (h : (nums bs).Nodup) : bs = (nums bs).map (fun x => (x, pick bs x)) := by
  have he := pick_ext h
  have key : ∀ (cs : List (Int × List Nd)), (∀ p ∈ cs, pick bs p.1 = p.2) → cs = (nums cs).map (fun x => (x, pick bs x)) := by
    intro cs
    induction cs with
    | nil => intro _; rfl
    | cons c cs ih =>
      intro hc
      simp only [nums, List.map_cons]
      rw [hc c (by simp), ← nums, ← ih (fun p hp => hc p (by simp [hp]))]
  exact key bs he

theorem inst_same {g t : List Nd} {bs bs' : List (Int × List Nd)} (hl : Leafy g) {S ys : List Sp} {n : Nat} {s : Sp} (hn : 0 < n) (hg : after g n = some (S, ys)) (hlen : g.length = n) (hs : ys[n - 1]? = some s) (h0 : s.fr = 0)
    (h : InstOk g t bs) (h' : InstOk g t bs') : bs = bs' := by
  have hu := up_same h.up h'.up (fun x => (h.mem x).trans (h'.mem x).symm)
  have e : span g s.fr (n - 1) = g := by
    unfold span
    rw [h0, List.drop_zero, List.take_of_length_le (by omega)]
  have hf := fill_inj (pick_one h.one) (pick_one h'.one) hl hg (n - 1) (by omega) s hs (by
    rw [e, h.fills _ (pick_ext (up_nodup h.up)), h'.fills _ (pick_ext (up_nodup h'.up))])
  rw [e] at hf
  rw [bs_of_pick (up_nodup h.up), bs_of_pick (up_nodup h'.up), ← hu]
  apply List.map_congr_left
  intro x hx
  rw [hf x ((h.mem x).1 hx)]

theorem inst_no {g t : List Nd} {bs : List (Int × List Nd)} (h : InstOk g t bs) (h' : InstNo g t) : False :=
  h' (pick bs) (pick_one h.one) (h.fills _ (pick_ext (up_nodup h.up)))

end Go.Proofs.Ytljdcaoibnikjaa

namespace Go.Proofs.Ytljdcaoibnikjaa

open Go.RowKit

set_option maxHeartbeats 400000 in
theorem bare_any (x : Nd) (w : World) :
    Calls Try.prog 66 #[.agg #[.int .i64 x.kind, .int .i64 x.num, .string x.text, .int .i64 x.kids, .int .i64 x.place]] w fun e w' =>
      e = .returned (.agg #[.int .i64 x.kind, .int .i64 x.num, .string x.text, .int .i64 x.kids, .int .i64 0]) ∧ Below w.heap.size w w' := by
  go_enter Try.func66, Try.ntmps66
  go_wp2
  refine bodyPost_ret (v := .agg #[.int .i64 x.kind, .int .i64 x.num, .string x.text, .int .i64 x.kids, .int .i64 0]) (by simp [results, Try.results66, go_sem]) rfl ⟨rfl, ?_⟩
  exact ((Below.refl _ _).alloc (Nat.le_refl _) _).alloc (by simp) _

/-- '!=' of two nodes whose places are struck, in one line. -/
theorem neqN (x y : Nd) (w : World) :
    (binOp .neq 53 (.agg #[.int .i64 x.kind, .int .i64 x.num, .string x.text, .int .i64 x.kids, .int .i64 0]) (.agg #[.int .i64 y.kind, .int .i64 y.num, .string y.text, .int .i64 y.kids, .int .i64 0])).run Try.prog w =
      .ok (.bool (!(x.sameb y))) w := by
  unfold Nd.sameb
  go_simp
  repeat' split
  all_goals simp_all

end Go.Proofs.Ytljdcaoibnikjaa
