import Derived.Test.YtahdmflbdmlfhaaGreatDoorWAP
import Derived.Test.YtahdmflbdmlfhaaGreatDoorWBH
import Derived.Test.YtahdmflbdmlfhaaGreatDoorWAA
import Derived.Test.YtahdmflbdmlfhaaGreatDoorWBF
import Derived.Test.YtahdmflbdmlfhaaGreatDoorWAZ
import Derived.Test.YtahdmflbdmlfhaaGreatDoorWAS
import Derived.Test.YtahdmflbdmlfhaaGreatDoorWBC
import Derived.Test.YtahdmflbdmlfhaaGreatDoorWBG
namespace Go.Proofs.YtahdmflbdmlfhaaGreatDoor

/-! A store grows by a node; what it says of the old ones stays. -/

theorem sk_push_old {st : List SK} {x : SK} {i : Nat} (h : i < st.length) : sk (st ++ [x]) i = sk st i := by
  unfold sk
  rw [List.getElem?_append_left h]

theorem sk_push_new (st : List SK) (x : SK) : sk (st ++ [x]) st.length = x := by
  unfold sk
  simp

theorem sk_push (st : List SK) (x : SK) (i : Nat) : (i < st.length ∧ sk (st ++ [x]) i = sk st i) ∨ (i = st.length ∧ sk (st ++ [x]) i = x) ∨ (st.length < i ∧ sk (st ++ [x]) i = SK.none) := by
  rcases Nat.lt_trichotomy i st.length with h | h | h
  · exact .inl ⟨h, sk_push_old h⟩
  · subst h
    exact .inr (.inl ⟨rfl, sk_push_new _ _⟩)
  · exact .inr (.inr ⟨h, sk_out (by simp; omega)⟩)

/-- A node that may be put behind a store. -/
structure FitsIn (st : List SK) (x : SK) : Prop where
  kids : ∀ k ∈ x.kids, k < st.length
  leaf : x.kind = 61 → x.kids = []
  one : x.kind = 61 → ∀ i, i < st.length → (sk st i).kind = 61 → (sk st i).num ≠ x.num
  plain : x.node.plainb = true
  few : x.kids.length ≤ 6000

theorem Sts.push {st : List SK} {x : SK} (hs : Sts st) (hx : FitsIn st x) : Sts (st ++ [x]) := by
  refine ⟨fun i k hk => ?_, fun i h => ?_, fun i j hi hj h1 h2 h3 => ?_, fun i hi => ?_, fun i => ?_⟩
  · rcases sk_push st x i with ⟨_, e⟩ | ⟨e1, e⟩ | ⟨_, e⟩
    · rw [e] at hk; exact hs.kids i k hk
    · rw [e] at hk; rw [e1]; exact hx.kids k hk
    · rw [e] at hk; simp [SK.none] at hk
  · rcases sk_push st x i with ⟨_, e⟩ | ⟨_, e⟩ | ⟨_, e⟩
    · rw [e] at h ⊢; exact hs.leaf i h
    · rw [e] at h ⊢; exact hx.leaf h
    · rw [e]; rfl
  · simp only [List.length_append, List.length_singleton] at hi hj
    rcases sk_push st x i with ⟨a1, e⟩ | ⟨a1, e⟩ | ⟨a1, e⟩ <;> rcases sk_push st x j with ⟨b1, e'⟩ | ⟨b1, e'⟩ | ⟨b1, e'⟩ <;> rw [e] at h1 h3 <;> rw [e'] at h2 h3
    · exact hs.one i j a1 b1 h1 h2 h3
    · exact absurd h3 (hx.one h2 i a1 h1)
    · omega
    · exact absurd h3.symm (hx.one h1 j b1 h2)
    · omega
    all_goals omega
  · simp only [List.length_append, List.length_singleton] at hi
    rcases sk_push st x i with ⟨a1, e⟩ | ⟨a1, e⟩ | ⟨a1, e⟩
    · rw [e]; exact hs.plain i a1
    · rw [e]; exact hx.plain
    · omega
  · rcases sk_push st x i with ⟨a1, e⟩ | ⟨a1, e⟩ | ⟨a1, e⟩
    · rw [e]; exact hs.few i
    · rw [e]; exact hx.few
    · rw [e]; simp [SK.none]

theorem T_push {st : List SK} {x : SK} (hs : Sts st) (hx : FitsIn st x) (θ : Int → List Nd) : ∀ i, i < st.length → T Classical.epsilon θ (st ++ [x]) i = T Classical.epsilon θ st i := by
  intro i
  induction i using Nat.strongRecOn with
  | ind i ih =>
    intro hi
    have e := sk_push_old (x := x) hi
    by_cases h : (sk st i).kind = 61
    · rw [T_meta θ hs h, T_meta θ (hs.push hx) (by rw [e]; exact h), e]
    · rw [T_node θ hs h, T_node θ (hs.push hx) (by rw [e]; exact h), e]
      congr 1
      exact flatMap_congr (fun k hk => ih k (hs.kids i k hk) (Nat.lt_trans (hs.kids i k hk) hi))

theorem le_sum (r : Nat → Nat) {l : List Nat} {k : Nat} (h : k ∈ l) : r k ≤ (l.map r).sum := by
  induction l with
  | nil => simp at h
  | cons a l ih =>
    simp only [List.map_cons, List.sum_cons]
    rcases List.mem_cons.1 h with rfl | h
    · omega
    · have := ih h
      omega

theorem Inv.push {st : List SK} {x : SK} {lk : Nat → Option Nat} (hs : Sts st) (hx : FitsIn st x) (h : Inv st lk) : Inv (st ++ [x]) lk := by
  refine ⟨?_, fun i j e => ?_, fun i j e => ?_, fun i j e => ?_⟩
  · obtain ⟨r, hr⟩ := h.rank
    refine ⟨fun i => if i = st.length then 1 + (x.kids.map r).sum else r i, fun i j e => ?_, fun i hi k hk => ?_⟩
    · obtain ⟨h1, h2⟩ := h.rng i j e
      simp only [show i ≠ st.length by omega, show j ≠ st.length by omega, if_false]
      exact hr.link i j e
    · rcases sk_push st x i with ⟨a1, e⟩ | ⟨a1, e⟩ | ⟨a1, e⟩
      · rw [e] at hk
        have h1 := hs.kids i k hk
        simp only [show i ≠ st.length by omega, show k ≠ st.length by omega, if_false]
        exact hr.kid i hi k hk
      · rw [e] at hk
        have h1 := hx.kids k hk
        simp only [a1, show k ≠ st.length by omega, if_false, if_true]
        have := le_sum r hk
        omega
      · rw [e] at hk
        simp [SK.none] at hk
  · obtain ⟨h1, h2⟩ := h.rng i j e
    simp only [List.length_append, List.length_singleton]
    omega
  · obtain ⟨h1, h2⟩ := h.rng i j e
    rw [sk_push_old h1, sk_push_old h2]
    exact h.cong i j e
  · obtain ⟨h1, h2⟩ := h.rng i j e
    rw [sk_push_old h1, sk_push_old h2]
    exact h.low i j e

theorem unl_push (st : List SK) (x : SK) (lk : Nat → Option Nat) : unl (st ++ [x]) lk ≤ unl st lk + 1 := by
  unfold unl
  rw [List.length_append, List.length_singleton, List.range_succ, List.filter_append, List.length_append]
  have h1 : (List.range st.length).filter (fun i => (sk (st ++ [x]) i).kind == 61 && (lk i).isNone) = (List.range st.length).filter (fun i => (sk st i).kind == 61 && (lk i).isNone) := by
    apply List.filter_congr
    intro i hi
    rw [sk_push_old (List.mem_range.1 hi)]
  rw [h1]
  have h2 := List.length_filter_le (fun i => (sk (st ++ [x]) i).kind == 61 && (lk i).isNone) [st.length]
  simp only [List.length_singleton] at h2
  omega

/-- A store that has grown. -/
structure Grown (st st' : List SK) : Prop where
  le : st.length ≤ st'.length
  same : ∀ i, i < st.length → sk st' i = sk st i
  t : ∀ θ i, i < st.length → T Classical.epsilon θ st' i = T Classical.epsilon θ st i
  inv : ∀ lk, Inv st lk → Inv st' lk
  unl : ∀ lk, unl st' lk ≤ unl st lk + (st'.length - st.length)

theorem Grown.refl (st : List SK) : Grown st st := ⟨Nat.le_refl _, fun _ _ => rfl, fun _ _ _ => rfl, fun _ h => h, fun _ => by omega⟩

theorem Grown.trans {a b c : List SK} (h : Grown a b) (h' : Grown b c) : Grown a c :=
  ⟨Nat.le_trans h.le h'.le, fun i hi => (h'.same i (Nat.lt_of_lt_of_le hi h.le)).trans (h.same i hi), fun θ i hi => (h'.t θ i (Nat.lt_of_lt_of_le hi h.le)).trans (h.t θ i hi), fun lk hI => h'.inv lk (h.inv lk hI), fun lk => by have := h.unl lk; have := h'.unl lk; have := h.le; have := h'.le; omega⟩

theorem Grown.push {st : List SK} {x : SK} (hs : Sts st) (hx : FitsIn st x) : Grown st (st ++ [x]) :=
  ⟨by simp, fun i hi => sk_push_old hi, fun θ i hi => T_push hs hx θ i hi, fun lk h => h.push hs hx, fun lk => by have := unl_push st x lk; simp only [List.length_append, List.length_singleton]; omega⟩

theorem Grown.sat {st st' : List SK} (h : Grown st st') {lk : Nat → Option Nat} (hr : ∀ i j, lk i = some j → i < st.length ∧ j < st.length) (θ : Int → List Nd) : Sat θ st' lk ↔ Sat θ st lk := by
  constructor
  · intro hs i j e
    obtain ⟨h1, h2⟩ := hr i j e
    rw [← h.t θ i h1, ← h.t θ j h2]
    exact hs i j e
  · intro hs i j e
    obtain ⟨h1, h2⟩ := hr i j e
    rw [h.t θ i h1, h.t θ j h2]
    exact hs i j e

/-- The list of unknowns of a store. -/
structure MsOk (st : List SK) (ms : List (Int × Nat)) : Prop where
  at' : ∀ p ∈ ms, p.2 < st.length ∧ (sk st p.2).kind = 61 ∧ (sk st p.2).num = p.1
  all : ∀ i, i < st.length → (sk st i).kind = 61 → ((sk st i).num, i) ∈ ms
  nd : (ms.map Prod.fst).Nodup

/-- What l8Put has made of the first k nodes of a type. -/
structure PutS (st0 : List SK) (ms0 : List (Int × Nat)) (ty : List Nd) (ys : List Sp) (k : Nat) (st : List SK) (at' : List Nat) (ms : List (Int × Nat)) : Prop where
  grown : Grown st0 st
  few : st.length ≤ st0.length + k
  sts : Sts st
  msok : MsOk st ms
  len : at'.length = k
  mean : ∀ i s a, i < k → ys[i]? = some s → at'[i]? = some a → a < st.length ∧ ∀ θ, T Classical.epsilon θ st a = fill θ (span ty s.fr i)
  occ : ∀ x, x ∈ ms.map Prod.fst ↔ x ∈ ms0.map Prod.fst ∨ x ∈ metas (ty.take k)

theorem PutS.start {st0 : List SK} {ms0 : List (Int × Nat)} (hs : Sts st0) (hm : MsOk st0 ms0) (ty : List Nd) (ys : List Sp) : PutS st0 ms0 ty ys 0 st0 [] ms0 :=
  ⟨Grown.refl _, by omega, hs, hm, rfl, fun i s a h => by omega, fun x => by simp [metas]⟩

theorem MsOk.grown {st st' : List SK} {ms : List (Int × Nat)} {x : SK} (h : MsOk st ms) (e : st' = st ++ [x]) (hx : x.kind ≠ 61) : MsOk st' ms := by
  subst e
  refine ⟨fun p hp => ?_, fun i hi hk => ?_, h.nd⟩
  · obtain ⟨h1, h2, h3⟩ := h.at' p hp
    rw [sk_push_old h1]
    exact ⟨by simp; omega, h2, h3⟩
  · rcases sk_push st x i with ⟨a1, e⟩ | ⟨a1, e⟩ | ⟨a1, e⟩
    · rw [e] at hk ⊢; exact h.all i a1 hk
    · rw [e] at hk; exact absurd hk hx
    · rw [e] at hk; simp [SK.none] at hk

theorem span_leaf {ty : List Nd} {S ys : List Sp} {m k : Nat} (h : after ty m = some (S, ys)) (hk : k < m) (hkl : k < ty.length) (h0 : ty[k].kids = 0) {s : Sp} (hs : ys[k]? = some s) : span ty s.fr k = [ty[k]] := by
  obtain ⟨K, hK, hy⟩ := kids_at2 h k hk
  obtain ⟨_, hn⟩ := hK.num
  have hK0 : K = [] := List.eq_nil_of_length_eq_zero (by omega)
  subst hK0
  rw [hs] at hy
  simp only [Option.some.injEq] at hy
  subst hy
  rw [span_snoc ty _ k hkl (by simp [over, frOf])]
  simp [over, frOf]

theorem metas_snoc (ty : List Nd) (k : Nat) (hk : k < ty.length) (x : Int) : x ∈ metas (ty.take (k + 1)) ↔ x ∈ metas (ty.take k) ∨ (ty[k].kind = 61 ∧ x = ty[k].num) := by
  rw [List.take_succ_eq_append_getElem hk, metas_append, List.mem_append]
  by_cases h : ty[k].kind = 61
  · simp [metas, h]
  · simp [metas, h]

section
variable {st0 st : List SK} {ms0 ms : List (Int × Nat)} {ty : List Nd} {ys S : List Sp} {k m : Nat} {at' : List Nat}

theorem PutS.known (h : PutS st0 ms0 ty ys k st at' ms) (ha : after ty m = some (S, ys)) (hk : k < m) (hkl : k < ty.length) (h61 : ty[k].kind = 61) (h0 : ty[k].kids = 0) {j : Nat} (hj : (ty[k].num, j) ∈ ms) : PutS st0 ms0 ty ys (k + 1) st (at' ++ [j]) ms := by
  obtain ⟨j1, j2, j3⟩ := h.msok.at' _ hj
  simp only at j1 j2 j3
  refine ⟨h.grown, by have := h.few; omega, h.sts, h.msok, by simp [h.len], fun i s a hi hs e => ?_, fun x => ?_⟩
  · by_cases hik : i < k
    · rw [List.getElem?_append_left (by rw [h.len]; exact hik)] at e
      exact h.mean i s a hik hs e
    · obtain rfl : i = k := by omega
      rw [List.getElem?_append_right (by rw [h.len]; omega), h.len, Nat.sub_self] at e
      simp only [List.getElem?_cons_zero, Option.some.injEq] at e
      subst e
      refine ⟨j1, fun θ => ?_⟩
      rw [T_meta θ h.sts j2, j3, span_leaf ha hk hkl h0 hs]
      simp [fill, fillN, h61]
  · rw [h.occ x, metas_snoc ty k hkl]
    have hx : ty[k].num ∈ ms.map Prod.fst := List.mem_map.2 ⟨_, hj, rfl⟩
    rw [h.occ] at hx
    constructor
    · rintro (h1 | h1)
      · exact .inl h1
      · exact .inr (.inl h1)
    · rintro (h1 | h1 | ⟨_, rfl⟩)
      · exact .inl h1
      · exact .inr h1
      · exact hx

theorem PutS.mean_old (h : PutS st0 ms0 ty ys k st at' ms) {x : SK} (hx : FitsIn st x) {i a : Nat} {s : Sp} (hik : i < k) (hs : ys[i]? = some s) (e : at'[i]? = some a) : a < (st ++ [x]).length ∧ ∀ θ, T Classical.epsilon θ (st ++ [x]) a = fill θ (span ty s.fr i) := by
  obtain ⟨h1, h2⟩ := h.mean i s a hik hs e
  refine ⟨by simp; omega, fun θ => ?_⟩
  rw [T_push h.sts hx θ a h1]
  exact h2 θ

theorem PutS.fresh (h : PutS st0 ms0 ty ys k st at' ms) (ha : after ty m = some (S, ys)) (hk : k < m) (hkl : k < ty.length) (hp : ty[k].plainb = true) (h61 : ty[k].kind = 61) (h0 : ty[k].kids = 0) (hj : ∀ p ∈ ms, p.1 ≠ ty[k].num) : PutS st0 ms0 ty ys (k + 1) (st ++ [⟨61, ty[k].num, ByteArray.empty, []⟩]) (at' ++ [st.length]) (ms ++ [(ty[k].num, st.length)]) := by
  have hx : FitsIn st ⟨61, ty[k].num, ByteArray.empty, []⟩ := by
    refine ⟨fun k hk => by simp at hk, fun _ => rfl, fun _ i hi hki e => ?_, ?_, by simp⟩
    · exact hj _ (h.msok.all i hi hki) e
    · have e := plain_meta hp h61
      rw [e] at hp
      exact hp
  have hnew := sk_push_new st ⟨61, ty[k].num, ByteArray.empty, []⟩
  refine ⟨h.grown.trans (Grown.push h.sts hx), by have := h.few; simp; omega, h.sts.push hx, ⟨fun p hp => ?_, fun i hi hki => ?_, ?_⟩, by simp [h.len], fun i s a hi hs e => ?_, fun x => ?_⟩
  · rcases List.mem_append.1 hp with hp | hp
    · obtain ⟨h1, h2, h3⟩ := h.msok.at' p hp
      rw [sk_push_old h1]
      exact ⟨by simp; omega, h2, h3⟩
    · simp only [List.mem_singleton] at hp
      subst hp
      simp only
      rw [hnew]
      exact ⟨by simp, rfl, rfl⟩
  · rcases sk_push st ⟨61, ty[k].num, ByteArray.empty, []⟩ i with ⟨a1, e⟩ | ⟨a1, e⟩ | ⟨a1, e⟩
    · rw [e] at hki ⊢
      exact List.mem_append_left _ (h.msok.all i a1 hki)
    · rw [e]
      simp [a1]
    · rw [e] at hki
      simp [SK.none] at hki
  · rw [List.map_append, List.nodup_append]
    refine ⟨h.msok.nd, by simp, fun a ha b hb => ?_⟩
    simp only [List.map_cons, List.map_nil, List.mem_singleton] at hb
    obtain ⟨p, hp, rfl⟩ := List.mem_map.1 ha
    rw [hb]
    exact hj p hp
  · by_cases hik : i < k
    · rw [List.getElem?_append_left (by rw [h.len]; exact hik)] at e
      exact h.mean_old hx hik hs e
    · obtain rfl : i = k := by omega
      rw [List.getElem?_append_right (by rw [h.len]; omega), h.len, Nat.sub_self] at e
      simp only [List.getElem?_cons_zero, Option.some.injEq] at e
      subst e
      refine ⟨by simp, fun θ => ?_⟩
      rw [T_meta θ (h.sts.push hx) (by rw [hnew]), hnew, span_leaf ha hk hkl h0 hs]
      simp [fill, fillN, h61]
  · rw [metas_snoc ty k hkl, List.map_append, List.mem_append, h.occ x]
    simp only [List.map_cons, List.map_nil, List.mem_singleton, h61, true_and]
    constructor
    · rintro ((h1 | h1) | h1)
      · exact .inl h1
      · exact .inr (.inl h1)
      · exact .inr (.inr h1)
    · rintro (h1 | h1 | h1)
      · exact .inl (.inl h1)
      · exact .inl (.inr h1)
      · exact .inr h1

theorem PutS.node (h : PutS st0 ms0 ty ys k st at' ms) (hkl : k < ty.length) (hp : ty[k].plainb = true) (h61 : ty[k].kind ≠ 61) (h6 : k ≤ 6000) {K : List Sp} (hK : KidsAt ty ys k K) (hy : ys[k]? = some (over K k)) {ks : List Nat} (hks : ks.length = K.length) (hka : ∀ r (h1 : r < K.length) (h2 : r < ks.length), at'[K[r].rt]? = some ks[r]) :
    PutS st0 ms0 ty ys (k + 1) (st ++ [⟨ty[k].kind, ty[k].num, ty[k].text, ks⟩]) (at' ++ [st.length]) ms := by
  obtain ⟨_, hn⟩ := hK.num
  have hnode : (⟨ty[k].kind, ty[k].num, ty[k].text, ks⟩ : SK).node = ty[k] := by
    have hpl := plain_place hp
    generalize ty[k] = q at *
    obtain ⟨kd, nm, tx, kc, pl⟩ := q
    simp only at hn hpl
    simp [SK.node, hpl, hn, hks]
  have hkm : ∀ r (h1 : r < K.length) (h2 : r < ks.length), ks[r] < st.length ∧ ∀ θ, T Classical.epsilon θ st ks[r] = fill θ (span ty K[r].fr K[r].rt) := by
    intro r h1 h2
    obtain ⟨m1, m2, m3⟩ := hK.mem r h1
    exact h.mean K[r].rt K[r] ks[r] m3 m1 (hka r h1 h2)
  have hx : FitsIn st ⟨ty[k].kind, ty[k].num, ty[k].text, ks⟩ := by
    refine ⟨fun q hq => ?_, fun e => absurd e h61, fun e => absurd e h61, by rw [hnode]; exact hp, by have := hK.len; simp only; omega⟩
    obtain ⟨r, hr, rfl⟩ := List.getElem_of_mem hq
    exact (hkm r (by simp only at hr; omega) hr).1
  have hnew := sk_push_new st ⟨ty[k].kind, ty[k].num, ty[k].text, ks⟩
  refine ⟨h.grown.trans (Grown.push h.sts hx), by have := h.few; simp; omega, h.sts.push hx, h.msok.grown rfl h61, by simp [h.len], fun i s a hi hs e => ?_, fun x => ?_⟩
  · by_cases hik : i < k
    · rw [List.getElem?_append_left (by rw [h.len]; exact hik)] at e
      exact h.mean_old hx hik hs e
    · obtain rfl : i = k := by omega
      rw [List.getElem?_append_right (by rw [h.len]; omega), h.len, Nat.sub_self] at e
      simp only [List.getElem?_cons_zero, Option.some.injEq] at e
      subst e
      refine ⟨by simp, fun θ => ?_⟩
      rw [hy] at hs
      simp only [Option.some.injEq] at hs
      subst hs
      have hcon := kids_con hK
      rw [T_node θ (h.sts.push hx) (by rw [hnew]; exact h61), hnew, hnode, span_snoc ty _ i hkl (by have := hcon.le; exact this), fill_append]
      have e1 : ks.flatMap (T Classical.epsilon θ (st ++ [⟨ty[i].kind, ty[i].num, ty[i].text, ks⟩])) = ((kidsIn ty K).map (fill θ)).flatten := by
        rw [List.flatMap_def]
        congr 1
        apply List.ext_getElem
        · simp [kidsIn, hks]
        · intro r r1 r2
          simp only [List.length_map] at r1
          have r3 : r < K.length := by omega
          simp only [List.getElem_map, kidsIn]
          obtain ⟨q1, q2⟩ := hkm r r3 r1
          rw [T_push h.sts hx θ _ q1, q2 θ]
      simp only
      rw [e1, ← fill_flatten, con_flat hcon (by omega)]
      congr 1
      simp [fill, fillN, h61]
  · rw [h.occ x, metas_snoc ty k hkl]
    simp [h61]

end

end Go.Proofs.YtahdmflbdmlfhaaGreatDoor

namespace Go.Proofs.YtahdmflbdmlfhaaGreatDoor

open Go.RowKit

/-- What errors.As must find of the program's variables. -/
def ErrT (w : World) : Prop := w.cell? ⟨1, 0, none⟩ = some (.iface 158 (.agg #[.pointer (some ⟨2, 61, none⟩)]))

theorem ErrT.below {w w' : World} {z : Nat} (h : ErrT w) (hb : Below z w w') (hz : 1 < z) : ErrT w' := (hb.cell (p := ⟨1, 0, none⟩) hz).trans h

set_option maxRecDepth 20000 in
set_option maxHeartbeats 2000000 in
theorem isClash_yes (ub : Nat) (v : Addr) (w : World) (hg : ErrT w) (hu : w.cell? ⟨ub, 1, none⟩ = some (.iface 104 (.pointer (some v)))) :
    Calls Tryz.prog 22 #[.iface 64 (.pointer (some ⟨ub, 0, none⟩))] w fun e w' => e = .returned (.bool true) ∧ Below w.heap.size w w' := by
  have hb0 : Below w.heap.size w (w.alloc (.cells #[.pointer none] 104)) := (Below.refl _ w).alloc (Nat.le_refl _) _
  have hlt : 1 < w.heap.size := lt_of_cell hg
  have HC := as_cl ub v ⟨w.heap.size, 0, none⟩ (.pointer none) (w.alloc (.cells #[.pointer none] 104)) (hg.below hb0 hlt) ((hb0.cell (p := ⟨ub, 1, none⟩) (lt_of_cell hu)).trans hu) (by simp) (by simp)
  clear hu
  go_enter Tryz.func22, Tryz.ntmps22
  go_wp2_with fail
  refine HC.mono ?_
  rintro e w' ⟨rfl, hw'⟩
  have hb' : Below w.heap.size w w' := by
    rw [hw']
    exact ((((hb0.alloc (by simp) _).alloc (by simp; omega) _).alloc (by simp; omega) _).alloc (by simp; omega) _).setCell (p := ⟨w.heap.size, 0, none⟩) (Nat.le_refl _) _
  clear HC hw'
  go_wp2
  go_ret
  exact ⟨rfl, hb'⟩

set_option maxRecDepth 20000 in
set_option maxHeartbeats 2000000 in
theorem isClash_no (ub : Nat) (gp : Value) (w : World) (hg : ErrT w) (hu : w.cell? ⟨ub, 1, none⟩ = some (.iface 219 gp)) :
    Calls Tryz.prog 22 #[.iface 64 (.pointer (some ⟨ub, 0, none⟩))] w fun e w' => e = .returned (.bool false) ∧ Below w.heap.size w w' := by
  have hb0 : Below w.heap.size w (w.alloc (.cells #[.pointer none] 104)) := (Below.refl _ w).alloc (Nat.le_refl _) _
  have hlt : 1 < w.heap.size := lt_of_cell hg
  have HC := as_la ub ⟨w.heap.size, 0, none⟩ gp (w.alloc (.cells #[.pointer none] 104)) (hg.below hb0 hlt) ((hb0.cell (p := ⟨ub, 1, none⟩) (lt_of_cell hu)).trans hu)
  clear hu
  go_enter Tryz.func22, Tryz.ntmps22
  go_wp2_with fail
  refine HC.mono ?_
  rintro e w' ⟨rfl, hw'⟩
  have hb' : Below w.heap.size w w' := by
    rw [hw']
    exact ((hb0.alloc (by simp) _).alloc (by simp; omega) _).alloc (by simp; omega) _
  clear HC hw'
  go_wp2
  go_ret
  exact ⟨rfl, hb'⟩

set_option maxRecDepth 20000 in
set_option maxHeartbeats 2000000 in
/-- errors.As of an upTo at **upTo, by what it leaves. -/
theorem as_upB (e : Addr) (tb : Nat) (w : World) (hg : ErrT w) (ht0 : w.heap[tb]? = some (.cells #[.pointer none] 64 (0, 0))) :
    Calls Tryz.prog 21 #[.iface 64 (.pointer (some e)), .iface 66 (.pointer (some ⟨tb, 0, none⟩))] w fun ev w' => ev = .returned (.bool true) ∧ w'.cell? ⟨tb, 0, none⟩ = some (.pointer (some e)) ∧ But (fun k => k = tb) w w' := by
  have hl : tb < w.heap.size := (Array.getElem?_eq_some_iff.1 ht0).1
  refine (as_up e ⟨tb, 0, none⟩ (.pointer none) w hg (by rw [cell_of_row _ _ _ _ 64 (0, 0) ht0]; rfl) (frozen_of_row w tb 0 _ 64 ht0)).mono ?_
  rintro ev w' ⟨rfl, rfl⟩
  have hb0 := ((((Below.refl _ w).alloc (Nat.le_refl _) (.cells #[.pointer (some ⟨tb, 0, none⟩)] 66)).alloc (by simp) (.cells #[.pointer (some ⟨2, 66, none⟩), .pointer (some ⟨w.heap.size, 0, none⟩), .int .u64 150] 113)).alloc (by simp; omega) (.cells #[.pointer (some ⟨2, 66, none⟩), .pointer (some ⟨w.heap.size, 0, none⟩), .int .u64 150] 113)).alloc (by simp; omega) (.cells #[.pointer (some e)] 64)
  have h4 := (hb0.block tb hl).trans ht0
  refine ⟨rfl, ?_, ?_⟩
  · have h5 := heap_setCell_same _ tb 0 _ 64 (.pointer (some e)) h4
    rw [cell_of_row _ _ _ _ 64 (0, 0) h5]
    rfl
  · exact (But.ofBelow (S := fun k => k = tb) hb0).setCell (p := ⟨tb, 0, none⟩) rfl _

end Go.Proofs.YtahdmflbdmlfhaaGreatDoor

namespace Go.Proofs.YtahdmflbdmlfhaaGreatDoor

open Go.RowKit Go.Maps

theorem bans_mono {w : World} {B B' : Nat} {ao : Option Addr} {bs : List (Int × List Nd)} (h : BAns w B ao bs) (hB : B' ≤ B) : BAns w B' ao bs := by
  rcases h with h | ⟨g, rs, e, h1, h2, hr⟩
  · exact Or.inl h
  · exact Or.inr ⟨g, rs, e, Nat.le_trans hB h1, fun r hm => Nat.le_trans hB (h2 r hm), hr⟩

/-! impl.Solve. -/

theorem solve_binds {ps : List (List Nd × List Nd)} {X : Nat → Prop} {f : Nat → CC} {lk : Nat → Option Nat} {K : (Option Addr × Nat × Nat) → List Nat} {U : Int → Int → Option Nat} {σ : Int → List Nd} {θ : Nat → DT} (hv : Valid ps) (hF : SolF ps X f lk K U σ θ) (hwf : ∀ x b, U 1 x = some b → (Lit.int .i64 x).wf = true) (hlen : ∀ x b, U 1 x = some b → (σ x).length ≤ 300) {bs : List (Int × List Nd)}
    (h : IsBinds (fun x => if (Lit.int .i64 x).wf = true then (U 1 x).map (fun _ => σ x) else none) bs) : SolveRes ps true 0 bs := by
  obtain ⟨h1, h2, h3⟩ := h
  have hB : ∀ p ∈ bs, (∃ b, U 1 p.1 = some b) ∧ p.2 = σ p.1 := by
    intro p hp
    have h9 := h2 p hp
    simp only at h9
    by_cases hw : (Lit.int .i64 p.1).wf = true
    · rw [if_pos hw] at h9
      cases hu : U 1 p.1 with
      | none => rw [hu] at h9; cases h9
      | some b =>
        rw [hu] at h9
        simp only [Option.map_some, Option.some.injEq] at h9
        exact ⟨⟨b, rfl⟩, h9.symm⟩
    · rw [if_neg hw] at h9
      cases h9
  refine .ok σ bs hv hF.ok h1 (fun x => ⟨fun hx => ?_, fun hx => ?_⟩) (fun p hp => ⟨(hB p hp).2, ?_⟩)
  · obtain ⟨p, hp, rfl⟩ := List.mem_map.1 hx
    exact (hF.occ p.1).1 (hB p hp).1
  · obtain ⟨b, hb⟩ := (hF.occ x).2 hx
    exact h3 x (by simp only; rw [if_pos (hwf x b hb), hb]; rfl)
  · obtain ⟨⟨b, hb⟩, e⟩ := hB p hp
    rw [e]
    exact hlen _ b hb

set_option maxRecDepth 20000 in
set_option maxHeartbeats 8000000 in
theorem implSolve_any (ps : List (List Nd × List Nd)) (m : Nat) (HM : Hid (ps.length = m)) (hm : m ≤ 1048576) (HPL : Hid (∀ p ∈ ps, p.1.length ≤ 1048576 ∧ p.2.length ≤ 1048576)) (HWF : Hid (∀ p ∈ ps, (∀ x ∈ p.1, (Lit.int .i64 x.num).wf = true) ∧ ∀ x ∈ p.2, (Lit.int .i64 x.num).wf = true)) (gp : Value) (ao : Option Addr) (cap : Nat) (w : World) (hgv : w.cell? ⟨0, 0, none⟩ = some (.iface 219 gp)) (hgt : ErrT w) (hx : Pairs w ao ps) :
    Calls Tryz.prog 6 #[.slice ao m cap] w fun e w' => ∃ (ok : Bool) (at' : Int) (bo : Option Addr) (l c : Nat) (bs : List (Int × List Nd)), e = .returned (.agg #[.bool ok, .int .i64 at', .slice bo l c]) ∧ bs.length = l ∧ SolveRes ps ok at' bs ∧ BAns w' w.heap.size bo bs ∧ Below w.heap.size w w' := by
  obtain ⟨z, hz⟩ : ∃ z, w.heap.size = z := ⟨_, rfl⟩
  have hz1 : 1 < w.heap.size := lt_of_cell hgt
  have HX : Hid (Pairs w ao ps) := hx
  have HGT : Hid (ErrT w) := hgt
  have HGV : Hid (w.cell? ⟨0, 0, none⟩ = some (.iface 219 gp)) := hgv
  clear hx hgt hgv
  go_enter Tryz.func6, Tryz.ntmps6
  go_wp2_with fail
  have hA : Below w.heap.size w (w.alloc (.cells #[.bool false, .int .i64 0, .slice none 0 0] 27)) := (Below.refl _ w).alloc (Nat.le_refl _) _
  have hzb : (w.alloc (.cells #[.bool false, .int .i64 0, .slice none 0 0] 27)).heap[z]? = some (.cells #[.bool false, .int .i64 0, .slice none 0 0] 27 (0, 0)) := by rw [← hz]; exact heap_alloc_new _ _
  have hzl0 : z < (w.alloc (.cells #[.bool false, .int .i64 0, .slice none 0 0] 27)).heap.size := (Array.getElem?_eq_some_iff.1 hzb).1
  refine (areTypes_any ps m HM hm HPL ao cap _ (HX.out.below hA)).mono ?_
  rintro e w1 ⟨⟨ok, rfl, hok⟩, hb1⟩
  have hrb1 := (hb1.block z hzl0).trans hzb
  have hbw1 : Below z w w1 := by rw [← hz]; exact Below.step hA hb1
  have hz1' := hbw1.size
  clear hA hzb hb1 hzl0
  cases ok with
  | false =>
    have HRES : Hid (SolveRes ps false (-1) []) := .bad (fun hv => by have := hok.2 hv; cases this)
    obtain ⟨r0, r1, r2, f0, f1, f2, hzl, hrbut⟩ := rbox3 (a' := .bool false) (b' := .int .i64 (-1)) (c' := .slice none 0 0) hrb1
    have hfin := hbw1.trans (hrbut.below (by omega) (fun q hq => by omega))
    clear hok hrb1
    go_wp2
    refine bodyPost_ret (v := .agg #[.bool false, .int .i64 (-1), .slice none 0 0]) (by simp [results, Tryz.results6, go_sem, r0, r1, r2]) rfl ?_
    exact ⟨false, -1, none, 0, 0, [], rfl, rfl, HRES.out, .inl rfl, by rw [hz]; exact hfin⟩
  | true =>
    have HV : Hid (Valid ps) := hok.1 rfl
    have hgv1 := (hbw1.cell (p := ⟨0, 0, none⟩) (by show 0 < z; omega)).trans HGV.out
    have hgt1 : ErrT w1 := HGT.out.below hbw1 (by omega)
    have HSO := solve_any ps m HM HV HWF 219 gp ao cap w1 hgv1 (HX.out.below (by rw [hz]; exact hbw1))
    have hzl1 : z < w1.heap.size := (Array.getElem?_eq_some_iff.1 hrb1).1
    clear hok hgv1
    go_wp2_with fail
    refine HSO.mono ?_
    rintro e w2 ⟨hres, hb2⟩
    have hbw2 : Below z w w2 := by rw [← hz] at hbw1 ⊢; exact Below.step hbw1 hb2
    have hz2 := hb2.size
    have hrb2 := (hb2.block z hzl1).trans hrb1
    have hgt2 : ErrT w2 := hgt1.below hb2 (by omega)
    clear HSO hbw1 hrb1 hgt1
    rcases hres with ⟨ub, r, v, rfl, hub, hcl, hsr⟩ | ⟨ub, r, rfl, hub, hcl, hsr⟩ | ⟨sb, mb, n, X, f, lk, d, K, U, D, σ, θ, rfl, hn, hXz, hS, s0, hO, hud, hUX, hwu, hF, hlen⟩
    · have HRES : Hid (SolveRes ps false (r : Int) []) := hsr
      have hB : Below w2.heap.size w2 (w2.alloc (.cells #[.pointer none] 64)) := (Below.refl _ w2).alloc (Nat.le_refl _) _
      have HAS := as_upB ⟨ub, 0, none⟩ w2.heap.size _ (hgt2.below hB (by omega)) (heap_alloc_new w2 (.cells #[.pointer none] 64))
      have hubl : ub < w2.heap.size := (Array.getElem?_eq_some_iff.1 hcl).1
      have HST : Hid (∀ w3, But (fun k => k = w2.heap.size) (w2.alloc (.cells #[.pointer none] 64)) w3 → Below z w w3 ∧ ErrT w3 ∧ w3.heap[z]? = some (.cells #[.bool false, .int .i64 0, .slice none 0 0] 27 (0, 0)) ∧ w3.heap[ub]? = some (.cells #[.int .i64 (r : Int), .iface 104 (.pointer (some v))] 69 (0, 0)) ∧ w2.heap.size < w3.heap.size) := by
        intro w3 hb3
        have hb23 : Below w2.heap.size w2 w3 := ⟨hb3.os.trans hB.os, hb3.tape.trans hB.tape, hb3.output.trans hB.output, Nat.le_trans hB.size hb3.size, fun k hk => (hb3.block k (by simp; omega) (by omega)).trans (hB.block k hk)⟩
        refine ⟨hbw2.trans (hb23.mono (by omega)), hgt2.below hb23 (by omega), (hb23.block z (by omega)).trans hrb2, (hb23.block ub hubl).trans hcl, ?_⟩
        have := hb3.size
        simp at this
        omega
      clear hsr hB
      go_wp2_with fail
      refine HAS.mono ?_
      rintro e w3 ⟨rfl, hft, hb3⟩
      obtain ⟨hbw3, hgt3, hrb3, hcl3, hl3⟩ := HST.out w3 hb3
      have HIC := isClash_yes ub v w3 hgt3 (by rw [cell_of_row _ _ _ _ 69 (0, 0) hcl3]; rfl)
      clear HAS HST hb3 hgt3 hgt2 hcl hrb2 hbw2
      go_wp2_with fail
      refine HIC.mono ?_
      rintro e w4 ⟨rfl, hb4⟩
      have hs3 := hbw3.size
      have hzl3 : z < w3.heap.size := (Array.getElem?_eq_some_iff.1 hrb3).1
      have hbw4 : Below z w w4 := hbw3.trans (hb4.mono (by omega))
      have hrb4 := (hb4.block z hzl3).trans hrb3
      have hft4 := (hb4.cell (p := ⟨w2.heap.size, 0, none⟩) hl3).trans hft
      have hcl4 := (hb4.block ub (by omega)).trans hcl3
      have hp4 : w4.cell? ⟨ub, 0, none⟩ = some (.int .i64 (r : Int)) := by rw [cell_of_row _ _ _ _ 69 (0, 0) hcl4]; rfl
      have hs4 := hb4.size
      have hl4 : w2.heap.size < w4.heap.size := by omega
      have hul4 : ub < w4.heap.size := by omega
      obtain ⟨r0, r1, r2, f0, f1, f2, hzl, hrbut⟩ := rbox3 (a' := .bool false) (b' := .int .i64 (r : Int)) (c' := .slice none 0 0) hrb4
      have hfin := hbw4.trans (hrbut.below (by omega) (fun q hq => by omega))
      clear HIC hb4 hrb3 hcl3 hft hrb4 hcl4 hbw3
      go_wp2
      refine bodyPost_ret (v := .agg #[.bool false, .int .i64 (r : Int), .slice none 0 0]) (by simp [results, Tryz.results6, go_sem, r0, r1, r2]) rfl ?_
      exact ⟨false, (r : Int), none, 0, 0, [], rfl, rfl, HRES.out, .inl rfl, by rw [hz]; exact hfin⟩
    · have HRES : Hid (SolveRes ps false (-1) []) := hsr
      have hB : Below w2.heap.size w2 (w2.alloc (.cells #[.pointer none] 64)) := (Below.refl _ w2).alloc (Nat.le_refl _) _
      have HAS := as_upB ⟨ub, 0, none⟩ w2.heap.size _ (hgt2.below hB (by omega)) (heap_alloc_new w2 (.cells #[.pointer none] 64))
      have hubl : ub < w2.heap.size := (Array.getElem?_eq_some_iff.1 hcl).1
      have HST : Hid (∀ w3, But (fun k => k = w2.heap.size) (w2.alloc (.cells #[.pointer none] 64)) w3 → Below z w w3 ∧ ErrT w3 ∧ w3.heap[z]? = some (.cells #[.bool false, .int .i64 0, .slice none 0 0] 27 (0, 0)) ∧ w3.heap[ub]? = some (.cells #[.int .i64 (r : Int), .iface 219 gp] 69 (0, 0)) ∧ w2.heap.size < w3.heap.size) := by
        intro w3 hb3
        have hb23 : Below w2.heap.size w2 w3 := ⟨hb3.os.trans hB.os, hb3.tape.trans hB.tape, hb3.output.trans hB.output, Nat.le_trans hB.size hb3.size, fun k hk => (hb3.block k (by simp; omega) (by omega)).trans (hB.block k hk)⟩
        refine ⟨hbw2.trans (hb23.mono (by omega)), hgt2.below hb23 (by omega), (hb23.block z (by omega)).trans hrb2, (hb23.block ub hubl).trans hcl, ?_⟩
        have := hb3.size
        simp at this
        omega
      clear hsr hB
      go_wp2_with fail
      refine HAS.mono ?_
      rintro e w3 ⟨rfl, hft, hb3⟩
      obtain ⟨hbw3, hgt3, hrb3, hcl3, hl3⟩ := HST.out w3 hb3
      have HIC := isClash_no ub gp w3 hgt3 (by rw [cell_of_row _ _ _ _ 69 (0, 0) hcl3]; rfl)
      clear HAS HST hb3 hgt3 hgt2 hcl hrb2 hbw2
      go_wp2_with fail
      refine HIC.mono ?_
      rintro e w4 ⟨rfl, hb4⟩
      have hs3 := hbw3.size
      have hzl3 : z < w3.heap.size := (Array.getElem?_eq_some_iff.1 hrb3).1
      have hbw4 : Below z w w4 := hbw3.trans (hb4.mono (by omega))
      have hrb4 := (hb4.block z hzl3).trans hrb3
      obtain ⟨r0, r1, r2, f0, f1, f2, hzl, hrbut⟩ := rbox3 (a' := .bool false) (b' := .int .i64 (-1)) (c' := .slice none 0 0) hrb4
      have hfin := hbw4.trans (hrbut.below (by omega) (fun q hq => by omega))
      clear HIC hb4 hrb3 hcl3 hft hrb4 hbw3
      go_wp2
      refine bodyPost_ret (v := .agg #[.bool false, .int .i64 (-1), .slice none 0 0]) (by simp [results, Tryz.results6, go_sem, r0, r1, r2]) rfl ?_
      exact ⟨false, -1, none, 0, 0, [], rfl, rfl, HRES.out, .inl rfl, by rw [hz]; exact hfin⟩
    · have hB : Below w2.heap.size w2 (w2.alloc (.cells #[.pointer none] 64)) := (Below.refl _ w2).alloc (Nat.le_refl _) _
      have HSB : Hid (∀ bs, IsBinds (fun x => if (Lit.int .i64 x).wf = true then (U 1 x).map (fun _ => σ x) else none) bs → SolveRes ps true 0 bs) := fun bs h => solve_binds HV.out hF hwu hlen h
      have hSB : CSto (w2.alloc (.cells #[.pointer none] 64)) X f lk d K := hS.still (But.ofBelow hB)
      have HFO := found_any X f lk d K θ (w2.alloc (.cells #[.pointer none] 64)) sb mb n (by omega) U D hSB hF.sat ((hB.cell (p := ⟨sb, 0, none⟩) (lt_of_cell s0)).trans s0) (ownsMap_but hO (But.ofBelow (S := fun _ => False) hB) (fun h => h)) hud hUX σ (fun x b e => ⟨hF.read x b e, hlen x b e⟩)
      have hbwB : Below z w (w2.alloc (.cells #[.pointer none] 64)) := hbw2.trans (hB.mono (by omega))
      have hrbB := (hB.block z (by omega)).trans hrb2
      have hzB : z < (w2.alloc (.cells #[.pointer none] 64)).heap.size := (Array.getElem?_eq_some_iff.1 hrbB).1
      have HXW : Hid (∀ i, X i → w1.heap.size ≤ i) := hXz
      clear hgt2 hS s0 hO hud hUX hF hlen hSB hwu hrb2 hbw2 hB hXz
      go_wp2_with fail
      refine (as_nil _ _).mono ?_
      rintro e w3 ⟨rfl, rfl⟩
      go_wp2_with fail
      refine HFO.mono ?_
      rintro e w4 ⟨tb, k, hk, rfl, hRw, hB4⟩
      have hbw4 : Below z w w4 := below_but hbwB hB4 (by omega) (fun i hi => by have := HXW.out i hi; omega)
      have hrb4 := (hB4.block z hzB (fun hx => by have := HXW.out z hx; omega)).trans hrbB
      have hzB4 := hB4.size
      have HBO := bindsOf_any _ _ tb k (by omega) w4 hRw hB4.size
      have hz4 := hbw4.size
      have hzl4 : z < w4.heap.size := (Array.getElem?_eq_some_iff.1 hrb4).1
      clear HFO hRw hB4 hrbB
      go_wp2_with fail
      refine HBO.mono ?_
      rintro e w5 ⟨ag, cg, bs, rfl, hIB, hBA, hb5⟩
      have HRES : Hid (SolveRes ps true 0 bs) := HSB.out bs hIB
      have hbw5 : Below z w w5 := hbw4.trans (hb5.mono (by omega))
      have hrb5 := (hb5.block z hzl4).trans hrb4
      have hBA2 : BAns w5 (z + 1) ag bs := bans_mono hBA (by omega)
      obtain ⟨r0, r1, r2, f0, f1, f2, hzl, hrbut⟩ := rbox3 (a' := .bool true) (b' := .int .i64 0) (c' := .slice ag bs.length cg) hrb5
      have hfin := hbw5.trans (hrbut.below (by omega) (fun q hq => by omega))
      have hans2 := bans_mono (hBA2.but hrbut (fun q hq e => by omega)) (B' := z) (by omega)
      clear HBO hIB hBA hb5 hrb4 hrb5 hbw4 hBA2
      go_wp2
      refine bodyPost_ret (v := .agg #[.bool true, .int .i64 0, .slice ag bs.length cg]) (by simp [results, Tryz.results6, go_sem, r0, r1, r2]) rfl ?_
      exact ⟨true, 0, ag, bs.length, cg, bs, rfl, rfl, HRES.out, by rw [hz]; exact hans2, by rw [hz]; exact hfin⟩

end Go.Proofs.YtahdmflbdmlfhaaGreatDoor
