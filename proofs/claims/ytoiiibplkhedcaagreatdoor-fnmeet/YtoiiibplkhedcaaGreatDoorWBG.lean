import Derived.Test.YtoiiibplkhedcaaGreatDoorWBF
namespace Go.Proofs.YtoiiibplkhedcaaGreatDoor
/-! A store grows by a node; what it says of the old ones stays. -/
theorem Qaz {st : List SK} {x : SK} {i : Nat} (h : i < st.length) : sk (st ++ [x]) i = sk st i := by
  unfold sk
  rw [List.getElem?_append_left h]
theorem Qeu (st : List SK) (x : SK) : sk (st ++ [x]) st.length = x := by
  unfold sk
  simp
theorem Qdb (st : List SK) (x : SK) (i : Nat) : (i < st.length ∧ sk (st ++ [x]) i = sk st i) ∨ (i = st.length ∧ sk (st ++ [x]) i = x) ∨ (st.length < i ∧ sk (st ++ [x]) i = SK.none) := by
  rcases Nat.lt_trichotomy i st.length with h | h | h
  · exact .inl ⟨h, Qaz h⟩
  · subst h
    exact .inr (.inl ⟨rfl, Qeu _ _⟩)
  · exact .inr (.inr ⟨h, Jbc (by simp; omega)⟩)
structure FitsIn (st : List SK) (x : SK) : Prop where
  kids : ∀ k ∈ x.kids, k < st.length
  leaf : x.kind = 61 → x.kids = []
  one : x.kind = 61 → ∀ i, i < st.length → (sk st i).kind = 61 → (sk st i).num ≠ x.num
  plain : x.node.plainb = true
  few : x.kids.length ≤ 6000
theorem Sts.push {st : List SK} {x : SK} (hs : Sts st) (hx : FitsIn st x) : Sts (st ++ [x]) := by
  refine ⟨fun i k hk => ?_, fun i h => ?_, fun i j hi hj h1 h2 h3 => ?_, fun i hi => ?_, fun i => ?_⟩
  · rcases Qdb st x i with ⟨_, e⟩ | ⟨e1, e⟩ | ⟨_, e⟩
    · rw [e] at hk; exact hs.kids i k hk
    · rw [e] at hk; rw [e1]; exact hx.kids k hk
    · rw [e] at hk; simp [SK.none] at hk
  · rcases Qdb st x i with ⟨_, e⟩ | ⟨_, e⟩ | ⟨_, e⟩
    · rw [e] at h ⊢; exact hs.leaf i h
    · rw [e] at h ⊢; exact hx.leaf h
    · rw [e]; rfl
  · simp only [List.length_append, List.length_singleton] at hi hj
    rcases Qdb st x i with ⟨a1, e⟩ | ⟨a1, e⟩ | ⟨a1, e⟩ <;> rcases Qdb st x j with ⟨b1, e'⟩ | ⟨b1, e'⟩ | ⟨b1, e'⟩ <;> rw [e] at h1 h3 <;> rw [e'] at h2 h3
    · exact hs.one i j a1 b1 h1 h2 h3
    · exact absurd h3 (hx.one h2 i a1 h1)
    · omega
    · exact absurd h3.symm (hx.one h1 j b1 h2)
    · omega
    all_goals omega
  · simp only [List.length_append, List.length_singleton] at hi
    rcases Qdb st x i with ⟨a1, e⟩ | ⟨a1, e⟩ | ⟨a1, e⟩
    · rw [e]; exact hs.plain i a1
    · rw [e]; exact hx.plain
    · omega
  · rcases Qdb st x i with ⟨a1, e⟩ | ⟨a1, e⟩ | ⟨a1, e⟩
    · rw [e]; exact hs.few i
    · rw [e]; exact hx.few
    · rw [e]; simp [SK.none]
theorem Qyi {st : List SK} {x : SK} (hs : Sts st) (hx : FitsIn st x) (θ : Int → List Nd) : ∀ i, i < st.length → T Classical.epsilon θ (st ++ [x]) i = T Classical.epsilon θ st i := by
  intro i
  induction i using Nat.strongRecOn with
  | ind i ih =>
    intro hi
    have e := Qaz (x := x) hi
    by_cases h : (sk st i).kind = 61
    · rw [Qiv θ hs h, Qiv θ (hs.push hx) (by rw [e]; exact h), e]
    · rw [Qgc θ hs h, Qgc θ (hs.push hx) (by rw [e]; exact h), e]
      congr 1
      exact Qcc (fun k hk => ih k (hs.kids i k hk) (Nat.lt_trans (hs.kids i k hk) hi))
theorem Jdf (r : Nat → Nat) {l : List Nat} {k : Nat} (h : k ∈ l) : r k ≤ (l.map r).sum := by
  induction l with
  | nil => simp at h
  | cons a l ih =>
    simp only [List.map_cons, List.sum_cons]
    rcases List.mem_cons.1 h with rfl | h
    · omega
    · have := ih h
      omega
theorem Inv.push {st : List SK} {x : SK} {lk : Nat → Option Nat} (hs : Sts st) (hx : FitsIn st x) (h : Inv st lk) : Inv (st ++ [x]) lk := by
  refine ⟨?_, fun i j e => ?_, fun i j e => ?_, fun i j e => ?_⟩
  · obtain ⟨r, hr⟩ := h.rank
    refine ⟨fun i => if i = st.length then 1 + (x.kids.map r).sum else r i, fun i j e => ?_, fun i hi k hk => ?_⟩
    · obtain ⟨h1, h2⟩ := h.rng i j e
      simp only [show i ≠ st.length by omega, show j ≠ st.length by omega, if_false]
      exact hr.link i j e
    · rcases Qdb st x i with ⟨a1, e⟩ | ⟨a1, e⟩ | ⟨a1, e⟩
      · rw [e] at hk
        have h1 := hs.kids i k hk
        simp only [show i ≠ st.length by omega, show k ≠ st.length by omega, if_false]
        exact hr.kid i hi k hk
      · rw [e] at hk
        have h1 := hx.kids k hk
        simp only [a1, show k ≠ st.length by omega, if_false, if_true]
        have := Jdf r hk
        omega
      · rw [e] at hk
        simp [SK.none] at hk
  · obtain ⟨h1, h2⟩ := h.rng i j e
    simp only [List.length_append, List.length_singleton]
    omega
  · obtain ⟨h1, h2⟩ := h.rng i j e
    rw [Qaz h1, Qaz h2]
    exact h.cong i j e
  · obtain ⟨h1, h2⟩ := h.rng i j e
    rw [Qaz h1, Qaz h2]
    exact h.low i j e
theorem Qyv (st : List SK) (x : SK) (lk : Nat → Option Nat) : unl (st ++ [x]) lk ≤ unl st lk + 1 := by
  unfold unl
  rw [List.length_append, List.length_singleton, List.range_succ, List.filter_append, List.length_append]
  have h1 : (List.range st.length).filter (fun i => (sk (st ++ [x]) i).kind == 61 && (lk i).isNone) = (List.range st.length).filter (fun i => (sk st i).kind == 61 && (lk i).isNone) := by
    apply List.filter_congr
    intro i hi
    rw [Qaz (List.mem_range.1 hi)]
  rw [h1]
  have h2 := List.length_filter_le (fun i => (sk (st ++ [x]) i).kind == 61 && (lk i).isNone) [st.length]
  simp only [List.length_singleton] at h2
  omega
structure Grown (st st' : List SK) : Prop where
  le : st.length ≤ st'.length
  same : ∀ i, i < st.length → sk st' i = sk st i
  t : ∀ θ i, i < st.length → T Classical.epsilon θ st' i = T Classical.epsilon θ st i
  inv : ∀ lk, Inv st lk → Inv st' lk
  unl : ∀ lk, unl st' lk ≤ unl st lk + (st'.length - st.length)
theorem Grown.refl (st : List SK) : Grown st st := ⟨Nat.le_refl _, fun _ _ => rfl, fun _ _ _ => rfl, fun _ h => h, fun _ => by omega⟩
theorem Grown.trans {a b c : List SK} (h : Grown a b) (h' : Grown b c) : Grown a c :=
  ⟨Nat.le_trans h.le h'.le, fun i hi => (h'.same i (Nat.lt_of_lt_of_le hi h.le)).trans (h.same i hi), fun θ i hi => (h'.t θ i (Nat.lt_of_lt_of_le hi h.le)).trans (h.t θ i hi), fun lk hI => h'.inv lk (h.inv lk hI), fun lk => by have := h.unl lk; have := h'.unl lk; have := h.le; have := h'.le; omega⟩
theorem Grown.push {st : List SK} {x : SK} (hs : Sts st) (hx : FitsIn st x) : Grown st (st ++ [x]) :=
  ⟨by simp, fun i hi => Qaz hi, fun θ i hi => Qyi hs hx θ i hi, fun lk h => h.push hs hx, fun lk => by have := Qyv st x lk; simp only [List.length_append, List.length_singleton]; omega⟩
theorem Grown.sat {st st' : List SK} (h : Grown st st') {lk : Nat → Option Nat} (hr : ∀ i j, lk i = some j → i < st.length ∧ j < st.length) (θ : Int → List Nd) : Sat θ st' lk ↔ Sat θ st lk := by
  constructor
  · intro hs i j e
    obtain ⟨h1, h2⟩ := hr i j e
    rw [← h.t θ i h1, ← h.t θ j h2]
    exact hs i j e
  · intro hs i j e
    obtain ⟨h1, h2⟩ := hr i j e
    rw [h.t θ i h1, h.t θ j h2]
    exact hs i j e
structure MsOk (st : List SK) (ms : List (Int × Nat)) : Prop where
  at' : ∀ p ∈ ms, p.2 < st.length ∧ (sk st p.2).kind = 61 ∧ (sk st p.2).num = p.1
  all : ∀ i, i < st.length → (sk st i).kind = 61 → ((sk st i).num, i) ∈ ms
  nd : (ms.map Prod.fst).Nodup
structure PutS (st0 : List SK) (ms0 : List (Int × Nat)) (ty : List Nd) (ys : List Sp) (k : Nat) (st : List SK) (at' : List Nat) (ms : List (Int × Nat)) : Prop where
  grown : Grown st0 st
  few : st.length ≤ st0.length + k
  sts : Sts st
  msok : MsOk st ms
  len : at'.length = k
  mean : ∀ i s a, i < k → ys[i]? = some s → at'[i]? = some a → a < st.length ∧ ∀ θ, T Classical.epsilon θ st a = fill θ (span ty s.fr i)
  occ : ∀ x, x ∈ ms.map Prod.fst ↔ x ∈ ms0.map Prod.fst ∨ x ∈ metas (ty.take k)
theorem PutS.start {st0 : List SK} {ms0 : List (Int × Nat)} (hs : Sts st0) (hm : MsOk st0 ms0) (ty : List Nd) (ys : List Sp) : PutS st0 ms0 ty ys 0 st0 [] ms0 :=
  ⟨Grown.refl _, by omega, hs, hm, rfl, fun i s a h => by omega, fun x => by simp [metas]⟩
theorem MsOk.grown {st st' : List SK} {ms : List (Int × Nat)} {x : SK} (h : MsOk st ms) (e : st' = st ++ [x]) (hx : x.kind ≠ 61) : MsOk st' ms := by
  subst e
  refine ⟨fun p hp => ?_, fun i hi hk => ?_, h.nd⟩
  · obtain ⟨h1, h2, h3⟩ := h.at' p hp
    rw [Qaz h1]
    exact ⟨by simp; omega, h2, h3⟩
  · rcases Qdb st x i with ⟨a1, e⟩ | ⟨a1, e⟩ | ⟨a1, e⟩
    · rw [e] at hk ⊢; exact h.all i a1 hk
    · rw [e] at hk; exact absurd hk hx
    · rw [e] at hk; simp [SK.none] at hk
theorem Qnt {ty : List Nd} {S ys : List Sp} {m k : Nat} (h : Qag ty m = some (S, ys)) (hk : k < m) (hkl : k < ty.length) (h0 : ty[k].kids = 0) {s : Sp} (hs : ys[k]? = some s) : span ty s.fr k = [ty[k]] := by
  obtain ⟨K, hK, hy⟩ := Qjb h k hk
  obtain ⟨_, hn⟩ := hK.num
  have hK0 : K = [] := List.eq_nil_of_length_eq_zero (by omega)
  subst hK0
  rw [hs] at hy
  simp only [Option.some.injEq] at hy
  subst hy
  rw [Qgz ty _ k hkl (by simp [over, frOf])]
  simp [over, frOf]
theorem Qia (ty : List Nd) (k : Nat) (hk : k < ty.length) (x : Int) : x ∈ metas (ty.take (k + 1)) ↔ x ∈ metas (ty.take k) ∨ (ty[k].kind = 61 ∧ x = ty[k].num) := by
  rw [List.take_succ_eq_append_getElem hk, Qau, List.mem_append]
  by_cases h : ty[k].kind = 61
  · simp [metas, h]
  · simp [metas, h]
section
variable {st0 st : List SK} {ms0 ms : List (Int × Nat)} {ty : List Nd} {ys S : List Sp} {k m : Nat} {at' : List Nat}
theorem PutS.known (h : PutS st0 ms0 ty ys k st at' ms) (ha : Qag ty m = some (S, ys)) (hk : k < m) (hkl : k < ty.length) (h61 : ty[k].kind = 61) (h0 : ty[k].kids = 0) {j : Nat} (hj : (ty[k].num, j) ∈ ms) : PutS st0 ms0 ty ys (k + 1) st (at' ++ [j]) ms := by
  obtain ⟨j1, j2, j3⟩ := h.msok.at' _ hj
  simp only at j1 j2 j3
  refine ⟨h.grown, by have := h.few; omega, h.sts, h.msok, by simp [h.len], fun i s a hi hs e => ?_, fun x => ?_⟩
  · by_cases hik : i < k
    · rw [List.getElem?_append_left (by rw [h.len]; exact hik)] at e
      exact h.mean i s a hik hs e
    · obtain rfl : i = k := by omega
      rw [List.getElem?_append_right (by rw [h.len]; omega), h.len, Nat.sub_self] at e
      simp only [List.getElem?_cons_zero, Option.some.injEq] at e
      subst e
      refine ⟨j1, fun θ => ?_⟩
      rw [Qiv θ h.sts j2, j3, Qnt ha hk hkl h0 hs]
      simp [fill, Qas, h61]
  · rw [h.occ x, Qia ty k hkl]
    have hx : ty[k].num ∈ ms.map Prod.fst := List.mem_map.2 ⟨_, hj, rfl⟩
    rw [h.occ] at hx
    constructor
    · rintro (h1 | h1)
      · exact .inl h1
      · exact .inr (.inl h1)
    · rintro (h1 | h1 | ⟨_, rfl⟩)
      · exact .inl h1
      · exact .inr h1
      · exact hx
theorem PutS.mean_old (h : PutS st0 ms0 ty ys k st at' ms) {x : SK} (hx : FitsIn st x) {i a : Nat} {s : Sp} (hik : i < k) (hs : ys[i]? = some s) (e : at'[i]? = some a) : a < (st ++ [x]).length ∧ ∀ θ, T Classical.epsilon θ (st ++ [x]) a = fill θ (span ty s.fr i) := by
  obtain ⟨h1, h2⟩ := h.mean i s a hik hs e
  refine ⟨by simp; omega, fun θ => ?_⟩
  rw [Qyi h.sts hx θ a h1]
  exact h2 θ
theorem PutS.fresh (h : PutS st0 ms0 ty ys k st at' ms) (ha : Qag ty m = some (S, ys)) (hk : k < m) (hkl : k < ty.length) (hp : ty[k].plainb = true) (h61 : ty[k].kind = 61) (h0 : ty[k].kids = 0) (hj : ∀ p ∈ ms, p.1 ≠ ty[k].num) : PutS st0 ms0 ty ys (k + 1) (st ++ [⟨61, ty[k].num, ByteArray.empty, []⟩]) (at' ++ [st.length]) (ms ++ [(ty[k].num, st.length)]) := by
  have hx : FitsIn st ⟨61, ty[k].num, ByteArray.empty, []⟩ := by
    refine ⟨fun k hk => by simp at hk, fun _ => rfl, fun _ i hi hki e => ?_, ?_, by simp⟩
    · exact hj _ (h.msok.all i hi hki) e
    · have e := Qdk hp h61
      rw [e] at hp
      exact hp
  have hnew := Qeu st ⟨61, ty[k].num, ByteArray.empty, []⟩
  refine ⟨h.grown.trans (Grown.push h.sts hx), by have := h.few; simp; omega, h.sts.push hx, ⟨fun p hp => ?_, fun i hi hki => ?_, ?_⟩, by simp [h.len], fun i s a hi hs e => ?_, fun x => ?_⟩
  · rcases List.mem_append.1 hp with hp | hp
    · obtain ⟨h1, h2, h3⟩ := h.msok.at' p hp
      rw [Qaz h1]
      exact ⟨by simp; omega, h2, h3⟩
    · simp only [List.mem_singleton] at hp
      subst hp
      simp only
      rw [hnew]
      exact ⟨by simp, rfl, rfl⟩
  · rcases Qdb st ⟨61, ty[k].num, ByteArray.empty, []⟩ i with ⟨a1, e⟩ | ⟨a1, e⟩ | ⟨a1, e⟩
    · rw [e] at hki ⊢
      exact List.mem_append_left _ (h.msok.all i a1 hki)
    · rw [e]
      simp [a1]
    · rw [e] at hki
      simp [SK.none] at hki
  · rw [List.map_append, List.nodup_append]
    refine ⟨h.msok.nd, by simp, fun a ha b hb => ?_⟩
    simp only [List.map_cons, List.map_nil, List.mem_singleton] at hb
    obtain ⟨p, hp, rfl⟩ := List.mem_map.1 ha
    rw [hb]
    exact hj p hp
  · by_cases hik : i < k
    · rw [List.getElem?_append_left (by rw [h.len]; exact hik)] at e
      exact h.mean_old hx hik hs e
    · obtain rfl : i = k := by omega
      rw [List.getElem?_append_right (by rw [h.len]; omega), h.len, Nat.sub_self] at e
      simp only [List.getElem?_cons_zero, Option.some.injEq] at e
      subst e
      refine ⟨by simp, fun θ => ?_⟩
      rw [Qiv θ (h.sts.push hx) (by rw [hnew]), hnew, Qnt ha hk hkl h0 hs]
      simp [fill, Qas, h61]
  · rw [Qia ty k hkl, List.map_append, List.mem_append, h.occ x]
    simp only [List.map_cons, List.map_nil, List.mem_singleton, h61, true_and]
    constructor
    · rintro ((h1 | h1) | h1)
      · exact .inl h1
      · exact .inr (.inl h1)
      · exact .inr (.inr h1)
    · rintro (h1 | h1 | h1)
      · exact .inl (.inl h1)
      · exact .inl (.inr h1)
      · exact .inr h1
theorem PutS.node (h : PutS st0 ms0 ty ys k st at' ms) (hkl : k < ty.length) (hp : ty[k].plainb = true) (h61 : ty[k].kind ≠ 61) (h6 : k ≤ 6000) {K : List Sp} (hK : KidsAt ty ys k K) (hy : ys[k]? = some (over K k)) {ks : List Nat} (hks : ks.length = K.length) (hka : ∀ r (h1 : r < K.length) (h2 : r < ks.length), at'[K[r].rt]? = some ks[r]) :
    PutS st0 ms0 ty ys (k + 1) (st ++ [⟨ty[k].kind, ty[k].num, ty[k].text, ks⟩]) (at' ++ [st.length]) ms := by
  obtain ⟨_, hn⟩ := hK.num
  have hnode : (⟨ty[k].kind, ty[k].num, ty[k].text, ks⟩ : SK).node = ty[k] := by
    have hpl := Qgp hp
    generalize ty[k] = q at *
    obtain ⟨kd, nm, tx, kc, pl⟩ := q
    simp only at hn hpl
    simp [SK.node, hpl, hn, hks]
  have hkm : ∀ r (h1 : r < K.length) (h2 : r < ks.length), ks[r] < st.length ∧ ∀ θ, T Classical.epsilon θ st ks[r] = fill θ (span ty K[r].fr K[r].rt) := by
    intro r h1 h2
    obtain ⟨m1, m2, m3⟩ := hK.mem r h1
    exact h.mean K[r].rt K[r] ks[r] m3 m1 (hka r h1 h2)
  have hx : FitsIn st ⟨ty[k].kind, ty[k].num, ty[k].text, ks⟩ := by
    refine ⟨fun q hq => ?_, fun e => absurd e h61, fun e => absurd e h61, by rw [hnode]; exact hp, by have := hK.len; simp only; omega⟩
    obtain ⟨r, hr, rfl⟩ := List.getElem_of_mem hq
    exact (hkm r (by simp only at hr; omega) hr).1
  have hnew := Qeu st ⟨ty[k].kind, ty[k].num, ty[k].text, ks⟩
  refine ⟨h.grown.trans (Grown.push h.sts hx), by have := h.few; simp; omega, h.sts.push hx, h.msok.grown rfl h61, by simp [h.len], fun i s a hi hs e => ?_, fun x => ?_⟩
  · by_cases hik : i < k
    · rw [List.getElem?_append_left (by rw [h.len]; exact hik)] at e
      exact h.mean_old hx hik hs e
    · obtain rfl : i = k := by omega
      rw [List.getElem?_append_right (by rw [h.len]; omega), h.len, Nat.sub_self] at e
      simp only [List.getElem?_cons_zero, Option.some.injEq] at e
      subst e
      refine ⟨by simp, fun θ => ?_⟩
      rw [hy] at hs
      simp only [Option.some.injEq] at hs
      subst hs
      have hcon := Qms hK
      rw [Qgc θ (h.sts.push hx) (by rw [hnew]; exact h61), hnew, hnode, Qgz ty _ i hkl (by have := hcon.le; exact this), Qaj]
      have e1 : ks.flatMap (T Classical.epsilon θ (st ++ [⟨ty[i].kind, ty[i].num, ty[i].text, ks⟩])) = ((Qae ty K).map (fill θ)).flatten := by
        rw [List.flatMap_def]
        congr 1
        apply List.ext_getElem
        · simp [Qae, hks]
        · intro r r1 r2
          simp only [List.length_map] at r1
          have r3 : r < K.length := by omega
          simp only [List.getElem_map, Qae]
          obtain ⟨q1, q2⟩ := hkm r r3 r1
          rw [Qyi h.sts hx θ _ q1, q2 θ]
      simp only
      rw [e1, ← Qbl, Qnb hcon (by omega)]
      congr 1
      simp [fill, Qas, h61]
  · rw [h.occ x, Qia ty k hkl]
    simp [h61]
end
end Go.Proofs.YtoiiibplkhedcaaGreatDoor
namespace Go.Proofs.YtoiiibplkhedcaaGreatDoor
theorem Jcp {st : List SK} (hs : Sts st) {lk : Nat → Option Nat} {r : Nat → Nat} (hr : Ranked st lk r) (hg : ∀ i j, lk i = some j → i < st.length ∧ j < st.length) {D : Nat → List Nd} (hD : IsD st lk D) : ∀ i, i < st.length → ∀ y ∈ D i, y.plainb = true := by
  intro i
  induction hn : r i using Nat.strongRecOn generalizing i with
  | ind n ih =>
    intro hi
    cases hl : lk i with
    | some j => rw [hD.link hl]; exact ih (r j) (by have := hr.link i j hl; omega) j rfl (hg i j hl).2
    | none =>
      rw [hD.node hl]
      intro y hy
      rcases List.mem_append.1 hy with hy | hy
      · obtain ⟨k, hk, hy⟩ := List.mem_flatMap.1 hy
        exact ih (r k) (by have := hr.kid i hl k hk; omega) k rfl (Nat.lt_trans (hs.kids i k hk) hi) y hy
      · simp only [List.mem_singleton] at hy
        subst hy
        exact hs.plain i hi
theorem Rt.low {st : List SK} {lk : Nat → Option Nat} (hI : Inv st lk) {i r : Nat} (h : Rt lk i r) : (sk st r).kind = 61 → (sk st i).kind = 61 ∧ (sk st r).num ≤ (sk st i).num := by
  induction h using Rt.elim with
  | root _ => exact fun h => ⟨h, Int.le_refl _⟩
  | @step i j r h1 _ ih =>
    intro hk
    obtain ⟨a1, a2⟩ := ih hk
    by_cases hi : (sk st i).kind = 61
    · have := hI.low i j h1 hi a1
      exact ⟨hi, by omega⟩
    · exact absurd a1 (hI.cong i j h1 hi).1
theorem Qtp (x : Int) (h : 1 ≤ x) : (Qav x).plainb = true := by simp [Nd.plainb, Qav, h]
theorem Qze {st : List SK} (hs : Sts st) {lk : Nat → Option Nat} (hI : Inv st lk) {D : Nat → List Nd} (hD : IsD st lk D) {ps : List (List Nd × List Nd)} (hsat : ∀ θ, (∀ x, One (θ x)) → (Sat θ st lk ↔ Solves θ ps)) : SolveOk ps (Qeq Classical.propDecidable Classical.epsilon st D) := by
  obtain ⟨r, hr⟩ := hI.rank
  refine ⟨Qfz hr hD, fun x hx1 => ?_, (hsat _ (Qfz hr hD)).1 (Jaz hs hI hD), fun θ hθ hsol x => ?_, fun x y e => ?_⟩
  · unfold Qeq
    split
    · rename_i hx
      exact List.all_eq_true.2 (Jcp hs hr hI.rng hD _ (Classical.epsilon_spec hx).1)
    · have := Qtp x hx1
      simpa [Qav] using this
  · by_cases hx : ∃ i, i < st.length ∧ (sk st i).kind = 61 ∧ (sk st i).num = x
    · obtain ⟨i, hi, hk, rfl⟩ := hx
      rw [Qje hs D hi hk, ← Qyp hs hr hD ((hsat θ hθ).2 hsol) i, Qiv θ hs hk]
    · unfold Qeq
      rw [if_neg hx]
      simp [fill, Qas]
  · by_cases hx : ∃ i, i < st.length ∧ (sk st i).kind = 61 ∧ (sk st i).num = x
    · obtain ⟨i, hi, hk, rfl⟩ := hx
      rw [Qje hs D hi hk] at e
      obtain ⟨q, hq⟩ := hr.rt i
      rw [hD.rt hq, hD.node hq.is_root] at e
      have e2 := congrArg List.getLast? e
      simp only [List.getLast?_append, List.getLast?_singleton, Option.some_or, Option.some.injEq] at e2
      have k1 : (sk st q).kind = 61 := congrArg Nd.kind e2
      have k2 : (sk st q).num = y := congrArg Nd.num e2
      rw [← k2]
      exact (hq.low hI k1).2
    · unfold Qeq at e
      rw [if_neg hx] at e
      have := Qfu (x := x) (y := y) e
      omega
structure LoopS (ps : List (List Nd × List Nd)) (i : Nat) (st : List SK) (lk : Nat → Option Nat) (ms : List (Int × Nat)) : Prop where
  sts : Sts st
  inv : Inv st lk
  msok : MsOk st ms
  sat : ∀ θ, (∀ x, One (θ x)) → (Sat θ st lk ↔ Solves θ (ps.take i))
  occ : ∀ x, x ∈ ms.map Prod.fst ↔ Occ (ps.take i) x
  few : st.length ≤ ((ps.take i).map fun p => p.1.length + p.2.length).sum
theorem Jbs : Sts [] := ⟨fun i k hk => by simp [sk, SK.none] at hk, fun i h => by simp [sk, SK.none] at h, fun i j hi => by simp at hi, fun i hi => by simp at hi, fun i => by simp [sk, SK.none]⟩
theorem Jcf : Inv [] (fun _ => none) := ⟨⟨fun _ => 0, fun i j e => by simp at e, fun i _ k hk => by simp [sk, SK.none] at hk⟩, fun i j e => by simp at e, fun i j e => by simp at e, fun i j e => by simp at e⟩
theorem LoopS.start (ps : List (List Nd × List Nd)) : LoopS ps 0 [] (fun _ => none) [] :=
  ⟨Jbs, Jcf, ⟨fun p hp => by simp at hp, fun i hi => by simp at hi, by simp⟩, fun θ _ => ⟨fun _ p hp => by simp at hp, fun _ i j e => by simp at e⟩, fun x => by simp [Occ], by simp⟩
structure TwoPut (A B : List Nd) (st : List SK) (ms : List (Int × Nat)) (st' : List SK) (a b : Nat) (ms' : List (Int × Nat)) : Prop where
  grown : Grown st st'
  sts : Sts st'
  msok : MsOk st' ms'
  ina : a < st'.length ∧ ∀ θ, T Classical.epsilon θ st' a = fill θ A
  inb : b < st'.length ∧ ∀ θ, T Classical.epsilon θ st' b = fill θ B
  occ : ∀ x, x ∈ ms'.map Prod.fst ↔ x ∈ ms.map Prod.fst ∨ x ∈ metas A ∨ x ∈ metas B
  few : st'.length ≤ st.length + A.length + B.length
theorem Qzy {ps : List (List Nd × List Nd)} {i : Nat} (hi : i < ps.length) (x : Int) : Occ (ps.take (i + 1)) x ↔ Occ (ps.take i) x ∨ x ∈ metas ps[i].1 ∨ x ∈ metas ps[i].2 := by
  rw [List.take_succ_eq_append_getElem hi]
  constructor
  · rintro ⟨p, hp, h⟩
    rcases List.mem_append.1 hp with hp | hp
    · exact .inl ⟨p, hp, h⟩
    · simp only [List.mem_singleton] at hp
      subst hp
      exact .inr h
  · rintro (⟨p, hp, h⟩ | h)
    · exact ⟨p, List.mem_append_left _ hp, h⟩
    · exact ⟨ps[i], List.mem_append_right _ (List.mem_singleton.2 rfl), h⟩
theorem Qjm {θ : Int → List Nd} {ps : List (List Nd × List Nd)} {i : Nat} (hi : i < ps.length) : Solves θ (ps.take (i + 1)) ↔ Solves θ (ps.take i) ∧ fill θ ps[i].1 = fill θ ps[i].2 := by
  rw [List.take_succ_eq_append_getElem hi]
  constructor
  · intro h
    exact ⟨fun p hp => h p (List.mem_append_left _ hp), h ps[i] (List.mem_append_right _ (List.mem_singleton.2 rfl))⟩
  · rintro ⟨h1, h2⟩ p hp
    rcases List.mem_append.1 hp with hp | hp
    · exact h1 p hp
    · simp only [List.mem_singleton] at hp
      subst hp
      exact h2
theorem LoopS.next {ps : List (List Nd × List Nd)} {i : Nat} {st st' : List SK} {lk lk' : Nat → Option Nat} {ms ms' : List (Int × Nat)} {a b : Nat} (h : LoopS ps i st lk ms) (hi : i < ps.length) (h2 : TwoPut ps[i].1 ps[i].2 st ms st' a b ms') (hu : UOk st' lk a b lk') : LoopS ps (i + 1) st' lk' ms' := by
  refine ⟨h2.sts, hu.inv, h2.msok, fun θ hθ => ?_, fun x => ?_, ?_⟩
  · rw [hu.sat θ hθ, Qjm hi, h2.grown.sat h.inv.rng θ, h.sat θ hθ, h2.ina.2 θ, h2.inb.2 θ]
  · rw [h2.occ x, h.occ x, Qzy hi]
  · have h3 := h.few
    have h4 := h2.few
    rw [List.take_succ_eq_append_getElem hi, List.map_append, List.sum_append]
    simp only [List.map_cons, List.map_nil, List.sum_cons, List.sum_nil]
    omega
theorem LoopS.no {ps : List (List Nd × List Nd)} {i : Nat} {st st' : List SK} {lk : Nat → Option Nat} {ms ms' : List (Int × Nat)} {a b : Nat} (h : LoopS ps i st lk ms) (hv : Qbf ps) (hi : i < ps.length) (h2 : TwoPut ps[i].1 ps[i].2 st ms st' a b ms') (hu : UNo st' lk a b) : SolveRes ps false i [] := by
  refine .no i hv hi ?_ (fun θ hθ hsol => ?_)
  · obtain ⟨r, hr⟩ := h.inv.rank
    obtain ⟨D, hD⟩ := hr.exists_D
    exact ⟨Qeq Classical.propDecidable Classical.epsilon st D, Qfz hr hD, (h.sat _ (Qfz hr hD)).1 (Jaz h.sts h.inv hD)⟩
  · obtain ⟨h3, h4⟩ := (Qjm hi).1 hsol
    refine hu θ hθ ((h2.grown.sat h.inv.rng θ).2 ((h.sat θ hθ).2 h3)) ?_
    rw [h2.ina.2 θ, h2.inb.2 θ]
    exact h4
theorem LoopS.done {ps : List (List Nd × List Nd)} {st : List SK} {lk : Nat → Option Nat} {ms : List (Int × Nat)} (h : LoopS ps ps.length st lk ms) {D : Nat → List Nd} (hD : IsD st lk D) : SolveOk ps (Qeq Classical.propDecidable Classical.epsilon st D) ∧ (∀ p ∈ ms, Qeq Classical.propDecidable Classical.epsilon st D p.1 = D p.2) ∧ ∀ x, x ∈ ms.map Prod.fst ↔ Occ ps x := by
  have e : ps.take ps.length = ps := List.take_of_length_le (Nat.le_refl _)
  refine ⟨Qze h.sts h.inv hD (fun θ hθ => by rw [h.sat θ hθ, e]), fun p hp => ?_, fun x => by rw [h.occ x, e]⟩
  obtain ⟨h1, h2, h3⟩ := h.msok.at' p hp
  rw [← h3]
  exact Qje h.sts D h1 h2
theorem Jbu {A B : List Nd} {st stA stB : List SK} {ms msA msB : List (Int × Nat)} {yA yB : List Sp} {mA mB : Nat} {aA aB : List Nat} {a b : Nat} (hA : A.length = mA) (hB : B.length = mB) (hpA : PutS st ms A yA mA stA aA msA) (hpB : PutS stA msA B yB mB stB aB msB) (tA : ∃ s, 0 < mA ∧ yA[mA - 1]? = some s ∧ span A s.fr (mA - 1) = A) (tB : ∃ s, 0 < mB ∧ yB[mB - 1]? = some s ∧ span B s.fr (mB - 1) = B) (ha : aA[mA - 1]? = some a) (hb : aB[mB - 1]? = some b) : TwoPut A B st ms stB a b msB := by
  obtain ⟨sA, a0, a1, a2⟩ := tA
  obtain ⟨sB, b0, b1, b2⟩ := tB
  obtain ⟨x1, x2⟩ := hpA.mean (mA - 1) sA a (by omega) a1 ha
  obtain ⟨y1, y2⟩ := hpB.mean (mB - 1) sB b (by omega) b1 hb
  rw [a2] at x2
  rw [b2] at y2
  refine ⟨hpA.grown.trans hpB.grown, hpB.sts, hpB.msok, ⟨Nat.lt_of_lt_of_le x1 hpB.grown.le, fun θ => by rw [hpB.grown.t θ a x1]; exact x2 θ⟩, ⟨y1, y2⟩, fun x => ?_, by have := hpA.few; have := hpB.few; omega⟩
  rw [hpB.occ x, hpA.occ x, List.take_of_length_le (by omega), List.take_of_length_le (by omega), or_assoc]
end Go.Proofs.YtoiiibplkhedcaaGreatDoor
