
import Derived.Test.YtocidoamfofefaaSchN
import Derived.Test.YtocidoamfofefaaEq
import Derived.Test.YtocidoamfofefaaISs
namespace Go.Proofs.Ytocidoamfofefaa

theorem lastTo_nodup {l : List Int} (hn : l.Nodup) {p : Nat} {x : Int} (hp : l[p]? = some x) : lastTo l x l.length = (p : Int) := by
  have hpl := (List.getElem?_eq_some_iff.1 hp).1
  have key : ∀ k, k ≤ l.length → p < k → lastTo l x k = (p : Int) := by
    intro k
    induction k with
    | zero => intro _ h; omega
    | succ k ih =>
      intro hk hpk
      by_cases e : p = k
      · subst e; exact lastTo_hit hp
      · rw [lastTo_miss, ih (by omega) (by omega)]
        intro h9
        have hkl : k < l.length := by omega
        rw [List.getElem?_eq_getElem hpl] at hp
        rw [List.getElem?_eq_getElem hkl] at h9
        simp only [Option.some.injEq] at hp h9
        exact List.pairwise_iff_getElem.1 hn p k hpl hkl (by omega) (by rw [hp, h9])
  exact key l.length (Nat.le_refl _) hpl

/-- What a scheme's node carries. -/
theorem FormC.facts {t : List Nd} (h : FormC t) {i : Nat} (hi : i < t.length) :
    (ndAt t i).place = 0 ∧ ((ndAt t i).kind = 60 ∨ (ndAt t i).kind = 62 → 1 ≤ (ndAt t i).num ∧ (ndAt t i).text.size = 0) ∧ ((ndAt t i).kind ≠ 60 → (ndAt t i).kind ≠ 62 → (ndAt t i).num = 0) ∧ ((ndAt t i).kind = 60 → (ndAt t i).kids = 0) ∧ ((ndAt t i).kind = 62 → (ndAt t i).kids = 1) := by
  obtain ⟨h0, S, ys, hA, hS1⟩ := one_rawS h.2.1
  have h1 := h.node hi
  have h2 := h.sch hi
  obtain ⟨Si, hSi, hkt, hK⟩ := kids_atS hA i hi
  have hn : (ndAt t i).kids = ((kidsN t i).length : Int) := by
    rw [ndAt_get hi, kidsN_eq hSi hkt, List.length_map]
    exact hK.num.choose_spec
  obtain ⟨x, hx⟩ : ∃ x, ndAt t i = x := ⟨_, rfl⟩
  obtain ⟨ks, hks⟩ : ∃ ks, kidsN t i = ks := ⟨_, rfl⟩
  rw [hx, hks] at h1 hn
  rw [hx] at h2 ⊢
  clear hx hks hK hSi
  unfold nodeOk at h1
  simp only [Bool.and_eq_true, beq_iff_eq] at h1
  obtain ⟨⟨⟨⟨-, -⟩, hpl⟩, hown⟩, hkids⟩ := h1
  obtain ⟨k, nm, tx, kk, pl⟩ := x
  simp only at hpl hown hkids hn
  have hkk : k = 62 ∨ k = 12 ∨ k = 13 ∨ k = 14 ∨ k = 60 := by
    unfold pScheme pType at h2
    simp at h2
    omega
  rcases hkk with rfl | rfl | rfl | rfl | rfl
  · have ho : pNumb ⟨62, nm, tx, kk, pl⟩ = true := hown
    have hk' : fitAll [pScheme] ks = true := hkids
    have hl : ks.length = 1 := by
      rcases Nat.lt_or_ge ks.length 1 with h9 | h9
      · rw [fitAll_ne _ _ (by simp; omega)] at hk'; cases hk'
      · rcases Nat.lt_or_ge 1 ks.length with h8 | h8
        · rw [fitAll_ne _ _ (by simp; omega)] at hk'; cases hk'
        · omega
    simp [pNumb] at ho
    refine ⟨hpl, fun _ => ⟨by show 1 ≤ nm; omega, ?_⟩, fun _ h => absurd rfl h, fun h => absurd h (by simp), fun _ => by show kk = 1; omega⟩
    have h9 := ho.2
    first | exact h9 | (rw [h9]; rfl)
  · have ho : pText ⟨12, nm, tx, kk, pl⟩ = true := hown
    simp [pText] at ho
    exact ⟨hpl, fun h => absurd h (by simp), fun _ _ => ho, fun h => absurd h (by simp), fun h => absurd h (by simp)⟩
  · have ho : pBare ⟨13, nm, tx, kk, pl⟩ = true := hown
    simp [pBare] at ho
    exact ⟨hpl, fun h => absurd h (by simp), fun _ _ => ho.1, fun h => absurd h (by simp), fun h => absurd h (by simp)⟩
  · have ho : pBare ⟨14, nm, tx, kk, pl⟩ = true := hown
    simp [pBare] at ho
    exact ⟨hpl, fun h => absurd h (by simp), fun _ _ => ho.1, fun h => absurd h (by simp), fun h => absurd h (by simp)⟩
  · have ho : pNumb ⟨60, nm, tx, kk, pl⟩ = true := hown
    have hk' : fitAll [] ks = true := hkids
    have hl : ks.length = 0 := by
      match ks, hk' with
      | [], _ => rfl
      | a :: ks, hk' => simp [fitAll] at hk'
    simp [pNumb] at ho
    refine ⟨hpl, fun _ => ⟨by show 1 ≤ nm; omega, ?_⟩, fun h _ => absurd rfl h, fun _ => by show kk = 0; omega, fun h => absurd h (by simp)⟩
    have h9 := ho.2
    first | exact h9 | (rw [h9]; rfl)

theorem sgAt_of {l : List Int} {x : Int} : (sgAt l x = 0 ↔ lastTo l x l.length = -1) ∧ (lastTo l x l.length ≠ -1 → sgAt l x = -1 - lastTo l x l.length) := by
  have h := lastTo_ge l x l.length
  unfold sgAt
  constructor
  · split
    · rename_i h1; simp [h1]
    · rename_i h1
      constructor
      · intro e; omega
      · intro e; exact absurd e h1
  · intro h1
    rw [if_neg h1]

theorem bytes0 {a b : ByteArray} (ha : a.size = 0) (hb : b.size = 0) : a.toList = b.toList := by
  have h1 : a = b := by
    apply ByteArray.ext
    apply Array.ext
    · show a.size = b.size; omega
    · intro i h1 h2
      have : i < a.size := h1
      omega
  rw [h1]

theorem sgAt_zero {t : List Nd} (h : FormC t) : sgAt (bkL t (alls t t.length)) 0 = 0 := by
  rw [sgAt_of.1, lastTo_none]
  intro i hi he
  have hE := h.endA
  have hl := hE.lt
  have hiA : i < alls t t.length := by rw [bkL_len] at hi; exact hi
  rw [bkL_get hiA] at he
  simp only [Option.some.injEq] at he
  have h9 := ((h.facts (i := t.length - 1 - i) (by omega)).2.1 (.inr (hE.all i hiA))).1
  omega

/-- Two nodes ahead of the TAlls: the model's levels say what the program's closure says. -/
theorem clos_eq {kx ky : List Int} {x y : Nd} (hx : x.kind ≠ 62) (hy : y.kind ≠ 62)
    (fx : x.place = 0 ∧ (x.kind = 60 → 1 ≤ x.num ∧ x.text.size = 0 ∧ x.kids = 0) ∧ (x.kind ≠ 60 → x.num = 0)) (fy : y.place = 0 ∧ (y.kind = 60 → 1 ≤ y.num ∧ y.text.size = 0 ∧ y.kids = 0) ∧ (y.kind ≠ 60 → y.num = 0)) (hz : sgAt ky 0 = 0) :
    Nd.sameb (levN kx x) (levN ky y) = closB kx ky x y := by
  obtain ⟨xk, xn, xt, xc, xp⟩ := x
  obtain ⟨yk, yn, yt, yc, yp⟩ := y
  simp only at hx hy fx fy
  obtain ⟨rfl, f2, f3⟩ := fx
  obtain ⟨rfl, g2, g3⟩ := fy
  have gx := lastTo_ge kx xn kx.length
  have gy := lastTo_ge ky yn ky.length
  rw [Bool.eq_iff_iff]
  unfold closB levN Nd.sameb Nd.eqb
  simp only
  by_cases h60 : xk = 60
  · subst h60
    obtain ⟨n1, n2, rfl⟩ := f2 rfl
    by_cases k60 : yk = 60
    · subst k60
      obtain ⟨m1, m2, rfl⟩ := g2 rfl
      have ht := bytes0 n2 m2
      by_cases hs : lastTo kx xn kx.length = -1
      · have s0 : sgAt kx xn = 0 := sgAt_of.1.2 hs
        by_cases hs2 : lastTo ky yn ky.length = -1
        · have s2 : sgAt ky yn = 0 := sgAt_of.1.2 hs2
          simp [hs, hs2, s0, s2, ht]
        · have s2 := sgAt_of.2 hs2
          have s3 : sgAt ky yn ≠ 0 := by omega
          have p2 : 0 ≤ lastTo ky yn ky.length := by omega
          simp [hs, s0, s3, ht, p2]
          intro e
          omega
      · have s0 := sgAt_of.2 hs
        have s1 : sgAt kx xn ≠ 0 := by omega
        have p1 : 0 ≤ lastTo kx xn kx.length := by omega
        by_cases hs2 : lastTo ky yn ky.length = -1
        · have s2 : sgAt ky yn = 0 := sgAt_of.1.2 hs2
          simp [hs2, s1, s2, ht, p1]
          omega
        · have s2 := sgAt_of.2 hs2
          have p2 : 0 ≤ lastTo ky yn ky.length := by omega
          simp [s1, ht, p1, p2]
          rw [s0, s2]
          omega
    · have e0 : ¬ (60 = yk) := fun e => k60 e.symm
      have : ¬ (yk = 60 ∨ yk = 62) := by omega
      rw [if_neg this]
      rw [if_pos (Or.inl rfl)]
      split <;> simp [e0, k60]
  · have e1 : ¬ (xk = 60 ∨ xk = 62) := by omega
    have hxn := f3 h60
    subst hxn
    by_cases k60 : yk = 60
    · subst k60
      have e2 : ¬ (xk = 60) := h60
      rw [if_neg e1, if_pos (Or.inl rfl)]
      split <;> simp [e2]
    · have e2 : ¬ (yk = 60 ∨ yk = 62) := by omega
      have hyn := g3 k60
      subst hyn
      rw [if_neg e1, if_neg e2]
      simp [h60, hz]

theorem levN_kind (k : List Int) (x : Nd) : (levN k x).kind = x.kind := by
  unfold levN
  split
  · split <;> rfl
  · rfl

theorem alls_congr {xs ys : List Nd} (m : Nat) (h : ∀ i, i < m → (ndAt xs i).kind = (ndAt ys i).kind) : alls xs m = alls ys m := by
  induction m with
  | zero => rfl
  | succ m ih =>
    have h1 := ih (fun i hi => h i (by omega))
    have h2 := h m (by omega)
    simp only [alls]
    rw [h1, h2]

/-- A TAll's level is its place from the end. -/
theorem levN_all {t : List Nd} (h : FormC t) (hn : (bkL t (alls t t.length)).Nodup) {p : Nat} (hp : p < alls t t.length) : levN (bkL t (alls t t.length)) (ndAt t (t.length - 1 - p)) = { ndAt t (t.length - 1 - p) with num := -1 - (p : Int) } := by
  have h62 := h.endA.all p hp
  have hl := lastTo_nodup hn (bkL_get (t := t) hp)
  unfold levN
  rw [if_pos (Or.inr h62), hl, if_pos (by omega)]

/-- What the model answers. -/
def SameS (xs ys : List Nd) : Prop :=
  SchS xs ∧ SchS ys ∧ Alike Nd.sameb (xs.map (levN (bkL xs (alls xs xs.length)))) (ys.map (levN (bkL ys (alls ys ys.length))))

theorem same_eqS (xs ys : List Nd) : SameS xs ys ↔ SameI xs ys := by
  have key : ∀ (hx : FormC xs) (hy : FormC ys) (nx : (bkL xs (alls xs xs.length)).Nodup) (ny : (bkL ys (alls ys ys.length)).Nodup) (hl : xs.length = ys.length) (i : Nat), i < xs.length - alls xs xs.length → i < ys.length - alls ys ys.length →
      Nd.sameb (levN (bkL xs (alls xs xs.length)) (ndAt xs i)) (levN (bkL ys (alls ys ys.length)) (ndAt ys i)) = closB (bkL xs (alls xs xs.length)) (bkL ys (alls ys ys.length)) (ndAt xs i) (ndAt ys i) := by
    intro hx hy nx ny hl i hi hi'
    have f := hx.facts (i := i) (by omega)
    have g := hy.facts (i := i) (by omega)
    have a1 := hx.ahead hi
    have a2 := hy.ahead hi'
    exact clos_eq a1 a2 ⟨f.1, fun h => ⟨(f.2.1 (.inl h)).1, (f.2.1 (.inl h)).2, f.2.2.2.1 h⟩, fun h => f.2.2.1 h a1⟩ ⟨g.1, fun h => ⟨(g.2.1 (.inl h)).1, (g.2.1 (.inl h)).2, g.2.2.2.1 h⟩, fun h => g.2.2.1 h a2⟩ (sgAt_zero hy)
  have at' : ∀ (f : Nd → Nd → Bool) (k k' : List Int), Alike f (xs.map (levN k)) (ys.map (levN k')) ↔ xs.length = ys.length ∧ ∀ i, i < xs.length → f (levN k (ndAt xs i)) (levN k' (ndAt ys i)) = true := by
    intro f k k'
    unfold Alike
    simp only [List.length_map]
    refine and_congr_right fun hl => ?_
    constructor
    · intro h i hi
      have h9 := h i hi (by omega)
      rw [ndAt_get hi, ndAt_get (show i < ys.length by omega)]
      simpa using h9
    · intro h i hi hi'
      have h9 := h i hi
      rw [ndAt_get hi, ndAt_get hi'] at h9
      simpa using h9
  unfold SameS SameI
  rw [sch_iff, sch_iff, at']
  constructor
  · rintro ⟨⟨hx, nx⟩, ⟨hy, ny⟩, hl, hall⟩
    have hA : alls xs xs.length = alls ys ys.length := by
      rw [← hl]
      refine alls_congr _ fun i hi => ?_
      have h9 := hall i hi
      unfold Nd.sameb at h9
      simp only [Bool.and_eq_true, beq_iff_eq, levN_kind] at h9
      exact h9.1.1.1
    refine ⟨hx, hy, hl, nx, ny, hA, fun i hi => ?_⟩
    rw [← key hx hy nx ny hl i hi (by omega)]
    exact hall i (by omega)
  · rintro ⟨hx, hy, hl, nx, ny, hA, hall⟩
    refine ⟨⟨hx, nx⟩, ⟨hy, ny⟩, hl, fun i hi => ?_⟩
    by_cases hc : i < xs.length - alls xs xs.length
    · rw [key hx hy nx ny hl i hc (by omega)]
      exact hall i hc
    · have hlx := hx.endA.lt
      obtain ⟨p, hp⟩ : ∃ p, i = xs.length - 1 - p := ⟨xs.length - 1 - i, by omega⟩
      have hpA : p < alls xs xs.length ∨ xs.length - 1 < p := by omega
      have hp2 : xs.length - 1 - i < alls xs xs.length := by omega
      have e1 : i = xs.length - 1 - (xs.length - 1 - i) := by omega
      have e2 : i = ys.length - 1 - (xs.length - 1 - i) := by omega
      have l1 := levN_all hx nx hp2
      have l2 := levN_all hy ny (p := xs.length - 1 - i) (by omega)
      rw [← e1] at l1
      rw [← e2] at l2
      have k1 := hx.endA.all _ hp2
      have k2 := hy.endA.all (xs.length - 1 - i) (by omega)
      rw [← e1] at k1
      rw [← e2] at k2
      have f := hx.facts hi
      have g := hy.facts (i := i) (by omega)
      rw [l1, l2]
      unfold Nd.sameb
      simp only
      rw [k1, k2, f.2.2.2.2 k1, g.2.2.2.2 k2, bytes0 (f.2.1 (.inr k1)).2 (g.2.1 (.inr k2)).2]
      simp

end Go.Proofs.Ytocidoamfofefaa
