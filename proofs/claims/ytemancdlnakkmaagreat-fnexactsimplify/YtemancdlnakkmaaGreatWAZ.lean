import Derived.Test.YtemancdlnakkmaaGreatWAY
import Derived.Test.YtemancdlnakkmaaGreatWAG
import Derived.Deep.RegionHeld3
import Derived.BigQuiet
import Derived.BigGuard
namespace Go.Proofs.YtemancdlnakkmaaGreat
theorem fit0T {ks : List Tre} (h : fitAll [] (ks.map Tre.nd) = true) : ks = [] := by
  cases ks with
  | nil => rfl
  | cons a ks => simp [fitAll] at h
theorem fit1T {p : Nd → Bool} {ks : List Tre} (h : fitAll [p] (ks.map Tre.nd) = true) : ∃ a, ks = [a] ∧ p a.nd = true := by
  cases ks with
  | nil => simp [fitAll] at h
  | cons a ks =>
    cases ks with
    | nil => simp [fitAll] at h; exact ⟨a, rfl, h⟩
    | cons b ks => simp [fitAll] at h
theorem fit2T {p q : Nd → Bool} {ks : List Tre} (h : fitAll [p, q] (ks.map Tre.nd) = true) : ∃ a b, ks = [a, b] ∧ p a.nd = true ∧ q b.nd = true := by
  cases ks with
  | nil => simp [fitAll] at h
  | cons a ks =>
    cases ks with
    | nil => simp [fitAll] at h
    | cons b ks =>
      cases ks with
      | nil => simp [fitAll] at h; exact ⟨a, b, rfl, h.1, h.2⟩
      | cons c ks => simp [fitAll] at h
theorem PlN.fits {n : Nd} {ks : List Tre} (h : PlN n ks) : plainKids n.kind.toNat n (ks.map Tre.nd) = true := by
  obtain ⟨p, -, -, -, -, -, h5⟩ := nodeOk_parts h.node
  exact h5
theorem PlN.own {n : Nd} {ks : List Tre} (h : PlN n ks) : ∃ p, plainOwn n.kind.toNat = some p ∧ p n = true := by
  obtain ⟨p, h0, -, -, -, h4, -⟩ := nodeOk_parts h.node
  exact ⟨p, h0, h4⟩
theorem PlN.at {n : Nd} {ks : List Tre} (h : PlN n ks) (k : Nat) (hk : n.kind = (k : Int)) : plainKids k n (ks.map Tre.nd) = true := by
  have := h.fits
  rw [hk] at this
  simpa using this
theorem PlN.ownAt {n : Nd} {ks : List Tre} (h : PlN n ks) (k : Nat) (hk : n.kind = (k : Int)) {p : Nd → Bool} (hp : plainOwn k = some p) : p n = true := by
  obtain ⟨q, h1, h2⟩ := h.own
  rw [hk] at h1
  simp only [Int.toNat_natCast] at h1
  rw [hp] at h1
  cases h1
  exact h2
theorem PlN.numb {n : Nd} {ks : List Tre} (h : PlN n ks) (hk : n.kind = 70 ∨ n.kind = 76 ∨ n.kind = 80 ∨ n.kind = 82 ∨ n.kind = 90 ∨ n.kind = 91) : 1 ≤ n.num ∧ n.text.size = 0 := by
  have h1 : pNumb n = true := by
    rcases hk with e | e | e | e | e | e
    · exact h.ownAt 70 e rfl
    · exact h.ownAt 76 e rfl
    · exact h.ownAt 80 e rfl
    · exact h.ownAt 82 e rfl
    · exact h.ownAt 90 e rfl
    · exact h.ownAt 91 e rfl
  simp [pNumb] at h1
  exact ⟨by omega, by rw [h1.2]; rfl⟩
theorem PlN.code2 {n : Nd} {ks : List Tre} (h : PlN n ks) (hk : n.kind = 77 ∨ n.kind = 80 ∨ n.kind = 88) : ∃ a b, ks = [a, b] ∧ pCode a.nd = true ∧ pCode b.nd = true := by
  rcases hk with e | e | e
  · exact fit2T (h.at 77 e)
  · exact fit2T (h.at 80 e)
  · exact fit2T (h.at 88 e)
theorem PlN.code1 {n : Nd} {ks : List Tre} (h : PlN n ks) (hk : n.kind = 76 ∨ n.kind = 89) : ∃ a, ks = [a] ∧ pCode a.nd = true := by
  rcases hk with e | e
  · exact fit1T (h.at 76 e)
  · exact fit1T (h.at 89 e)
theorem PlN.leaf {n : Nd} {ks : List Tre} (h : PlN n ks) (hk : n.kind = 70 ∨ n.kind = 71 ∨ n.kind = 72 ∨ n.kind = 73 ∨ n.kind = 74) : ks = [] := by
  rcases hk with e | e | e | e | e
  · exact fit0T (h.at 70 e)
  · exact fit0T (h.at 71 e)
  · exact fit0T (h.at 72 e)
  · exact fit0T (h.at 73 e)
  · exact fit0T (h.at 74 e)
theorem PlN.cas {n : Nd} {ks : List Tre} (h : PlN n ks) (hk : n.kind = 83) : ∃ v rs, ks = v :: rs ∧ pCode v.nd = true ∧ ∀ r ∈ rs, r.nd.kind = 84 := by
  have h1 : firstB pCode (pKind 84) (ks.map Tre.nd) = true := h.at 83 hk
  cases ks with
  | nil => simp [firstB] at h1
  | cons v rs =>
    simp [firstB, ndAt] at h1
    refine ⟨v, rs, rfl, h1.1.2, fun r hr => ?_⟩
    have := h1.2 r hr
    simpa [pKind] using this
theorem PlN.rul {n : Nd} {ks : List Tre} (h : PlN n ks) (hk : n.kind = 84) : ∃ p c, ks = [p, c] ∧ pPat p.nd = true ∧ pCode c.nd = true := fit2T (h.at 84 hk)
theorem patK_pPat (x : Nd) : patK x = pPat x := by
  rw [Bool.eq_iff_iff]
  simp [patK, pPat]
  omega
theorem PlT.sh {T : Tre} (h : PlT T) : ShT T := by
  revert h
  refine Tre.ind (p := fun T => PlT T → ShT T) ?_ T
  intro n ks ih h
  refine .mk n ks ?_ (fun k hk => ih k hk (h.kid k hk))
  have hN := h.node
  refine ⟨?_, ?_, ?_, ?_, ?_, ?_, ?_, ?_, ?_, ?_, hN.text, hN.num, hN.len, hN.kids⟩
  · intro e; obtain ⟨a, b, h1, -, -⟩ := hN.code2 (.inl e); exact ⟨a, b, h1⟩
  · intro e; obtain ⟨a, b, h1, -, -⟩ := hN.code2 (.inr (.inl e)); exact ⟨a, b, h1⟩
  · intro e; obtain ⟨a, b, h1, -, -⟩ := hN.code2 (.inr (.inr e)); exact ⟨a, b, h1⟩
  · intro e; obtain ⟨a, h1, -⟩ := hN.code1 (.inr e); exact ⟨a, h1⟩
  · intro e; obtain ⟨a, h1, -⟩ := hN.code1 (.inl e); exact ⟨a, h1⟩
  · intro e; obtain ⟨v, rs, h1, -, h2⟩ := hN.cas e; exact ⟨v, rs, h1, h2⟩
  · intro e; obtain ⟨p, c, h1, h2, -⟩ := hN.rul e; exact ⟨p, c, h1, by rw [patK_pPat]; exact h2⟩
  · intro e
    obtain ⟨p, h1, h2⟩ := fit1T (p := pPat) (hN.at 91 e)
    exact ⟨p, h1, by rw [patK_pPat]; exact h2⟩
  · intro e
    have h1 : (decide (((ks.map Tre.nd).length : Int) ≤ 1) && (ks.map Tre.nd).all pPat) = true := hN.at 19 e
    simp at h1
    cases ks with
    | nil => exact .inl rfl
    | cons p ks =>
      cases ks with
      | nil => exact .inr ⟨p, rfl, by rw [patK_pPat]; exact h1.2 p (by simp)⟩
      | cons q ks => exfalso; have := h1.1; simp at this; omega
  · intro e p hp
    have h1 : ((((ks.map Tre.nd).length : Int) != 1) && (ks.map Tre.nd).all pPat) = true := hN.at 20 e
    simp at h1
    rw [patK_pPat]
    exact h1.2 p hp
theorem cls_code {x : Nd} : cls x = 1 ↔ pCode x = true := by rw [pCode_cls]; simp
structure Kept (k k' : Tre) : Prop where
  pl : PlT k'
  cl : cls k'.nd = cls k.nd
  le : (outT k').length ≤ (outT k).length
theorem len_one (n : Nd) (ks : List Tre) : (outT (.mk n ks)).length = (ks.map outT).flatten.length + 1 := by rw [outT_eq]; simp
theorem out_pos (T : Tre) : 1 ≤ (outT T).length := by
  cases T with
  | mk n ks => rw [len_one]; omega
theorem leaf_pl {kd nm : Int} {tx : ByteArray} {p : Nd → Bool} (k : Nat) (hk : kd = (k : Int)) (hlt : k < 92) (h0 : plainOwn k = some p) (h4 : p ⟨kd, nm, tx, 0, 0⟩ = true) (h5 : plainKids k ⟨kd, nm, tx, 0, 0⟩ [] = true) (ht : tx.size ≤ 1048576) (hn : (Lit.int .i64 nm).wf = true) : PlT (leafT kd nm tx) := by
  subst hk
  exact .mk _ _ ⟨nodeOk_of (p := p) (by simpa using h0) (by show (0 : Int) ≤ k; omega) (by show (k : Int) < 92; omega) rfl h4 (by simpa using h5), ht, hn, by simp, rfl⟩ (by simp)
theorem wrap_wf (x : Int) : (Lit.int .i64 (IntKind.i64.wrap x)).wf = true := by
  rw [IntKind.wrap_i64]
  simp only [Lit.wf, Bool.and_eq_true, decide_eq_true_eq]
  show (-9223372036854775808 : Int) ≤ _ ∧ _ ≤ (9223372036854775807 : Int)
  omega
theorem let_pl {nm : Int} {a b : Tre} (h1 : 1 ≤ nm) (hn : (Lit.int .i64 nm).wf = true) (ha : PlT a) (hb : PlT b) (ca : pCode a.nd = true) (cb : pCode b.nd = true) : PlT (mkT ⟨80, nm, ⟨#[]⟩, 0, 0⟩ [a, b]) := by
  refine .mk _ _ ⟨nodeOk_of (p := pNumb) rfl (show (0 : Int) ≤ 80 by decide) (show (80 : Int) < 92 by decide) rfl ?_ ?_, show 0 ≤ 1048576 by decide, hn, by simp, rfl⟩ ?_
  · show (decide (nm > 0) && _) = true
    rw [decide_eq_true (by omega : nm > 0)]
    rfl
  · show fitAll [pCode, pCode] [a.nd, b.nd] = true
    simp [fitAll, ca, cb]
  · intro k hk
    simp at hk
    rcases hk with rfl | rfl
    · exact ha
    · exact hb
structure LeafOk (R : Tre) : Prop where
  pl : PlT R
  cl : cls R.nd = 1
  one : (outT R).length = 1
theorem leaf_len (kd nm : Int) (tx : ByteArray) : (outT (leafT kd nm tx)).length = 1 := by
  rw [leafT, mkT, len_one]; rfl
theorem int_leafok (x : Int) : LeafOk (leafT 72 (IntKind.i64.wrap x) ⟨#[]⟩) :=
  ⟨leaf_pl (p := pNum) 72 rfl (by decide) rfl rfl rfl (by decide) (wrap_wf x), cls_code.2 rfl, leaf_len _ _ _⟩
theorem truth_leafok (b : Bool) : LeafOk (truthT b) := by
  unfold truthT
  refine ⟨leaf_pl (p := pText) 74 rfl (by decide) rfl rfl rfl ?_ (by decide), cls_code.2 rfl, leaf_len _ _ _⟩
  cases b <;> decide
theorem text_leafok (tx : ByteArray) (h : tx.size ≤ 1000) : LeafOk (leafT 73 0 tx) :=
  ⟨leaf_pl (p := pText) 73 rfl (by decide) rfl rfl rfl (by omega) (by decide), cls_code.2 rfl, leaf_len _ _ _⟩
theorem arith_leafok {op : List UInt8} {a b : Int} {R : Tre} (h : arithT op a b = some R) : LeafOk R := by
  unfold arithT at h
  by_cases h1 : op = [43]
  · rw [if_pos h1] at h; cases h; exact int_leafok _
  rw [if_neg h1] at h
  by_cases h2 : op = [45]
  · rw [if_pos h2] at h; cases h; exact int_leafok _
  rw [if_neg h2] at h
  by_cases h3 : op = [42]
  · rw [if_pos h3] at h; cases h; exact int_leafok _
  rw [if_neg h3] at h
  by_cases h4 : op = [60]
  · rw [if_pos h4] at h; cases h; exact truth_leafok _
  rw [if_neg h4] at h
  by_cases h5 : op = [60, 61]
  · rw [if_pos h5] at h; cases h; exact truth_leafok _
  rw [if_neg h5] at h
  by_cases h6 : op = [62]
  · rw [if_pos h6] at h; cases h; exact truth_leafok _
  rw [if_neg h6] at h
  by_cases h7 : op = [62, 61]
  · rw [if_pos h7] at h; cases h; exact truth_leafok _
  rw [if_neg h7] at h
  by_cases h8 : op = [47]
  · rw [if_pos h8] at h
    by_cases h0 : b = 0
    · rw [if_pos h0] at h; cases h
    · rw [if_neg h0] at h; cases h; exact int_leafok _
  rw [if_neg h8] at h
  by_cases h9 : op = [37]
  · rw [if_pos h9] at h
    by_cases h0 : b = 0
    · rw [if_pos h0] at h; cases h
    · rw [if_neg h0] at h; cases h; exact int_leafok _
  rw [if_neg h9] at h
  cases h
theorem bin_leafok {op : List UInt8} {a b R : Tre} (h : binT op a b = some R) : LeafOk R := by
  unfold binT at h
  by_cases h1 : op = [94] ∧ a.nd.kind = 73 ∧ b.nd.kind = 73
  · rw [if_pos h1] at h
    by_cases h2 : a.nd.text.size + b.nd.text.size ≤ 1000
    · rw [if_pos h2] at h
      cases h
      exact text_leafok _ (by rw [ByteArray.size_append]; exact h2)
    · rw [if_neg h2] at h; cases h
  · rw [if_neg h1] at h
    by_cases h2 : a.nd.kind = 72 ∧ b.nd.kind = 72
    · rw [if_pos h2] at h; exact arith_leafok h
    · rw [if_neg h2] at h; cases h
theorem len_let (n : Nd) (a b : Tre) : (outT (mkT n [a, b])).length = (outT a).length + (outT b).length + 1 := by
  rw [mkT, len_one]; simp
theorem choose_kept {v : Tre} (hv : PlT v) (cv : pCode v.nd = true) : ∀ {rs : List Tre} {R : Tre}, (∀ r ∈ rs, PlT r ∧ r.nd.kind = 84) → chooseT v rs = some R → PlT R ∧ pCode R.nd = true ∧ (outT R).length ≤ (outT v).length + (rs.map outT).flatten.length := by
  intro rs
  induction rs with
  | nil => intro R _ h; cases h
  | cons r rs ih =>
    intro R hrs h
    obtain ⟨hr, kr⟩ := hrs r (by simp)
    obtain ⟨nr, kr'⟩ := r
    obtain ⟨p, c, rfl, pp, pc⟩ := hr.node.rul kr
    have hp := hr.kid p (by simp)
    have hc := hr.kid c (by simp)
    have hl : ((Tre.mk nr [p, c] :: rs).map outT).flatten.length = (outT p).length + (outT c).length + 1 + (rs.map outT).flatten.length := by
      simp [outT_eq]; omega
    have hp1 := out_pos p
    rw [hl]
    simp only [chooseT, Tre.ks] at h
    by_cases hf : fitsT p v = true
    · rw [if_pos hf] at h
      by_cases hb : (!bindsT p) = true
      · rw [if_pos hb] at h
        cases h
        exact ⟨hc, pc, by omega⟩
      · rw [if_neg hb] at h
        by_cases h9 : p.nd.kind = 90
        · rw [if_pos h9] at h
          cases h
          obtain ⟨np, kp⟩ := p
          refine ⟨let_pl (hp.node.numb (by simp only [Tre.nd] at h9; omega)).1 hp.node.num hv hc cv pc, rfl, ?_⟩
          rw [len_let]
          omega
        · rw [if_neg h9] at h; cases h
    · rw [if_neg hf] at h
      obtain ⟨h1, h2, h3⟩ := ih (fun r hr => hrs r (by simp [hr])) h
      exact ⟨h1, h2, by omega⟩
theorem cls_kind {n : Nd} (h : n.kind = 88 ∨ n.kind = 89 ∨ n.kind = 83 ∨ n.kind = 80 ∨ n.kind = 77 ∨ n.kind = 70) : cls n = 1 := by
  refine cls_code.2 ?_
  simp [pCode]
  omega
theorem rule_kept (us : Int → Nat) {n : Nd} {ks : List Tre} (h : PlT (.mk n ks)) : Kept (.mk n ks) (ruleT us (.mk n ks)) := by
  have self : Kept (.mk n ks) (.mk n ks) := ⟨h, rfl, Nat.le_refl _⟩
  have hN := h.node
  have hpos := out_pos (.mk n ks)
  unfold ruleT
  dsimp only
  by_cases h88 : n.kind = 88
  · rw [if_pos h88]
    obtain ⟨a, b, rfl, -, -⟩ := hN.code2 (.inr (.inr h88))
    simp only
    cases hb : binT n.text.toList a b with
    | none => exact self
    | some R =>
      have h9 := bin_leafok hb
      exact ⟨h9.pl, by simp only [Option.getD_some]; rw [h9.cl]; exact (cls_kind (.inl h88)).symm, by simp only [Option.getD_some]; rw [h9.one]; exact hpos⟩
  rw [if_neg h88]
  by_cases h89 : n.kind = 89
  · rw [if_pos h89]
    obtain ⟨a, rfl, -⟩ := hN.code1 (.inr h89)
    simp only
    split
    · have h9 := int_leafok (-a.nd.num)
      exact ⟨h9.pl, by rw [h9.cl]; exact (cls_kind (.inr (.inl h89))).symm, by rw [h9.one]; exact hpos⟩
    · exact self
  rw [if_neg h89]
  by_cases h83 : n.kind = 83
  · rw [if_pos h83]
    obtain ⟨v, rs, rfl, cv, hrs⟩ := hN.cas h83
    simp only
    split
    · cases hc : chooseT v rs with
      | none => exact self
      | some R =>
        obtain ⟨h1, h2, h3⟩ := choose_kept (h.kid v (by simp)) cv (fun r hr => ⟨h.kid r (by simp [hr]), hrs r hr⟩) hc
        refine ⟨h1, ?_, ?_⟩
        · simp only [Option.getD_some]
          rw [cls_code.2 h2]
          exact (cls_kind (.inr (.inr (.inl h83)))).symm
        · simp only [Option.getD_some]
          rw [len_one]
          simp
          simp at h3
          omega
    · exact self
  rw [if_neg h83]
  by_cases h80 : n.kind = 80
  · rw [if_pos h80]
    obtain ⟨a, b, rfl, ca, cb⟩ := hN.code2 (.inr (.inl h80))
    simp only
    split
    · refine ⟨h.kid b (by simp), ?_, ?_⟩
      · rw [cls_code.2 cb]
        exact (cls_kind (.inr (.inr (.inr (.inl h80))))).symm
      · rw [len_one]
        simp
        omega
    · exact self
  rw [if_neg h80]
  by_cases h77 : n.kind = 77
  · rw [if_pos h77]
    obtain ⟨f, b, rfl, cf, cb⟩ := hN.code2 (.inl h77)
    simp only
    by_cases h76 : f.nd.kind = 76
    · rw [if_pos h76]
      have hf := h.kid f (by simp)
      obtain ⟨nf, kf⟩ := f
      obtain ⟨c, rfl, cc⟩ := hf.node.code1 (.inl h76)
      simp only [Tre.ks, Tre.nd]
      refine ⟨let_pl (hf.node.numb (.inr (.inl h76))).1 hf.node.num (h.kid b (by simp)) (hf.kid c (by simp)) cb cc, ?_, ?_⟩
      · exact (cls_code.2 rfl).trans (cls_kind (.inr (.inr (.inr (.inr (.inl h77)))))).symm
      · rw [len_let, len_one]
        simp [outT_eq]
        omega
    · rw [if_neg h76]; exact self
  rw [if_neg h77]
  exact self
def PGood (P : Int → Option Tre) : Prop := ∀ x V, P x = some V → PlT V ∧ cls V.nd = 1 ∧ V.ks = [] ∧ 1 ≤ x ∧ x ≤ 200000
theorem ks_len {V : Tre} (h : V.ks = []) : (outT V).length = 1 := by
  obtain ⟨n, ks⟩ := V
  simp only [Tre.ks] at h
  subst h
  rw [len_one]
  rfl
theorem PGood.put {P : Int → Option Tre} (h : PGood P) {x : Int} {V : Tre} (h1 : PlT V) (h2 : cls V.nd = 1) (h3 : V.ks = []) (h4 : 1 ≤ x) (h5 : x ≤ 200000) : PGood (setP P x (some V)) := by
  intro y W hy
  unfold setP at hy
  by_cases e : y = x
  · rw [if_pos e] at hy
    cases hy
    exact ⟨h1, h2, h3, by omega, by omega⟩
  · rw [if_neg e] at hy
    exact h y W hy
theorem PGood.del {P : Int → Option Tre} (h : PGood P) (x : Int) : PGood (setP P x none) := by
  intro y W hy
  unfold setP at hy
  by_cases e : y = x
  · rw [if_pos e] at hy; cases hy
  · rw [if_neg e] at hy
    exact h y W hy
theorem seq_kept (F : Tre → (Int → Option Tre) → Tre × (Int → Option Tre)) : ∀ (ks : List Tre) (P : Int → Option Tre), (∀ k ∈ ks, ∀ P, PGood P → Kept k (F k P).1 ∧ PGood (F k P).2) → PGood P →
    (seqF (ks.map F) P).1.length = ks.length ∧ ((seqF (ks.map F) P).1.map Tre.nd).map cls = (ks.map Tre.nd).map cls ∧ (∀ k' ∈ (seqF (ks.map F) P).1, PlT k') ∧ ((seqF (ks.map F) P).1.map outT).flatten.length ≤ (ks.map outT).flatten.length ∧ PGood (seqF (ks.map F) P).2 := by
  intro ks
  induction ks with
  | nil => intro P _ hP; exact ⟨rfl, rfl, by simp [seqF], Nat.le_refl _, hP⟩
  | cons k ks ih =>
    intro P h hP
    obtain ⟨h1, h2⟩ := h k (by simp) P hP
    obtain ⟨i1, i2, i3, i4, i5⟩ := ih (F k P).2 (fun k hk => h k (by simp [hk])) h2
    simp only [List.map_cons, seqF]
    refine ⟨by simp [i1], ?_, ?_, ?_, i5⟩
    · simp only [List.cons.injEq]
      exact ⟨h1.cl, i2⟩
    · intro k' hk'
      rcases List.mem_cons.1 hk' with rfl | hk'
      · exact h1.pl
      · exact i3 k' hk'
    · simp only [List.flatten_cons, List.length_append]
      have := h1.le
      omega
theorem mkT_same {n : Nd} {ks ks' : List Tre} (h : n.kids = (ks.length : Int)) (hl : ks'.length = ks.length) : mkT n ks' = .mk n ks' := by
  obtain ⟨kd, nm, tx, kk, pl⟩ := n
  simp only at h
  simp [mkT, hl, h]
theorem PlT.anew {n : Nd} {ks ks' : List Tre} (h : PlT (.mk n ks)) (hl : ks'.length = ks.length) (hc : (ks'.map Tre.nd).map cls = (ks.map Tre.nd).map cls) (hk : ∀ k ∈ ks', PlT k) : PlT (.mk n ks') := by
  have hN := h.node
  refine .mk n ks' ⟨?_, hN.text, hN.num, by rw [hl]; exact hN.len, by rw [hl]; exact hN.kids⟩ hk
  obtain ⟨p, h0, h1, h2, h3, h4, h5⟩ := nodeOk_parts hN.node
  exact nodeOk_of h0 h1 h2 h3 h4 (by rw [kids_cls h0 n n hc]; exact h5)
theorem atom_kinds {bd : Int → Nat} {n : Nd} (h : atomT bd n = true) : n.kind = 70 ∨ n.kind = 71 ∨ n.kind = 72 ∨ n.kind = 73 ∨ n.kind = 74 := by
  unfold atomT at h
  by_cases e : n.kind = 70
  · exact .inl e
  · rw [if_neg e] at h
    simp at h
    omega
theorem rule_leaf (us : Int → Nat) {n : Nd} {ks : List Tre} (h : n.kind = 70 ∨ n.kind = 71 ∨ n.kind = 72 ∨ n.kind = 73 ∨ n.kind = 74) : ruleT us (.mk n ks) = .mk n ks := by
  unfold ruleT
  dsimp only
  rw [if_neg (by omega), if_neg (by omega), if_neg (by omega), if_neg (by omega), if_neg (by omega)]
theorem less_atom (bd us : Int → Nat) {a : Tre} {P : Int → Option Tre} (ha : PlT a) (h : atomT bd a.nd = true) (hP : PGood P) : (lessT bd us a P).1.ks = [] ∧ (lessT bd us a P).2 = P := by
  obtain ⟨n, ks⟩ := a
  have hk := atom_kinds h
  simp only [Tre.nd] at hk
  obtain rfl := ha.node.leaf hk
  rw [lessT_eq]
  unfold lessStep
  by_cases h1 : n.kind = 70 ∧ (P n.num).isSome = true
  · rw [if_pos h1]
    obtain ⟨V, hV⟩ := Option.isSome_iff_exists.1 h1.2
    rw [hV]
    exact ⟨(hP _ V hV).2.2.1, rfl⟩
  · rw [if_neg h1, if_neg (by omega)]
    simp only [List.map_nil, seqF]
    rw [mkT, rule_leaf us (by exact hk)]
    exact ⟨rfl, trivial⟩
theorem single_le {bd : Int → Nat} {x : Int} (h : singleT bd x = true) : x ≤ 200000 := by
  unfold singleT at h
  simp at h
  exact h.1
theorem less_kept (bd us : Int → Nat) : ∀ (T : Tre) (P : Int → Option Tre), PlT T → PGood P → Kept T (lessT bd us T P).1 ∧ PGood (lessT bd us T P).2 := by
  intro T
  refine Tre.ind (p := fun T => ∀ (P : Int → Option Tre), PlT T → PGood P → Kept T (lessT bd us T P).1 ∧ PGood (lessT bd us T P).2) ?_ T
  intro n ks ih P h hP
  have hN := h.node
  rw [lessT_eq]
  unfold lessStep
  by_cases h1 : n.kind = 70 ∧ (P n.num).isSome = true
  · rw [if_pos h1]
    obtain ⟨V, hV⟩ := Option.isSome_iff_exists.1 h1.2
    rw [hV]
    obtain ⟨v1, v2, v3, -⟩ := hP _ V hV
    simp only [Option.getD_some]
    refine ⟨⟨v1, ?_, ?_⟩, hP⟩
    · rw [v2]; exact (cls_kind (.inr (.inr (.inr (.inr (.inr h1.1)))))).symm
    · rw [ks_len v3]; exact out_pos _
  rw [if_neg h1]
  by_cases h2 : n.kind = 80 ∧ singleT bd n.num = true ∧ (ks.head?.map (fun a => atomT bd a.nd)) = some true
  · rw [if_pos h2]
    obtain ⟨h80, hs, ha⟩ := h2
    obtain ⟨a, b, rfl, ca, cb⟩ := hN.code2 (.inr (.inl h80))
    simp only [List.head?_cons, Option.map_some, Option.some.injEq] at ha
    simp only [List.map_cons, List.map_nil]
    obtain ⟨ka, pa⟩ := ih a (by simp) P (h.kid a (by simp)) hP
    have h3 := (less_atom bd us (h.kid a (by simp)) ha hP).1
    have P2 := pa.put (x := n.num) ka.pl (by rw [ka.cl, cls_code.2 ca]) h3 (hN.numb (by omega)).1 (single_le hs)
    obtain ⟨kb, pb⟩ := ih b (by simp) _ (h.kid b (by simp)) P2
    refine ⟨⟨kb.pl, ?_, ?_⟩, pb.del _⟩
    · rw [kb.cl, cls_code.2 cb]; exact (cls_kind (.inr (.inr (.inr (.inl h80))))).symm
    · have := kb.le
      rw [len_one]
      simp
      omega
  rw [if_neg h2]
  dsimp only
  obtain ⟨s1, s2, s3, s4, s5⟩ := seq_kept (lessT bd us) ks P (fun k hk P hP => ih k hk P (h.kid k hk) hP) hP
  have hA := h.anew s1 s2 s3
  have hR := rule_kept us hA
  rw [mkT_same hN.kids s1]
  refine ⟨⟨hR.pl, hR.cl, ?_⟩, s5⟩
  have := hR.le
  rw [len_one] at this ⊢
  omega
end Go.Proofs.YtemancdlnakkmaaGreat
namespace Go.Proofs.YtemancdlnakkmaaGreat
open Go.RowKit
set_option maxRecDepth 20000 in
set_option maxHeartbeats 4000000 in
theorem binds_any : ∀ (T : Tre) (s : Sl3) (A : Nat → Prop) (w : World), SRep w A T s →
    Calls Tryz.prog 63 #[.agg (sv T s).toArray] w fun e w' => e = .returned (.bool (bindsT T)) ∧ Below w.heap.size w w' := by
  intro T
  refine Tre.ind (p := fun T => ∀ (s : Sl3) (A : Nat → Prop) (w : World), SRep w A T s → Calls Tryz.prog 63 #[.agg (sv T s).toArray] w fun e w' => e = .returned (.bool (bindsT T)) ∧ Below w.heap.size w w') ?_ T
  intro n ks ih s A w hR
  obtain ⟨so, sl, sc⟩ := s
  obtain ⟨h1, h2, h3, h4⟩ := hR.skids
  simp only [Tre.ks] at h1 h2 h3 h4
  subst h1
  have HV : Hid (bindsT (.mk n ks) = (n.kind == 90 || n.kind == 91 || ks.any bindsT)) := bindsT_eq n ks
  obtain ⟨q, hq⟩ : ∃ q, ks.length = q := ⟨_, rfl⟩
  have HQ : Hid (ks.length = q) := hq
  obtain ⟨kb, hkb⟩ : ∃ kb, knT (.mk n ks) = kb := ⟨_, rfl⟩
  have hsv : (sv (.mk n ks) (so, ks.length, sc)).toArray = #[.int .i64 n.kind, .int .i64 n.num, .string n.text, .int .i64 n.kids, .int .i64 n.place, .slice so q sc, .bool kb] := by
    simp [sv, Tre.nd, hkb, hq]
  rw [hsv]
  rw [hq] at h2 h3
  have HKS : Hid (∀ j (h : j < ks.length), ∃ g sj, so = some ⟨g, 0, none⟩ ∧ A g ∧ Row7 w g (j * 7) ks[j] sj ∧ SRep w A ks[j] sj) := h4
  have HIH : Hid (∀ k ∈ ks, ∀ (s : Sl3) (A : Nat → Prop) (w : World), SRep w A k s → Calls Tryz.prog 63 #[.agg (sv k s).toArray] w fun e w' => e = .returned (.bool (bindsT k)) ∧ Below w.heap.size w w') := ih
  clear hR h4 hq hkb hsv ih
  obtain ⟨kd, nm, tx, kk, pl⟩ := n
  simp only at HV ⊢
  have bW := (Below.refl w.heap.size w).alloc (Nat.le_refl _) (.cells #[.int .i64 kd, .int .i64 nm, .string tx, .int .i64 kk, .int .i64 pl, .slice so q sc, .bool kb] 51)
  by_cases h90 : kd = 90
  · subst h90
    have HK : Hid (bindsT (.mk ⟨90, nm, tx, kk, pl⟩ ks) = true) := by show _ = _; rw [HV.out]; rfl
    go_enter Tryz.func63, Tryz.ntmps63
    go_wp2
    go_ret
    exact ⟨by rw [HK.out]; rfl, bW⟩
  have t90 : (kd == 90) = false := by simpa using h90
  by_cases h91 : kd = 91
  · subst h91
    have HK : Hid (bindsT (.mk ⟨91, nm, tx, kk, pl⟩ ks) = true) := by show _ = _; rw [HV.out]; rfl
    go_enter Tryz.func63, Tryz.ntmps63
    go_wp2
    go_ret
    exact ⟨by rw [HK.out]; rfl, bW⟩
  have t91 : (kd == 91) = false := by simpa using h91
  have HK : Hid (bindsT (.mk ⟨kd, nm, tx, kk, pl⟩ ks) = ks.any bindsT) := by show _ = _; rw [HV.out, t90, t91]; rfl
  clear HV
  have hW0 : (w.alloc (.cells #[.int .i64 kd, .int .i64 nm, .string tx, .int .i64 kk, .int .i64 pl, .slice so q sc, .bool kb] 51)).heap[w.heap.size]? = some (.cells #[.int .i64 kd, .int .i64 nm, .string tx, .int .i64 kk, .int .i64 pl, .slice so q sc, .bool kb] 51 (0, 0)) := heap_alloc_new _ _
  have HW0 : Hid _ := hW0
  clear hW0
  go_enter Tryz.func63, Tryz.ntmps63
  go_wp2
  have hW0 := HW0.out
  clear HW0
  generalize w.alloc (.cells #[.int .i64 kd, .int .i64 nm, .string tx, .int .i64 kk, .int .i64 pl, .slice so q sc, .bool kb] 51) = W0 at hW0 bW ⊢
  have lz : w.heap.size < W0.heap.size := (Array.getElem?_eq_some_iff.1 hW0).1
  go_loopw [3] (fun v wr => ∃ k : Nat, k ≤ q ∧ v = .int .i64 (k : Int) ∧ (ks.take k).any bindsT = false ∧ Below W0.heap.size W0 wr) (fun v _ => q - (intOf v).toNat)
  case atStart => exact ⟨0, Nat.zero_le _, rfl, by simp, Below.refl _ _⟩
  case round =>
    obtain ⟨k, hk, rfl, hall, hb⟩ := hrel
    have hblk := (hb.block _ lz).trans hW0
    have c5 : wr.cell? ⟨w.heap.size, 5, none⟩ = some (.slice so q sc) := by rw [cell_of_row _ _ _ _ _ _ hblk]; rfl
    have lzr : w.heap.size < wr.heap.size := lt_of_cell c5
    have hbw := Below.step bW hb
    have HALL : Hid ((ks.take k).any bindsT = false) := hall
    clear hblk hall
    by_cases hkq : k < q
    · have hkl : k < ks.length := by have := HQ.out; omega
      obtain ⟨g, sj, hso, -, hrow, hrep⟩ := HKS.out k hkl
      subst hso
      have hCL := HIH.out ks[k] (List.getElem_mem hkl) sj A wr (hrep.under hbw)
      obtain ⟨d0, d1, d2, d3, d4, d5, d6⟩ := hrow.but (But.ofBelow (S := fun _ => False) hbw) (fun h => h)
      have lg : g < wr.heap.size := lt_of_cell d0
      obtain ⟨T, hT⟩ : ∃ T, ks[k] = T := ⟨_, rfl⟩
      have HTT : Hid (ks[k] = T) := hT
      rw [hT] at hCL d0 d1 d2 d3 d4 d6
      simp only [sv] at hCL
      obtain ⟨v, hv⟩ : ∃ v, bindsT T = v := ⟨_, rfl⟩
      rw [hv] at hCL
      clear hrow hrep hT
      cases v
      · have HS : Hid ((ks.take (k + 1)).any bindsT = false) := by
          show _ = _
          rw [List.take_succ_eq_append_getElem hkl, List.any_append, HALL.out, HTT.out]
          simp [hv]
        clear hv
        go_wp2_with fail
        refine hCL.mono ?_
        rintro e w2 ⟨rfl, hb2⟩
        have hbb := Below.step hb hb2
        clear hCL hb2 c5 d0 d1 d2 d3 d4 d5 d6 hb hbw
        go_wp2
        go_roundw
        case rel => exact ⟨k + 1, by omega, by go_num, HS.out, hbb⟩
        case measure => simp [intOf]; omega
      · have HS : Hid (bindsT (.mk ⟨kd, nm, tx, kk, pl⟩ ks) = true) := by
          show _ = _
          rw [HK.out, List.any_eq_true]
          exact ⟨T, by rw [← HTT.out]; exact List.getElem_mem hkl, hv⟩
        clear hv
        go_wp2_with fail
        refine hCL.mono ?_
        rintro e w2 ⟨rfl, hb2⟩
        have hbb := Below.step hbw hb2
        clear hCL hb2 c5 d0 d1 d2 d3 d4 d5 d6 hb hbw
        go_wp2
        go_ret
        exact ⟨by rw [HS.out]; rfl, hbb⟩
    · have HS : Hid (bindsT (.mk ⟨kd, nm, tx, kk, pl⟩ ks) = false) := by
        show _ = _
        have h9 := HALL.out
        rw [List.take_of_length_le (by have := HQ.out; omega)] at h9
        rw [HK.out, h9]
      go_wp2
      go_ret
      exact ⟨by rw [HS.out]; rfl, hbw⟩
end Go.Proofs.YtemancdlnakkmaaGreat
