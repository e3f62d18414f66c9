import Derived.Test.YtedlofpgddjpgaaGreatWAQ
import Derived.Test.YtedlofpgddjpgaaGreatWAF
import Derived.Test.YtedlofpgddjpgaaGreatWAA
import Derived.Test.YtedlofpgddjpgaaGreatWAB
import Derived.Test.YtedlofpgddjpgaaGreatWAE
namespace Go.Proofs.YtedlofpgddjpgaaGreat
theorem fit0T {ks : List Tre} (h : fitAll [] (ks.map Tre.nd) = true) : ks = [] := by
  cases ks with
  | nil => rfl
  | cons a ks => simp [fitAll] at h
theorem fit1T {p : Nd → Bool} {ks : List Tre} (h : fitAll [p] (ks.map Tre.nd) = true) : ∃ a, ks = [a] ∧ p a.nd = true := by
  cases ks with
  | nil => simp [fitAll] at h
  | cons a ks =>
    cases ks with
    | nil => simp [fitAll] at h; exact ⟨a, rfl, h⟩
    | cons b ks => simp [fitAll] at h
theorem fit2T {p q : Nd → Bool} {ks : List Tre} (h : fitAll [p, q] (ks.map Tre.nd) = true) : ∃ a b, ks = [a, b] ∧ p a.nd = true ∧ q b.nd = true := by
  cases ks with
  | nil => simp [fitAll] at h
  | cons a ks =>
    cases ks with
    | nil => simp [fitAll] at h
    | cons b ks =>
      cases ks with
      | nil => simp [fitAll] at h; exact ⟨a, b, rfl, h.1, h.2⟩
      | cons c ks => simp [fitAll] at h
theorem PlN.fits {n : Nd} {ks : List Tre} (h : PlN n ks) : plainKids n.kind.toNat n (ks.map Tre.nd) = true := by
  obtain ⟨p, -, -, -, -, -, h5⟩ := nodeOk_parts h.node
  exact h5
theorem PlN.own {n : Nd} {ks : List Tre} (h : PlN n ks) : ∃ p, plainOwn n.kind.toNat = some p ∧ p n = true := by
  obtain ⟨p, h0, -, -, -, h4, -⟩ := nodeOk_parts h.node
  exact ⟨p, h0, h4⟩
theorem PlN.at {n : Nd} {ks : List Tre} (h : PlN n ks) (k : Nat) (hk : n.kind = (k : Int)) : plainKids k n (ks.map Tre.nd) = true := by
  have := h.fits
  rw [hk] at this
  simpa using this
theorem PlN.ownAt {n : Nd} {ks : List Tre} (h : PlN n ks) (k : Nat) (hk : n.kind = (k : Int)) {p : Nd → Bool} (hp : plainOwn k = some p) : p n = true := by
  obtain ⟨q, h1, h2⟩ := h.own
  rw [hk] at h1
  simp only [Int.toNat_natCast] at h1
  rw [hp] at h1
  cases h1
  exact h2
theorem PlN.numb {n : Nd} {ks : List Tre} (h : PlN n ks) (hk : n.kind = 70 ∨ n.kind = 76 ∨ n.kind = 80 ∨ n.kind = 82 ∨ n.kind = 90 ∨ n.kind = 91) : 1 ≤ n.num ∧ n.text.size = 0 := by
  have h1 : pNumb n = true := by
    rcases hk with e | e | e | e | e | e
    · exact h.ownAt 70 e rfl
    · exact h.ownAt 76 e rfl
    · exact h.ownAt 80 e rfl
    · exact h.ownAt 82 e rfl
    · exact h.ownAt 90 e rfl
    · exact h.ownAt 91 e rfl
  simp [pNumb] at h1
  exact ⟨by omega, by rw [h1.2]; rfl⟩
theorem PlN.code2 {n : Nd} {ks : List Tre} (h : PlN n ks) (hk : n.kind = 77 ∨ n.kind = 80 ∨ n.kind = 88) : ∃ a b, ks = [a, b] ∧ pCode a.nd = true ∧ pCode b.nd = true := by
  rcases hk with e | e | e
  · exact fit2T (h.at 77 e)
  · exact fit2T (h.at 80 e)
  · exact fit2T (h.at 88 e)
theorem PlN.code1 {n : Nd} {ks : List Tre} (h : PlN n ks) (hk : n.kind = 76 ∨ n.kind = 89) : ∃ a, ks = [a] ∧ pCode a.nd = true := by
  rcases hk with e | e
  · exact fit1T (h.at 76 e)
  · exact fit1T (h.at 89 e)
theorem PlN.leaf {n : Nd} {ks : List Tre} (h : PlN n ks) (hk : n.kind = 70 ∨ n.kind = 71 ∨ n.kind = 72 ∨ n.kind = 73 ∨ n.kind = 74) : ks = [] := by
  rcases hk with e | e | e | e | e
  · exact fit0T (h.at 70 e)
  · exact fit0T (h.at 71 e)
  · exact fit0T (h.at 72 e)
  · exact fit0T (h.at 73 e)
  · exact fit0T (h.at 74 e)
theorem PlN.cas {n : Nd} {ks : List Tre} (h : PlN n ks) (hk : n.kind = 83) : ∃ v rs, ks = v :: rs ∧ pCode v.nd = true ∧ ∀ r ∈ rs, r.nd.kind = 84 := by
  have h1 : firstB pCode (pKind 84) (ks.map Tre.nd) = true := h.at 83 hk
  cases ks with
  | nil => simp [firstB] at h1
  | cons v rs =>
    simp [firstB, ndAt] at h1
    refine ⟨v, rs, rfl, h1.1.2, fun r hr => ?_⟩
    have := h1.2 r hr
    simpa [pKind] using this
theorem PlN.rul {n : Nd} {ks : List Tre} (h : PlN n ks) (hk : n.kind = 84) : ∃ p c, ks = [p, c] ∧ pPat p.nd = true ∧ pCode c.nd = true := fit2T (h.at 84 hk)
theorem patK_pPat (x : Nd) : patK x = pPat x := by
  rw [Bool.eq_iff_iff]
  simp [patK, pPat]
  omega
theorem PlT.sh {T : Tre} (h : PlT T) : ShT T := by
  revert h
  refine Tre.ind (p := fun T => PlT T → ShT T) ?_ T
  intro n ks ih h
  refine .mk n ks ?_ (fun k hk => ih k hk (h.kid k hk))
  have hN := h.node
  refine ⟨?_, ?_, ?_, ?_, ?_, ?_, ?_, ?_, ?_, ?_, hN.text, hN.num, hN.len, hN.kids⟩
  · intro e; obtain ⟨a, b, h1, -, -⟩ := hN.code2 (.inl e); exact ⟨a, b, h1⟩
  · intro e; obtain ⟨a, b, h1, -, -⟩ := hN.code2 (.inr (.inl e)); exact ⟨a, b, h1⟩
  · intro e; obtain ⟨a, b, h1, -, -⟩ := hN.code2 (.inr (.inr e)); exact ⟨a, b, h1⟩
  · intro e; obtain ⟨a, h1, -⟩ := hN.code1 (.inr e); exact ⟨a, h1⟩
  · intro e; obtain ⟨a, h1, -⟩ := hN.code1 (.inl e); exact ⟨a, h1⟩
  · intro e; obtain ⟨v, rs, h1, -, h2⟩ := hN.cas e; exact ⟨v, rs, h1, h2⟩
  · intro e; obtain ⟨p, c, h1, h2, -⟩ := hN.rul e; exact ⟨p, c, h1, by rw [patK_pPat]; exact h2⟩
  · intro e
    obtain ⟨p, h1, h2⟩ := fit1T (p := pPat) (hN.at 91 e)
    exact ⟨p, h1, by rw [patK_pPat]; exact h2⟩
  · intro e
    have h1 : (decide (((ks.map Tre.nd).length : Int) ≤ 1) && (ks.map Tre.nd).all pPat) = true := hN.at 19 e
    simp at h1
    cases ks with
    | nil => exact .inl rfl
    | cons p ks =>
      cases ks with
      | nil => exact .inr ⟨p, rfl, by rw [patK_pPat]; exact h1.2 p (by simp)⟩
      | cons q ks => exfalso; have := h1.1; simp at this; omega
  · intro e p hp
    have h1 : ((((ks.map Tre.nd).length : Int) != 1) && (ks.map Tre.nd).all pPat) = true := hN.at 20 e
    simp at h1
    rw [patK_pPat]
    exact h1.2 p hp
theorem cls_code {x : Nd} : cls x = 1 ↔ pCode x = true := by rw [pCode_cls]; simp
structure Kept (k k' : Tre) : Prop where
  pl : PlT k'
  cl : cls k'.nd = cls k.nd
  le : (outT k').length ≤ (outT k).length
theorem len_one (n : Nd) (ks : List Tre) : (outT (.mk n ks)).length = (ks.map outT).flatten.length + 1 := by rw [outT_eq]; simp
theorem out_pos (T : Tre) : 1 ≤ (outT T).length := by
  cases T with
  | mk n ks => rw [len_one]; omega
theorem leaf_pl {kd nm : Int} {tx : ByteArray} {p : Nd → Bool} (k : Nat) (hk : kd = (k : Int)) (hlt : k < 92) (h0 : plainOwn k = some p) (h4 : p ⟨kd, nm, tx, 0, 0⟩ = true) (h5 : plainKids k ⟨kd, nm, tx, 0, 0⟩ [] = true) (ht : tx.size ≤ 1048576) (hn : (Lit.int .i64 nm).wf = true) : PlT (leafT kd nm tx) := by
  subst hk
  exact .mk _ _ ⟨nodeOk_of (p := p) (by simpa using h0) (by show (0 : Int) ≤ k; omega) (by show (k : Int) < 92; omega) rfl h4 (by simpa using h5), ht, hn, by simp, rfl⟩ (by simp)
theorem wrap_wf (x : Int) : (Lit.int .i64 (IntKind.i64.wrap x)).wf = true := by
  rw [IntKind.wrap_i64]
  simp only [Lit.wf, Bool.and_eq_true, decide_eq_true_eq]
  show (-9223372036854775808 : Int) ≤ _ ∧ _ ≤ (9223372036854775807 : Int)
  omega
theorem let_pl {nm : Int} {a b : Tre} (h1 : 1 ≤ nm) (hn : (Lit.int .i64 nm).wf = true) (ha : PlT a) (hb : PlT b) (ca : pCode a.nd = true) (cb : pCode b.nd = true) : PlT (mkT ⟨80, nm, ⟨#[]⟩, 0, 0⟩ [a, b]) := by
  refine .mk _ _ ⟨nodeOk_of (p := pNumb) rfl (show (0 : Int) ≤ 80 by decide) (show (80 : Int) < 92 by decide) rfl ?_ ?_, show 0 ≤ 1048576 by decide, hn, by simp, rfl⟩ ?_
  · show (decide (nm > 0) && _) = true
    rw [decide_eq_true (by omega : nm > 0)]
    rfl
  · show fitAll [pCode, pCode] [a.nd, b.nd] = true
    simp [fitAll, ca, cb]
  · intro k hk
    simp at hk
    rcases hk with rfl | rfl
    · exact ha
    · exact hb
end Go.Proofs.YtedlofpgddjpgaaGreat

namespace Go.Proofs.YtedlofpgddjpgaaGreat
structure LeafOk (R : Tre) : Prop where
  pl : PlT R
  cl : cls R.nd = 1
  one : (outT R).length = 1
theorem leaf_len (kd nm : Int) (tx : ByteArray) : (outT (leafT kd nm tx)).length = 1 := by
  rw [leafT, mkT, len_one]; rfl
theorem int_leafok (x : Int) : LeafOk (leafT 72 (IntKind.i64.wrap x) ⟨#[]⟩) :=
  ⟨leaf_pl (p := pNum) 72 rfl (by decide) rfl rfl rfl (by decide) (wrap_wf x), cls_code.2 rfl, leaf_len _ _ _⟩
theorem truth_leafok (b : Bool) : LeafOk (truthT b) := by
  unfold truthT
  refine ⟨leaf_pl (p := pText) 74 rfl (by decide) rfl rfl rfl ?_ (by decide), cls_code.2 rfl, leaf_len _ _ _⟩
  cases b <;> decide
theorem text_leafok (tx : ByteArray) (h : tx.size ≤ 1000) : LeafOk (leafT 73 0 tx) :=
  ⟨leaf_pl (p := pText) 73 rfl (by decide) rfl rfl rfl (by omega) (by decide), cls_code.2 rfl, leaf_len _ _ _⟩
theorem arith_leafok {op : List UInt8} {a b : Int} {R : Tre} (h : arithT op a b = some R) : LeafOk R := by
  unfold arithT at h
  by_cases h1 : op = [43]
  · rw [if_pos h1] at h; cases h; exact int_leafok _
  rw [if_neg h1] at h
  by_cases h2 : op = [45]
  · rw [if_pos h2] at h; cases h; exact int_leafok _
  rw [if_neg h2] at h
  by_cases h3 : op = [42]
  · rw [if_pos h3] at h; cases h; exact int_leafok _
  rw [if_neg h3] at h
  by_cases h4 : op = [60]
  · rw [if_pos h4] at h; cases h; exact truth_leafok _
  rw [if_neg h4] at h
  by_cases h5 : op = [60, 61]
  · rw [if_pos h5] at h; cases h; exact truth_leafok _
  rw [if_neg h5] at h
  by_cases h6 : op = [62]
  · rw [if_pos h6] at h; cases h; exact truth_leafok _
  rw [if_neg h6] at h
  by_cases h7 : op = [62, 61]
  · rw [if_pos h7] at h; cases h; exact truth_leafok _
  rw [if_neg h7] at h
  by_cases h8 : op = [47]
  · rw [if_pos h8] at h
    by_cases h0 : b = 0
    · rw [if_pos h0] at h; cases h
    · rw [if_neg h0] at h; cases h; exact int_leafok _
  rw [if_neg h8] at h
  by_cases h9 : op = [37]
  · rw [if_pos h9] at h
    by_cases h0 : b = 0
    · rw [if_pos h0] at h; cases h
    · rw [if_neg h0] at h; cases h; exact int_leafok _
  rw [if_neg h9] at h
  cases h
theorem bin_leafok {op : List UInt8} {a b R : Tre} (h : binT op a b = some R) : LeafOk R := by
  unfold binT at h
  by_cases h1 : op = [94] ∧ a.nd.kind = 73 ∧ b.nd.kind = 73
  · rw [if_pos h1] at h
    by_cases h2 : a.nd.text.size + b.nd.text.size ≤ 1000
    · rw [if_pos h2] at h
      cases h
      exact text_leafok _ (by rw [ByteArray.size_append]; exact h2)
    · rw [if_neg h2] at h; cases h
  · rw [if_neg h1] at h
    by_cases h2 : a.nd.kind = 72 ∧ b.nd.kind = 72
    · rw [if_pos h2] at h; exact arith_leafok h
    · rw [if_neg h2] at h; cases h
theorem len_let (n : Nd) (a b : Tre) : (outT (mkT n [a, b])).length = (outT a).length + (outT b).length + 1 := by
  rw [mkT, len_one]; simp
theorem choose_kept {v : Tre} (hv : PlT v) (cv : pCode v.nd = true) : ∀ {rs : List Tre} {R : Tre}, (∀ r ∈ rs, PlT r ∧ r.nd.kind = 84) → chooseT v rs = some R → PlT R ∧ pCode R.nd = true ∧ (outT R).length ≤ (outT v).length + (rs.map outT).flatten.length := by
  intro rs
  induction rs with
  | nil => intro R _ h; cases h
  | cons r rs ih =>
    intro R hrs h
    obtain ⟨hr, kr⟩ := hrs r (by simp)
    obtain ⟨nr, kr'⟩ := r
    obtain ⟨p, c, rfl, pp, pc⟩ := hr.node.rul kr
    have hp := hr.kid p (by simp)
    have hc := hr.kid c (by simp)
    have hl : ((Tre.mk nr [p, c] :: rs).map outT).flatten.length = (outT p).length + (outT c).length + 1 + (rs.map outT).flatten.length := by
      simp [outT_eq]; omega
    have hp1 := out_pos p
    rw [hl]
    simp only [chooseT, Tre.ks] at h
    by_cases hf : fitsT p v = true
    · rw [if_pos hf] at h
      by_cases hb : (!bindsT p) = true
      · rw [if_pos hb] at h
        cases h
        exact ⟨hc, pc, by omega⟩
      · rw [if_neg hb] at h
        by_cases h9 : p.nd.kind = 90
        · rw [if_pos h9] at h
          cases h
          obtain ⟨np, kp⟩ := p
          refine ⟨let_pl (hp.node.numb (by simp only [Tre.nd] at h9; omega)).1 hp.node.num hv hc cv pc, rfl, ?_⟩
          rw [len_let]
          omega
        · rw [if_neg h9] at h; cases h
    · rw [if_neg hf] at h
      obtain ⟨h1, h2, h3⟩ := ih (fun r hr => hrs r (by simp [hr])) h
      exact ⟨h1, h2, by omega⟩
theorem cls_kind {n : Nd} (h : n.kind = 88 ∨ n.kind = 89 ∨ n.kind = 83 ∨ n.kind = 80 ∨ n.kind = 77 ∨ n.kind = 70) : cls n = 1 := by
  refine cls_code.2 ?_
  simp [pCode]
  omega
theorem rule_kept (us : Int → Nat) {n : Nd} {ks : List Tre} (h : PlT (.mk n ks)) : Kept (.mk n ks) (ruleT us (.mk n ks)) := by
  have self : Kept (.mk n ks) (.mk n ks) := ⟨h, rfl, Nat.le_refl _⟩
  have hN := h.node
  have hpos := out_pos (.mk n ks)
  unfold ruleT
  dsimp only
  by_cases h88 : n.kind = 88
  · rw [if_pos h88]
    obtain ⟨a, b, rfl, -, -⟩ := hN.code2 (.inr (.inr h88))
    simp only
    cases hb : binT n.text.toList a b with
    | none => exact self
    | some R =>
      have h9 := bin_leafok hb
      exact ⟨h9.pl, by simp only [Option.getD_some]; rw [h9.cl]; exact (cls_kind (.inl h88)).symm, by simp only [Option.getD_some]; rw [h9.one]; exact hpos⟩
  rw [if_neg h88]
  by_cases h89 : n.kind = 89
  · rw [if_pos h89]
    obtain ⟨a, rfl, -⟩ := hN.code1 (.inr h89)
    simp only
    split
    · have h9 := int_leafok (-a.nd.num)
      exact ⟨h9.pl, by rw [h9.cl]; exact (cls_kind (.inr (.inl h89))).symm, by rw [h9.one]; exact hpos⟩
    · exact self
  rw [if_neg h89]
  by_cases h83 : n.kind = 83
  · rw [if_pos h83]
    obtain ⟨v, rs, rfl, cv, hrs⟩ := hN.cas h83
    simp only
    split
    · cases hc : chooseT v rs with
      | none => exact self
      | some R =>
        obtain ⟨h1, h2, h3⟩ := choose_kept (h.kid v (by simp)) cv (fun r hr => ⟨h.kid r (by simp [hr]), hrs r hr⟩) hc
        refine ⟨h1, ?_, ?_⟩
        · simp only [Option.getD_some]
          rw [cls_code.2 h2]
          exact (cls_kind (.inr (.inr (.inl h83)))).symm
        · simp only [Option.getD_some]
          rw [len_one]
          simp
          simp at h3
          omega
    · exact self
  rw [if_neg h83]
  by_cases h80 : n.kind = 80
  · rw [if_pos h80]
    obtain ⟨a, b, rfl, ca, cb⟩ := hN.code2 (.inr (.inl h80))
    simp only
    split
    · refine ⟨h.kid b (by simp), ?_, ?_⟩
      · rw [cls_code.2 cb]
        exact (cls_kind (.inr (.inr (.inr (.inl h80))))).symm
      · rw [len_one]
        simp
        omega
    · exact self
  rw [if_neg h80]
  by_cases h77 : n.kind = 77
  · rw [if_pos h77]
    obtain ⟨f, b, rfl, cf, cb⟩ := hN.code2 (.inl h77)
    simp only
    by_cases h76 : f.nd.kind = 76
    · rw [if_pos h76]
      have hf := h.kid f (by simp)
      obtain ⟨nf, kf⟩ := f
      obtain ⟨c, rfl, cc⟩ := hf.node.code1 (.inl h76)
      simp only [Tre.ks, Tre.nd]
      refine ⟨let_pl (hf.node.numb (.inr (.inl h76))).1 hf.node.num (h.kid b (by simp)) (hf.kid c (by simp)) cb cc, ?_, ?_⟩
      · exact (cls_code.2 rfl).trans (cls_kind (.inr (.inr (.inr (.inr (.inl h77)))))).symm
      · rw [len_let, len_one]
        simp [outT_eq]
        omega
    · rw [if_neg h76]; exact self
  rw [if_neg h77]
  exact self
def PGood (P : Int → Option Tre) : Prop := ∀ x V, P x = some V → PlT V ∧ cls V.nd = 1 ∧ V.ks = [] ∧ 1 ≤ x ∧ x ≤ 200000
theorem ks_len {V : Tre} (h : V.ks = []) : (outT V).length = 1 := by
  obtain ⟨n, ks⟩ := V
  simp only [Tre.ks] at h
  subst h
  rw [len_one]
  rfl
theorem PGood.put {P : Int → Option Tre} (h : PGood P) {x : Int} {V : Tre} (h1 : PlT V) (h2 : cls V.nd = 1) (h3 : V.ks = []) (h4 : 1 ≤ x) (h5 : x ≤ 200000) : PGood (setP P x (some V)) := by
  intro y W hy
  unfold setP at hy
  by_cases e : y = x
  · rw [if_pos e] at hy
    cases hy
    exact ⟨h1, h2, h3, by omega, by omega⟩
  · rw [if_neg e] at hy
    exact h y W hy
theorem PGood.del {P : Int → Option Tre} (h : PGood P) (x : Int) : PGood (setP P x none) := by
  intro y W hy
  unfold setP at hy
  by_cases e : y = x
  · rw [if_pos e] at hy; cases hy
  · rw [if_neg e] at hy
    exact h y W hy
theorem seq_kept (F : Tre → (Int → Option Tre) → Tre × (Int → Option Tre)) : ∀ (ks : List Tre) (P : Int → Option Tre), (∀ k ∈ ks, ∀ P, PGood P → Kept k (F k P).1 ∧ PGood (F k P).2) → PGood P →
    (seqF (ks.map F) P).1.length = ks.length ∧ ((seqF (ks.map F) P).1.map Tre.nd).map cls = (ks.map Tre.nd).map cls ∧ (∀ k' ∈ (seqF (ks.map F) P).1, PlT k') ∧ ((seqF (ks.map F) P).1.map outT).flatten.length ≤ (ks.map outT).flatten.length ∧ PGood (seqF (ks.map F) P).2 := by
  intro ks
  induction ks with
  | nil => intro P _ hP; exact ⟨rfl, rfl, by simp [seqF], Nat.le_refl _, hP⟩
  | cons k ks ih =>
    intro P h hP
    obtain ⟨h1, h2⟩ := h k (by simp) P hP
    obtain ⟨i1, i2, i3, i4, i5⟩ := ih (F k P).2 (fun k hk => h k (by simp [hk])) h2
    simp only [List.map_cons, seqF]
    refine ⟨by simp [i1], ?_, ?_, ?_, i5⟩
    · simp only [List.cons.injEq]
      exact ⟨h1.cl, i2⟩
    · intro k' hk'
      rcases List.mem_cons.1 hk' with rfl | hk'
      · exact h1.pl
      · exact i3 k' hk'
    · simp only [List.flatten_cons, List.length_append]
      have := h1.le
      omega
theorem mkT_same {n : Nd} {ks ks' : List Tre} (h : n.kids = (ks.length : Int)) (hl : ks'.length = ks.length) : mkT n ks' = .mk n ks' := by
  obtain ⟨kd, nm, tx, kk, pl⟩ := n
  simp only at h
  simp [mkT, hl, h]
theorem PlT.anew {n : Nd} {ks ks' : List Tre} (h : PlT (.mk n ks)) (hl : ks'.length = ks.length) (hc : (ks'.map Tre.nd).map cls = (ks.map Tre.nd).map cls) (hk : ∀ k ∈ ks', PlT k) : PlT (.mk n ks') := by
  have hN := h.node
  refine .mk n ks' ⟨?_, hN.text, hN.num, by rw [hl]; exact hN.len, by rw [hl]; exact hN.kids⟩ hk
  obtain ⟨p, h0, h1, h2, h3, h4, h5⟩ := nodeOk_parts hN.node
  exact nodeOk_of h0 h1 h2 h3 h4 (by rw [kids_cls h0 n n hc]; exact h5)
theorem atom_kinds {bd : Int → Nat} {n : Nd} (h : atomT bd n = true) : n.kind = 70 ∨ n.kind = 71 ∨ n.kind = 72 ∨ n.kind = 73 ∨ n.kind = 74 := by
  unfold atomT at h
  by_cases e : n.kind = 70
  · exact .inl e
  · rw [if_neg e] at h
    simp at h
    omega
theorem rule_leaf (us : Int → Nat) {n : Nd} {ks : List Tre} (h : n.kind = 70 ∨ n.kind = 71 ∨ n.kind = 72 ∨ n.kind = 73 ∨ n.kind = 74) : ruleT us (.mk n ks) = .mk n ks := by
  unfold ruleT
  dsimp only
  rw [if_neg (by omega), if_neg (by omega), if_neg (by omega), if_neg (by omega), if_neg (by omega)]
theorem less_atom (bd us : Int → Nat) {a : Tre} {P : Int → Option Tre} (ha : PlT a) (h : atomT bd a.nd = true) (hP : PGood P) : (lessT bd us a P).1.ks = [] ∧ (lessT bd us a P).2 = P := by
  obtain ⟨n, ks⟩ := a
  have hk := atom_kinds h
  simp only [Tre.nd] at hk
  obtain rfl := ha.node.leaf hk
  rw [lessT_eq]
  unfold lessStep
  by_cases h1 : n.kind = 70 ∧ (P n.num).isSome = true
  · rw [if_pos h1]
    obtain ⟨V, hV⟩ := Option.isSome_iff_exists.1 h1.2
    rw [hV]
    exact ⟨(hP _ V hV).2.2.1, rfl⟩
  · rw [if_neg h1, if_neg (by omega)]
    simp only [List.map_nil, seqF]
    rw [mkT, rule_leaf us (by exact hk)]
    exact ⟨rfl, trivial⟩
theorem single_le {bd : Int → Nat} {x : Int} (h : singleT bd x = true) : x ≤ 200000 := by
  unfold singleT at h
  simp at h
  exact h.1
theorem less_kept (bd us : Int → Nat) : ∀ (T : Tre) (P : Int → Option Tre), PlT T → PGood P → Kept T (lessT bd us T P).1 ∧ PGood (lessT bd us T P).2 := by
  intro T
  refine Tre.ind (p := fun T => ∀ (P : Int → Option Tre), PlT T → PGood P → Kept T (lessT bd us T P).1 ∧ PGood (lessT bd us T P).2) ?_ T
  intro n ks ih P h hP
  have hN := h.node
  rw [lessT_eq]
  unfold lessStep
  by_cases h1 : n.kind = 70 ∧ (P n.num).isSome = true
  · rw [if_pos h1]
    obtain ⟨V, hV⟩ := Option.isSome_iff_exists.1 h1.2
    rw [hV]
    obtain ⟨v1, v2, v3, -⟩ := hP _ V hV
    simp only [Option.getD_some]
    refine ⟨⟨v1, ?_, ?_⟩, hP⟩
    · rw [v2]; exact (cls_kind (.inr (.inr (.inr (.inr (.inr h1.1)))))).symm
    · rw [ks_len v3]; exact out_pos _
  rw [if_neg h1]
  by_cases h2 : n.kind = 80 ∧ singleT bd n.num = true ∧ (ks.head?.map (fun a => atomT bd a.nd)) = some true
  · rw [if_pos h2]
    obtain ⟨h80, hs, ha⟩ := h2
    obtain ⟨a, b, rfl, ca, cb⟩ := hN.code2 (.inr (.inl h80))
    simp only [List.head?_cons, Option.map_some, Option.some.injEq] at ha
    simp only [List.map_cons, List.map_nil]
    obtain ⟨ka, pa⟩ := ih a (by simp) P (h.kid a (by simp)) hP
    have h3 := (less_atom bd us (h.kid a (by simp)) ha hP).1
    have P2 := pa.put (x := n.num) ka.pl (by rw [ka.cl, cls_code.2 ca]) h3 (hN.numb (by omega)).1 (single_le hs)
    obtain ⟨kb, pb⟩ := ih b (by simp) _ (h.kid b (by simp)) P2
    refine ⟨⟨kb.pl, ?_, ?_⟩, pb.del _⟩
    · rw [kb.cl, cls_code.2 cb]; exact (cls_kind (.inr (.inr (.inr (.inl h80))))).symm
    · have := kb.le
      rw [len_one]
      simp
      omega
  rw [if_neg h2]
  dsimp only
  obtain ⟨s1, s2, s3, s4, s5⟩ := seq_kept (lessT bd us) ks P (fun k hk P hP => ih k hk P (h.kid k hk) hP) hP
  have hA := h.anew s1 s2 s3
  have hR := rule_kept us hA
  rw [mkT_same hN.kids s1]
  refine ⟨⟨hR.pl, hR.cl, ?_⟩, s5⟩
  have := hR.le
  rw [len_one] at this ⊢
  omega
end Go.Proofs.YtedlofpgddjpgaaGreat

namespace Go.Proofs.YtedlofpgddjpgaaGreat
open Go.RowKit
abbrev Sl3 := Option Addr × Nat × Nat
def sv (T : Tre) (s : Sl3) : List Value := [.int .i64 T.nd.kind, .int .i64 T.nd.num, .string T.nd.text, .int .i64 T.nd.kids, .int .i64 T.nd.place, .slice s.1 s.2.1 s.2.2, .bool (knT T)]
def Row7 (w : World) (g o : Nat) (T : Tre) (s : Sl3) : Prop :=
  w.cell? ⟨g, o, none⟩ = some (.int .i64 T.nd.kind) ∧ w.cell? ⟨g, o + 1, none⟩ = some (.int .i64 T.nd.num) ∧ w.cell? ⟨g, o + 2, none⟩ = some (.string T.nd.text) ∧ w.cell? ⟨g, o + 3, none⟩ = some (.int .i64 T.nd.kids) ∧ w.cell? ⟨g, o + 4, none⟩ = some (.int .i64 T.nd.place) ∧ w.cell? ⟨g, o + 5, none⟩ = some (.slice s.1 s.2.1 s.2.2) ∧ w.cell? ⟨g, o + 6, none⟩ = some (.bool (knT T))
theorem Row7.but {S : Nat → Prop} {w w' : World} {g o : Nat} {T : Tre} {s : Sl3} (h : Row7 w g o T s) (hb : But S w w') (hs : ¬ S g) : Row7 w' g o T s := by
  have hl : g < w.heap.size := lt_of_cell h.1
  have hc : ∀ j, w'.cell? ⟨g, j, none⟩ = w.cell? ⟨g, j, none⟩ := by
    intro j
    have h9 := hb.block g hl hs
    simp only [World.cell?, h9]
  exact ⟨(hc _).trans h.1, (hc _).trans h.2.1, (hc _).trans h.2.2.1, (hc _).trans h.2.2.2.1, (hc _).trans h.2.2.2.2.1, (hc _).trans h.2.2.2.2.2.1, (hc _).trans h.2.2.2.2.2.2⟩
def SRepF (w : World) (A : Nat → Prop) (R : Tre × Sl3 → Prop) (x : Tre × Sl3) : Prop :=
  ∃ (n : Nd) (ks : List Tre) (ss : Nat → Sl3), x.1 = .mk n ks ∧ x.2.2.1 = ks.length ∧ ks.length ≤ x.2.2.2 ∧ ks.length ≤ 60000 ∧ (∀ j (h : j < ks.length), ∃ g, x.2.1 = some ⟨g, 0, none⟩ ∧ A g ∧ Row7 w g (j * 7) ks[j] (ss j)) ∧ ∀ j (h : j < ks.length), R (ks[j], ss j)
structure SRep (w : World) (A : Nat → Prop) (T : Tre) (s : Sl3) : Prop where
  of ::
  lfp : Lfp (SRepF w A) (T, s)
theorem SRep.grows (w : World) (A : Nat → Prop) : Grows (SRepF w A) := by
  rintro R R' x h ⟨n, ks, ss, e, h1, h2, h3, h4, h5⟩
  exact ⟨n, ks, ss, e, h1, h2, h3, h4, fun j hj => h _ (h5 j hj)⟩
theorem SRep.mk {w : World} {A : Nat → Prop} (n : Nd) (ks : List Tre) (s : Sl3) (ss : Nat → Sl3) (len : s.2.1 = ks.length) (cap : ks.length ≤ s.2.2) (small : ks.length ≤ 60000)
    (cells : ∀ j (h : j < ks.length), ∃ g, s.1 = some ⟨g, 0, none⟩ ∧ A g ∧ Row7 w g (j * 7) ks[j] (ss j)) (kids : ∀ j (h : j < ks.length), SRep w A ks[j] (ss j)) : SRep w A (.mk n ks) s :=
  ⟨Lfp.fold (SRep.grows w A) ⟨n, ks, ss, rfl, len, cap, small, cells, fun j h => (kids j h).lfp⟩⟩
theorem SRep.elim {w : World} {A : Nat → Prop} {motive : ∀ T s, SRep w A T s → Prop}
    (mk : ∀ (n : Nd) (ks : List Tre) (s : Sl3) (ss : Nat → Sl3) (len : s.2.1 = ks.length) (cap : ks.length ≤ s.2.2) (small : ks.length ≤ 60000)
      (cells : ∀ j (h : j < ks.length), ∃ g, s.1 = some ⟨g, 0, none⟩ ∧ A g ∧ Row7 w g (j * 7) ks[j] (ss j)) (kids : ∀ j (h : j < ks.length), SRep w A ks[j] (ss j)), (∀ j (h : j < ks.length), motive ks[j] (ss j) (kids j h)) → motive (.mk n ks) s (SRep.mk n ks s ss len cap small cells kids))
    {T : Tre} {s : Sl3} (h : SRep w A T s) : motive T s h := by
  have key : ∀ h, motive (T, s).1 (T, s).2 h := Lfp.ind (SRep.grows w A) (p := fun x => ∀ h, motive x.1 x.2 h) (by
    rintro ⟨T, s⟩ ⟨n, ks, ss, e, h1, h2, h3, h4, h5⟩ h
    simp only at e
    subst e
    exact mk n ks s ss h1 h2 h3 h4 (fun j hj => ⟨(h5 j hj).1⟩) (fun j hj => (h5 j hj).2 _)) h.lfp
  exact key h
theorem SRep.but {w w' : World} {A A' S : Nat → Prop} {T : Tre} {s : Sl3} (h : SRep w A T s) (hb : But S w w') (hS : ∀ q, A q → ¬ S q) (hA : ∀ q, A q → q < w.heap.size → A' q) : SRep w' A' T s := by
  induction h using SRep.elim with
  | mk n ks s ss len cap small cells kids ih =>
    refine .mk n ks s ss len cap small (fun j h => ?_) ih
    obtain ⟨g, h1, h2, h3⟩ := cells j h
    exact ⟨g, h1, hA g h2 (lt_of_cell h3.1), h3.but hb (hS g h2)⟩
theorem SRep.under {w w' : World} {A : Nat → Prop} {T : Tre} {s : Sl3} (h : SRep w A T s) (hb : Below w.heap.size w w') : SRep w' A T s :=
  h.but (But.ofBelow (S := fun _ => False) hb) (fun _ _ h => h) (fun _ h _ => h)
def SKids (w : World) (A : Nat → Prop) (s : Sl3) (ks : List Tre) : Prop :=
  s.2.1 = ks.length ∧ ks.length ≤ s.2.2 ∧ ks.length ≤ 60000 ∧ ∀ j (h : j < ks.length), ∃ g sj, s.1 = some ⟨g, 0, none⟩ ∧ A g ∧ Row7 w g (j * 7) ks[j] sj ∧ SRep w A ks[j] sj
theorem SKids.rep {w : World} {A : Nat → Prop} {s : Sl3} {ks : List Tre} (h : SKids w A s ks) (n : Nd) : SRep w A (.mk n ks) s := by
  obtain ⟨h1, h2, h3, h4⟩ := h
  have h5 : ∀ j, ∃ sj : Sl3, ∀ h : j < ks.length, ∃ g, s.1 = some ⟨g, 0, none⟩ ∧ A g ∧ Row7 w g (j * 7) ks[j] sj ∧ SRep w A ks[j] sj := by
    intro j
    by_cases h : j < ks.length
    · obtain ⟨g, sj, h6⟩ := h4 j h
      exact ⟨sj, fun _ => ⟨g, h6⟩⟩
    · exact ⟨(none, 0, 0), fun h9 => absurd h9 h⟩
  refine .mk n ks s (fun j => (h5 j).choose) h1 h2 h3 (fun j h => ?_) (fun j h => ?_)
  · obtain ⟨g, a, b, c, -⟩ := (h5 j).choose_spec h
    exact ⟨g, a, b, c⟩
  · obtain ⟨g, -, -, -, d⟩ := (h5 j).choose_spec h
    exact d
theorem SRep.skids {w : World} {A : Nat → Prop} {s : Sl3} {T : Tre} (h : SRep w A T s) : SKids w A s T.ks := by
  cases h using SRep.elim with
  | mk n ks s ss len cap small cells kids =>
    refine ⟨len, cap, small, fun j h => ?_⟩
    obtain ⟨g, h1, h2, h3⟩ := cells j h
    exact ⟨g, ss j, h1, h2, h3, kids j h⟩
end Go.Proofs.YtedlofpgddjpgaaGreat

namespace Go.Proofs.YtedlofpgddjpgaaGreat
open Go.RowKit
def TreeF (t : List Nd) (w : World) (A : Nat → Prop) (R : Nat × Nat → Prop) (x : Nat × Nat) : Prop :=
  ∃ (b i : Nat) (bs : List Nat) (g c : Nat) (cur : Array Value), x = (b, i) ∧ A b ∧ A g ∧ w.heap[b]? = some (.cells #[.int .i64 (ndAt t i).kind, .int .i64 (ndAt t i).num, .string (ndAt t i).text, .int .i64 (ndAt t i).kids, .int .i64 (ndAt t i).place, .slice (some ⟨g, 0, none⟩) bs.length c, .int .i64 0, .int .i64 0, .bool false] 71 (0, 0)) ∧ w.heap[g]? = some (.cells cur 41 (0, 0)) ∧ (∀ j (h : j < bs.length), cur[j]? = some (.pointer (some ⟨bs[j], 0, none⟩))) ∧ bs.length ≤ c ∧ bs.length = (kidsRt t i).length ∧ ∀ j (h : j < bs.length) (h' : j < (kidsRt t i).length), R (bs[j], (kidsRt t i)[j])
structure TreeAt (t : List Nd) (w : World) (A : Nat → Prop) (b i : Nat) : Prop where
  of ::
  lfp : Lfp (TreeF t w A) (b, i)
theorem TreeAt.grows (t : List Nd) (w : World) (A : Nat → Prop) : Grows (TreeF t w A) := by
  rintro R R' x h ⟨b, i, bs, g, c, cur, e, h1, h2, h3, h4, h5, h6, h7, h8⟩
  exact ⟨b, i, bs, g, c, cur, e, h1, h2, h3, h4, h5, h6, h7, fun j hj hj' => h _ (h8 j hj hj')⟩
theorem TreeAt.mk {t : List Nd} {w : World} {A : Nat → Prop} (b i : Nat) (bs : List Nat) (g c : Nat) (cur : Array Value) (hA : A b) (hG : A g) (blk : w.heap[b]? = some (.cells #[.int .i64 (ndAt t i).kind, .int .i64 (ndAt t i).num, .string (ndAt t i).text, .int .i64 (ndAt t i).kids, .int .i64 (ndAt t i).place, .slice (some ⟨g, 0, none⟩) bs.length c, .int .i64 0, .int .i64 0, .bool false] 71 (0, 0))) (row : w.heap[g]? = some (.cells cur 41 (0, 0))) (cells : ∀ j (h : j < bs.length), cur[j]? = some (.pointer (some ⟨bs[j], 0, none⟩))) (cap : bs.length ≤ c) (len : bs.length = (kidsRt t i).length) (kids : ∀ j (h : j < bs.length) (h' : j < (kidsRt t i).length), TreeAt t w A bs[j] (kidsRt t i)[j]) : TreeAt t w A b i :=
  ⟨Lfp.fold (TreeAt.grows t w A) ⟨b, i, bs, g, c, cur, rfl, hA, hG, blk, row, cells, cap, len, fun j h h' => (kids j h h').lfp⟩⟩
theorem TreeAt.elim {t : List Nd} {w : World} {A : Nat → Prop} {motive : ∀ b i, TreeAt t w A b i → Prop}
    (mk : ∀ (b i : Nat) (bs : List Nat) (g c : Nat) (cur : Array Value) (hA : A b) (hG : A g) (blk : w.heap[b]? = some (.cells #[.int .i64 (ndAt t i).kind, .int .i64 (ndAt t i).num, .string (ndAt t i).text, .int .i64 (ndAt t i).kids, .int .i64 (ndAt t i).place, .slice (some ⟨g, 0, none⟩) bs.length c, .int .i64 0, .int .i64 0, .bool false] 71 (0, 0))) (row : w.heap[g]? = some (.cells cur 41 (0, 0))) (cells : ∀ j (h : j < bs.length), cur[j]? = some (.pointer (some ⟨bs[j], 0, none⟩))) (cap : bs.length ≤ c) (len : bs.length = (kidsRt t i).length) (kids : ∀ j (h : j < bs.length) (h' : j < (kidsRt t i).length), TreeAt t w A bs[j] (kidsRt t i)[j]), (∀ j (h : j < bs.length) (h' : j < (kidsRt t i).length), motive bs[j] (kidsRt t i)[j] (kids j h h')) → motive b i (TreeAt.mk b i bs g c cur hA hG blk row cells cap len kids))
    {b i : Nat} (h : TreeAt t w A b i) : motive b i h := by
  have key : ∀ h, motive (b, i).1 (b, i).2 h := Lfp.ind (TreeAt.grows t w A) (p := fun x => ∀ h, motive x.1 x.2 h) (by
    rintro x ⟨b, i, bs, g, c, cur, e, h1, h2, h3, h4, h5, h6, h7, h8⟩ h
    subst e
    exact mk b i bs g c cur h1 h2 h3 h4 h5 h6 h7 (fun j hj hj' => ⟨(h8 j hj hj').1⟩) (fun j hj hj' => (h8 j hj hj').2 _)) h.lfp
  exact key h
theorem TreeAt.inv {t : List Nd} {w : World} {A : Nat → Prop} {b i : Nat} (h : TreeAt t w A b i) : ∃ (bs : List Nat) (g c : Nat) (cur : Array Value), A b ∧ A g ∧ w.heap[b]? = some (.cells #[.int .i64 (ndAt t i).kind, .int .i64 (ndAt t i).num, .string (ndAt t i).text, .int .i64 (ndAt t i).kids, .int .i64 (ndAt t i).place, .slice (some ⟨g, 0, none⟩) bs.length c, .int .i64 0, .int .i64 0, .bool false] 71 (0, 0)) ∧ w.heap[g]? = some (.cells cur 41 (0, 0)) ∧ (∀ j (h : j < bs.length), cur[j]? = some (.pointer (some ⟨bs[j], 0, none⟩))) ∧ bs.length ≤ c ∧ bs.length = (kidsRt t i).length ∧ ∀ j (h : j < bs.length) (h' : j < (kidsRt t i).length), TreeAt t w A bs[j] (kidsRt t i)[j] := by
  induction h using TreeAt.elim with
  | mk b i bs g c cur hA hG blk row cells cap len kids => exact ⟨bs, g, c, cur, hA, hG, blk, row, cells, cap, len, kids⟩
theorem TreeAt.but {t : List Nd} {w w' : World} {A A' S : Nat → Prop} {b i : Nat} (h : TreeAt t w A b i) (hb : But S w w') (hS : ∀ q, A q → ¬ S q) (hA : ∀ q, A q → q < w.heap.size → A' q) : TreeAt t w' A' b i := by
  induction h using TreeAt.elim with
  | mk b i bs g c cur h1 h2 blk row cells cap len kids ih =>
    have l1 := (Array.getElem?_eq_some_iff.1 blk).1
    have l2 := (Array.getElem?_eq_some_iff.1 row).1
    exact .mk b i bs g c cur (hA b h1 l1) (hA g h2 l2) ((hb.block b l1 (hS b h1)).trans blk) ((hb.block g l2 (hS g h2)).trans row) cells cap len ih
theorem TreeAt.under {t : List Nd} {w w' : World} {A : Nat → Prop} {b i : Nat} (h : TreeAt t w A b i) (hb : Below w.heap.size w w') : TreeAt t w' A b i :=
  h.but (But.ofBelow (S := fun _ => False) hb) (fun _ _ h => h) (fun _ h _ => h)
end Go.Proofs.YtedlofpgddjpgaaGreat
