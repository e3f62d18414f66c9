import Derived.Test.YtoiiibplkhedcaaGreatDoorWAO
set_option maxRecDepth 20000
set_option maxHeartbeats 2000000
namespace Go.Proofs.YtoiiibplkhedcaaGreatDoor
open Go.RowKit
theorem Qeg {P : Program} {w : World} {ops : Array Oper} {rest : List Oper} {o : Oper} {a : Act} {Q : Exit → Act → World → Prop} (hgd : o.guard = none) (s x : Operand) (t : TypeId)
    (ho : o.op = .call { callee := .builtin .append, args := #[s, x], argTypes := #[t, t] })
    (base : Nat) (e : TypeId) (i : TypeInfo) (z : Value) (size bytes : Nat) (ht : P.underlying t = some (.slice e)) (hi : P.info? e = some i) (hz : i.zero = some z)
    (hsize : i.size = size) (hby : i.bytes = bytes) (hzs : z.cells.size = size) (hsz : 0 < size) (v : Value) (n : Nat) (xs : List Value) (hs : a.eval s = v) (hown : w.ownsRow base e size v n xs)
    (ad : Addr) (m c : Nat) (news : List Value) (hx : a.eval x = .slice (some ad) m c) (hl : news.length = m * size) (hnews : ∀ j u, news[j]? = some u → w.cell? (ad.add j) = some u) (h1 : ∀ u ∈ news, u.oneCell' = true)
    (hm : 0 < m) (h63 : n + m ≤ maxLen) (hbytes : (n + m) * bytes ≤ 140737488355328) (hbase : base ≤ w.heap.size)
    (h : ∀ g' cap' w', w'.ownsRow base e size (.slice (some ⟨g', 0, none⟩) (n + m) cap') (n + m) (xs ++ news) → w.grownBy w' v.ownBlock → (v.ownBlock = some g' ∨ w.heap.size ≤ g') → wpList P ops Q rest (a.put o.dst (.slice (some ⟨g', 0, none⟩) (n + m) cap')) w') : wpList P ops Q (o :: rest) a w := by
  refine wpList_plain hgd fun K hK => ?_
  obtain ⟨g', cap', w', hrun, r1, r2, r3⟩ := Qqq (P := P) w base t o.type e i z size bytes ht hi hz hsize hby hzs hsz v n xs hown ad m c news hl hnews h1 hm h63 hbytes hbase
  unfold Oper.wp execOp
  simp only [ho, resolve, invoke, builtin, Sem.run_bind, Sem.run_pure, Result.andThen_ok, List.map_toArray, List.map_cons, List.map_nil, hs, hx, hrun]
  exact hK _ _ (h g' cap' w' r1 r2 r3)
theorem Qdi (f : Nat → List Value) (h6 : ∀ i, (f i).length = 6) (n : Nat) : ((List.range n).flatMap f).length = n * 6 := by
  induction n with
  | zero => rfl
  | succ n ih => rw [List.range_succ, List.flatMap_append, List.length_append, ih]; simp [h6]; omega
theorem Qmj (f : Nat → List Value) (h6 : ∀ i, (f i).length = 6) (n i t : Nat) (hi : i < n) (ht : t < 6) : ((List.range n).flatMap f)[i * 6 + t]? = (f i)[t]? := by
  induction n with
  | zero => omega
  | succ n ih =>
    rw [List.range_succ, List.flatMap_append]
    by_cases e : i < n
    · rw [List.getElem?_append_left (by rw [Qdi f h6]; omega)]
      exact ih e
    · have e2 : i = n := by omega
      subst e2
      rw [List.getElem?_append_right (by rw [Qdi f h6]; omega), Qdi f h6]
      have e3 : i * 6 + t - i * 6 = t := by omega
      rw [e3]
      simp
theorem Qvl (f g : Nat → List Value) (h6 : ∀ i, (f i).length = 6) (g6 : ∀ i, (g i).length = 6) (n i t : Nat) (v : Value) (hi : i < n) (ht : t < 6) (hg : g i = (f i).set t v) (ho : ∀ j, j ≠ i → g j = f j) : ((List.range n).flatMap f).set (i * 6 + t) v = (List.range n).flatMap g := by
  apply List.ext_getElem?
  intro j
  by_cases hj : j < n * 6
  · have e : j = (j / 6) * 6 + j % 6 := by omega
    have hq : j / 6 < n := by omega
    have hr : j % 6 < 6 := by omega
    generalize j / 6 = q at *
    generalize j % 6 = r at *
    subst e
    rw [Qmj g g6 n q r hq hr, List.getElem?_set, Qdi f h6]
    by_cases hqi : q = i
    · subst hqi
      rw [hg, List.getElem?_set]
      by_cases hrt : t = r
      · subst hrt
        rw [if_pos rfl, if_pos (by omega), if_pos rfl, if_pos (by rw [h6]; exact hr)]
      · rw [if_neg (by omega), if_neg hrt]
        exact Qmj f h6 n q r hq hr
    · rw [if_neg (by omega), ho q hqi]
      exact Qmj f h6 n q r hq hr
  · rw [List.getElem?_eq_none (by rw [List.length_set, Qdi f h6]; omega), List.getElem?_eq_none (by rw [Qdi g g6]; omega)]
def lkv (l : Option Nat) : Int := match l with
  | some j => (j : Int)
  | none => -1
def Qgn (x : SK) (k : Option Addr × Nat) (l : Option Nat) (m : Int) : List Value := [.int .i64 x.kind, .int .i64 x.num, .string x.text, .slice k.1 x.kids.length k.2, .int .i64 (lkv l), .int .i64 m]
def Qdx (st : List SK) (ka : Nat → Option Addr × Nat) (lk : Nat → Option Nat) (mk : Nat → Int) : List Value := (List.range st.length).flatMap fun i => Qgn (sk st i) (ka i) (lk i) (mk i)
theorem Qtb (st : List SK) (ka : Nat → Option Addr × Nat) (lk : Nat → Option Nat) (mk : Nat → Int) (i t : Nat) (hi : i < st.length) (ht : t < 6) : (Qdx st ka lk mk)[i * 6 + t]? = (Qgn (sk st i) (ka i) (lk i) (mk i))[t]? := Qmj _ (fun _ => rfl) _ i t hi ht
theorem Qqp (st : List SK) (ka : Nat → Option Addr × Nat) (lk : Nat → Option Nat) (mk : Nat → Int) (a b : Nat) (ha : a < st.length) : (Qdx st ka lk mk).set (a * 6 + 4) (.int .i64 (b : Int)) = Qdx st ka (upd lk a b) mk := by
  refine Qvl _ _ (fun _ => rfl) (fun _ => rfl) _ a 4 _ ha (by omega) ?_ ?_
  · simp [Qgn, Qbw, lkv]
  · intro j hj
    rw [Qap hj]
def updM (mk : Nat → Int) (a : Nat) (m : Int) : Nat → Int := fun i => if i = a then m else mk i
theorem Qqo (st : List SK) (ka : Nat → Option Addr × Nat) (lk : Nat → Option Nat) (mk : Nat → Int) (a : Nat) (m : Int) (ha : a < st.length) : (Qdx st ka lk mk).set (a * 6 + 5) (.int .i64 m) = Qdx st ka lk (updM mk a m) := by
  refine Qvl _ _ (fun _ => rfl) (fun _ => rfl) _ a 5 _ ha (by omega) ?_ ?_
  · simp [Qgn, updM]
  · intro j hj
    simp [updM, hj]
structure Sto (w : World) (B g c : Nat) (st : List SK) (ka : Nat → Option Addr × Nat) (lk : Nat → Option Nat) (mk : Nat → Int) : Prop where
  own : w.ownsRow B 132 6 (.slice (some ⟨g, 0, none⟩) st.length c) st.length (Qdx st ka lk mk)
  kids : ∀ i, ∀ k (h : k < (sk st i).kids.length), ∃ b o, (ka i).1 = some ⟨b, o, none⟩ ∧ b ≠ g ∧ w.cell? ⟨b, o + k, none⟩ = some (.int .i64 ((sk st i).kids[k] : Int))
theorem Sto.block {w : World} {B g c : Nat} {st : List SK} {ka : Nat → Option Addr × Nat} {lk : Nat → Option Nat} {mk : Nat → Int} (h : Sto w B g c st ka lk mk) : B ≤ g ∧ g < w.heap.size := Qad h.own
theorem Sto.but {S : Nat → Prop} {w w' : World} {B g c : Nat} {st : List SK} {ka : Nat → Option Addr × Nat} {lk : Nat → Option Nat} {mk : Nat → Int} (h : Sto w B g c st ka lk mk) (hb : But S w w') (hg : ¬ S g) (hk : ∀ q, S q → q = g) : Sto w' B g c st ka lk mk := by
  refine ⟨Qah h.own hb hg, ?_⟩
  intro i k hk1
  obtain ⟨b, o, e1, e2, e3⟩ := h.kids i k hk1
  refine ⟨b, o, e1, e2, ?_⟩
  have hlt : b < w.heap.size := Qaa e3
  have h9 := hb.block b hlt (fun hs => e2 (hk b hs))
  unfold World.cell? at e3 ⊢
  rw [h9]
  exact e3
theorem Sto.below {w w' : World} {B g c : Nat} {st : List SK} {ka : Nat → Option Addr × Nat} {lk : Nat → Option Nat} {mk : Nat → Int} (h : Sto w B g c st ka lk mk) (hb : Below w.heap.size w w') : Sto w' B g c st ka lk mk :=
  h.but (S := fun _ => False) (But.ofBelow hb) (fun h => h) (fun _ h => h.elim)
theorem Sto.cell {w : World} {B g c : Nat} {st : List SK} {ka : Nat → Option Addr × Nat} {lk : Nat → Option Nat} {mk : Nat → Int} (h : Sto w B g c st ka lk mk) (i t : Nat) (hi : i < st.length) (ht : t < 6) : w.cell? ⟨g, i * 6 + t, none⟩ = (Qgn (sk st i) (ka i) (lk i) (mk i))[t]? := by
  rw [Qdu h.own _ (by omega), Qtb st ka lk mk i t hi ht]
theorem Sto.frozen {w : World} {B g c : Nat} {st : List SK} {ka : Nat → Option Addr × Nat} {lk : Nat → Option Nat} {mk : Nat → Int} (h : Sto w B g c st ka lk mk) (j : Nat) : w.frozen? ⟨g, j, none⟩ = false := h.own.frozenAt j
theorem Sto.setLink {w : World} {B g c : Nat} {st : List SK} {ka : Nat → Option Addr × Nat} {lk : Nat → Option Nat} {mk : Nat → Int} (h : Sto w B g c st ka lk mk) (a b : Nat) (ha : a < st.length) : Sto (w.setCell ⟨g, a * 6 + 4, none⟩ (.int .i64 (b : Int))) B g c st ka (upd lk a b) mk := by
  refine ⟨?_, ?_⟩
  · have h9 := Qcv (v := .int .i64 (b : Int)) h.own (i := a * 6 + 4)
    rw [Qqp st ka lk mk a b ha] at h9
    exact h9
  · intro i k hk
    obtain ⟨b2, o, e1, e2, e3⟩ := h.kids i k hk
    have hb : But (· = g) w (w.setCell ⟨g, a * 6 + 4, none⟩ (.int .i64 (b : Int))) := (But.refl (· = g) w).setCell (p := ⟨g, a * 6 + 4, none⟩) rfl _
    have hlt : b2 < w.heap.size := Qaa e3
    have h9 := hb.block b2 hlt e2
    refine ⟨b2, o, e1, e2, ?_⟩
    unfold World.cell? at e3 ⊢
    rw [h9]
    exact e3
theorem Sto.setMark {w : World} {B g c : Nat} {st : List SK} {ka : Nat → Option Addr × Nat} {lk : Nat → Option Nat} {mk : Nat → Int} (h : Sto w B g c st ka lk mk) (a : Nat) (m : Int) (ha : a < st.length) : Sto (w.setCell ⟨g, a * 6 + 5, none⟩ (.int .i64 m)) B g c st ka lk (updM mk a m) := by
  refine ⟨?_, ?_⟩
  · have h9 := Qcv (v := .int .i64 m) h.own (i := a * 6 + 5)
    rw [Qqo st ka lk mk a m ha] at h9
    exact h9
  · intro i k hk
    obtain ⟨b2, o, e1, e2, e3⟩ := h.kids i k hk
    have hb : But (· = g) w (w.setCell ⟨g, a * 6 + 5, none⟩ (.int .i64 m)) := (But.refl (· = g) w).setCell (p := ⟨g, a * 6 + 5, none⟩) rfl _
    have hlt : b2 < w.heap.size := Qaa e3
    have h9 := hb.block b2 hlt e2
    refine ⟨b2, o, e1, e2, ?_⟩
    unfold World.cell? at e3 ⊢
    rw [h9]
    exact e3
def Jbk (X : Nat → Prop) (f : Nat → CC) (sn : Nat → Int) (lk : Nat → Option Nat) (d : Nat → Nat) (K : (Option Addr × Nat × Nat) → List Nat) (sb mb : Nat) (now t I L : Int) (s : Option Addr × Nat × Nat) (P : List PSt) (r : Nat) (w : World) (b : Bool) (w' : World) : Prop :=
  But (fun i => X i ∨ i = sb ∨ (Value.slice s.1 s.2.1 s.2.2).ownBlock = some i) w w' ∧
    ((sn r = I ∧ b = true ∧ WMem w' X f sn lk d K sb mb now t I L s P) ∨ (sn r ≠ I ∧ sn r = L ∧ b = false ∧ WMem w' X f sn lk d K sb mb now t I L s P) ∨
      (sn r ≠ I ∧ sn r ≠ L ∧ b = false ∧ ∃ s' x, WMem w' X f (Qcb sn r I) lk d K sb mb now t I L s' (P ++ [(r, x, Qbc K f t r)]) ∧ ((Value.slice s.1 s.2.1 s.2.2).ownBlock = (Value.slice s'.1 s'.2.1 s'.2.2).ownBlock ∨ ∃ g, (Value.slice s'.1 s'.2.1 s'.2.2).ownBlock = some g ∧ w.heap.size ≤ g)))
theorem Qpl (X : Nat → Prop) (f : Nat → CC) (sn : Nat → Int) (lk : Nat → Option Nat) (d dt : Nat → Nat) (K : (Option Addr × Nat × Nat) → List Nat) (sb mb : Nat) (now t I L : Int) (sa : Option Addr) (sl sc : Nat) (P : List PSt) (w : World) (hW : WMem w X f sn lk d K sb mb now t I L (sa, sl, sc) P) (hsl : sl ≤ 1000000) (HA : Hid (Acyc (tdAt Classical.propDecidable X f t) dt)) (HI : Hid (∀ b j, X b → (f b).td = some j → X j)) (c r : Nat) (hX : X c) (hr : Hd (tdAt Classical.propDecidable X f t) c r) (hXr : X r) :
    Calls Tryz.prog 112 #[.pointer (some ⟨sb, 2, none⟩), .pointer (some ⟨c, 0, none⟩)] w fun e w' => ∃ b, e = .returned (.bool b) ∧ Jbk X f sn lk d K sb mb now t I L (sa, sl, sc) P r w b w' := by
  obtain ⟨i0, hi, hz0, hz1, hz2⟩ := info_parts Tryz.infoSt
  obtain ⟨s0, s1, s2, s3, s4, s5, s6, s7⟩ := hW.blk.cell
  obtain ⟨a0, a1, a2, a3, a4, a5, a6, a7, a8, a9, a10, a11, a12, a13⟩ := (hW.sto.cells.at' r hXr).cell
  have fr := (hW.sto.cells.at' r hXr).frozen 13
  have hrl := (hW.sto.cells.at' r hXr).lt
  have hHE := Qtv X (mkF f sn) lk t dt HA HI w hW.sto.cells c r hX hr
  have hsr : sb ≠ r := fun e => hW.sbX (e ▸ hXr)
  have hrs : r ≠ sb := fun e => hsr e.symm
  have HW : Hid (WMem w X f sn lk d K sb mb now t I L (sa, sl, sc) P) := hW
  simp only at s5
  have e13 : (mkF f sn r).sn = sn r := rfl
  have e7 : (mkF f sn r).told = (f r).told := rfl
  have e6 : (mkF f sn r).ks = (f r).ks := rfl
  rw [e13] at a13
  rw [e7] at a7
  rw [e6] at a6
  obtain ⟨ka, kl, kc, hks⟩ : ∃ a l c, (f r).ks = (a, l, c) := ⟨_, _, _, rfl⟩
  have HKS : Hid ((f r).ks = (ka, kl, kc)) := hks
  rw [hks] at a6
  simp only at a6
  have hStill : ∀ m, But (fun _ => False) w (w.drewN m) := fun m => (But.refl (fun _ => False) w).drewN m
  have HST : Hid (∀ m, WMem (w.drewN m) X f sn lk d K sb mb now t I L (sa, sl, sc) P ∧ ∀ S, But S w (w.drewN m)) := fun m => ⟨hW.still (hStill m), fun S => (But.refl S w).drewN m⟩
  clear hStill hW a0 a1 a2 a3 a4 a5 a8 a9 a10 a11 a12 e13 e7 e6 s0 s1
  go_enter Tryz.func112, Tryz.ntmps112
  go_wp2_with fail
  refine hHE.mono ?_
  rintro e w1 ⟨rfl, e9⟩
  obtain rfl : w = w1 := e9.symm
  clear hHE e9
  by_cases h1 : sn r = I
  · have H1 : Hid (sn r = I) := h1
    rw [h1] at a13
    clear h1
    go_wp2_with fail
    go_quiet (fail)
    go_wp2_with fail
    go_quiet (fail)
    go_wp2
    go_ret
    refine ⟨true, rfl, ?_⟩
    exact ⟨((HST.out _).2 _).drewN _, .inl ⟨H1.out, rfl, (HST.out _).1.still ((But.refl _ _).drewN _)⟩⟩
  · by_cases h2 : sn r = L
    · have H1 : Hid (sn r ≠ I) := h1
      have H2 : Hid (sn r = L) := h2
      rw [h2] at a13 h1
      have t1 : (L == I) = false := by simpa using h1
      clear h1 h2
      go_wp2_with fail
      go_quiet (fail)
      go_wp2_with fail
      go_quiet (fail)
      go_wp2
      go_ret
      refine ⟨false, ?_, ?_⟩
      · simp
      · exact ⟨((HST.out _).2 _).drewN _, .inr (.inl ⟨H1.out, H2.out, rfl, (HST.out _).1.still ((But.refl _ _).drewN _)⟩)⟩
    · have t1 : (sn r == I) = false := by simpa using h1
      have t2 : (sn r == L) = false := by simpa using h2
      have H1 : Hid (sn r ≠ I ∧ sn r ≠ L) := ⟨h1, h2⟩
      clear h1 h2
      go_wp2_with fail
      go_quiet (fail)
      obtain ⟨hM0, hB0⟩ := HST.out nq
      have hM1 := hM0.mark hXr I
      have HB1 : Hid (But (fun i => X i ∨ i = sb ∨ (Value.slice sa sl sc).ownBlock = some i) w ((w.drewN nq).setCell ⟨r, 13, none⟩ (.int .i64 I))) := (hB0 _).setCell (p := ⟨r, 13, none⟩) (.inl hXr) _
      have HROW : Hid (KidRow ((w.drewN nq).setCell ⟨r, 13, none⟩ (.int .i64 I)) X (ka, kl, kc) (K (f r).ks)) := by
        have h9 := hM1.sto.rows r hXr
        have e9 : (mkF f (Qcb sn r I) r).ks = (f r).ks := rfl
        rw [e9] at h9
        have h8 := HKS.out
        show KidRow _ X (ka, kl, kc) _
        rw [← h8]
        exact h9
      have b5 : (w.drewN nq).cell? ⟨sb, 5, none⟩ = some (.slice sa sl sc) := s5
      have b2 : (w.drewN nq).cell? ⟨sb, 2, none⟩ = some (.int .i64 t) := s2
      have b3 : (w.drewN nq).cell? ⟨sb, 3, none⟩ = some (.int .i64 I) := s3
      have d6 : (w.drewN nq).cell? ⟨r, 6, none⟩ = some (.slice ka kl kc) := a6
      have d7 : (w.drewN nq).cell? ⟨r, 7, none⟩ = some (.int .i64 (f r).told) := a7
      have d13 : (w.drewN nq).cell? ⟨r, 13, none⟩ = some (.int .i64 (sn r)) := a13
      have fr2 : (w.drewN nq).frozen? ⟨r, 13, none⟩ = false := fr
      have fs2 : (w.drewN nq).frozen? ⟨sb, 5, none⟩ = false := s6
      have hl1 : r < (w.drewN nq).heap.size := hrl
      have hl2 : sb < (w.drewN nq).heap.size := s7
      clear s2 s3 s4 s5 s6 s7 a6 a7 a13 fr hM0 hB0 HST hrl HW
      generalize w.drewN nq = W at *
      by_cases h3 : t < (f r).told
      · have t3 : decide ((f r).told > t) = true := decide_eq_true h3
        have HKT : Hid (Qbc K f t r = []) := if_pos h3
        clear h3
        go_wp2_with fail
        go_quiet (fail)
        have hM2 := hM1.still ((But.refl (fun _ => False) (W.setCell ⟨r, 13, none⟩ (.int .i64 I))).drewN nq)
        have HB2 := HB1.out.drewN nq
        have hx2 : RestAt ((W.setCell ⟨r, 13, none⟩ (.int .i64 I)).drewN nq) (none, 0, 0) (Qbc K f t r) := by
          rw [HKT.out]
          exact ⟨rfl, by simp, by simp, .inl rfl⟩
        obtain ⟨_, _, _, _, _, q5, q6, q7⟩ := hM2.blk.cell
        simp only at q5
        have HBB : Hid (But (fun i => X i ∨ i = sb ∨ (Value.slice sa sl sc).ownBlock = some i) w ((W.setCell ⟨r, 13, none⟩ (.int .i64 I)).drewN nq)) := HB2
        clear b2 b3 b5 d6 d7 d13 fr2 fs2 hl1 hl2 hM1 HB1 HROW HB2
        generalize (W.setCell ⟨r, 13, none⟩ (.int .i64 I)).drewN nq = W2 at *
        have hal : Below W2.heap.size W2 (W2.alloc (.cells #[.pointer (some ⟨r, 0, none⟩), .slice none 0 0] 206)) := (Below.refl _ W2).alloc (Nat.le_refl _) _
        go_wp2_with (at_builtin; refine Qeg rfl (.tmp 65) (.tmp 69) 103 rfl 0 206 i0 _ 2 32 Tryz.underlying103 hi hz0 hz1 hz2 rfl (by decide) (.slice sa sl sc) sl _ rfl (hM2.row.alloc _) ⟨_, 0, none⟩ 1 1 (Qar [(r, (none, 0, 0), Qbc K f t r)]) rfl rfl (Qoc W2 (r, (none, 0, 0), Qbc K f t r)) (Qvy _) (by omega) ?a3 ?a4 (Nat.zero_le _) ?_)
        case a3 => unfold maxLen; omega
        case a4 => omega
        intro g5 c5 w5 hown5 hgrow5 hwh5
        have hM5 := hM2.push (x := (r, (none, 0, 0), Qbc K f t r)) hal hown5 hgrow5 (hwh5.imp id (fun h => by rw [World.size_alloc]; exact h)) hx2
        have hbu : But (fun i => (Value.slice sa sl sc).ownBlock = some i) W2 w5 := (But.ofBelow hal).trans ⟨hgrow5.os, hgrow5.tape, hgrow5.output, hgrow5.size, fun i hi hne => hgrow5.block i hi (fun e => hne e.symm)⟩
        have hB5 : SBlk w5 sb mb now t I L (sa, sl, sc) := (hbu.block sb q7 (fun e => (hM2.ownX e).2.1 rfl)).trans hM2.blk
        have HBF : Hid (But (fun i => X i ∨ i = sb ∨ (Value.slice sa sl sc).ownBlock = some i) w (w5.setCell ⟨sb, 5, none⟩ (.slice (some ⟨g5, 0, none⟩) (sl + 1) c5))) := (HBB.out.trans (hbu.mono (fun i e => .inr (.inr e)))).setCell (p := ⟨sb, 5, none⟩) (.inr (.inl rfl)) _
        have HWH : Hid ((Value.slice sa sl sc).ownBlock = some g5 ∨ w.heap.size ≤ g5) := hwh5.imp id (fun h => by have h8 := HBB.out.size; omega)
        obtain ⟨_, _, _, _, _, p5, p6, p7⟩ := hB5.cell
        simp only at p5
        clear hown5 hgrow5 hwh5 hM2 hbu hB5 HBB q5 q6 q7 hal hx2
        go_wp2
        go_ret
        refine .inl ⟨rfl, ?_⟩
        refine ⟨HBF.out, .inr (.inr ⟨H1.out.1, H1.out.2, rfl, (some ⟨g5, 0, none⟩, sl + 1, c5), (none, 0, 0), hM5, ?_⟩)⟩
        rcases HWH.out with h9 | h9
        · exact .inl h9
        · exact .inr ⟨g5, rfl, h9⟩
      · have t3 : decide ((f r).told > t) = false := decide_eq_false h3
        have HKT : Hid (Qbc K f t r = K (f r).ks) := if_neg h3
        clear h3
        go_wp2_with fail
        go_quiet (fail)
        have hM2 := hM1.still ((But.refl (fun _ => False) (W.setCell ⟨r, 13, none⟩ (.int .i64 I))).drewN nq)
        have HB2 := HB1.out.drewN nq
        have hx2 : RestAt ((W.setCell ⟨r, 13, none⟩ (.int .i64 I)).drewN nq) (ka, kl, kc) (Qbc K f t r) := by
          rw [HKT.out]
          obtain ⟨⟨r1, r2, r3⟩, r4⟩ := HROW.out.but ((But.refl X (W.setCell ⟨r, 13, none⟩ (.int .i64 I))).drewN nq)
          refine ⟨r1, r2, r3, ?_⟩
          rcases r4 with e9 | ⟨g9, cur9, u1, _, _, u4, u5⟩
          · exact .inl e9
          · exact .inr ⟨g9, 0, cur9, u1, u4, fun i h9 => by rw [Nat.zero_add]; exact u5 i h9⟩
        obtain ⟨_, _, _, _, _, q5, q6, q7⟩ := hM2.blk.cell
        simp only at q5
        have HBB : Hid (But (fun i => X i ∨ i = sb ∨ (Value.slice sa sl sc).ownBlock = some i) w ((W.setCell ⟨r, 13, none⟩ (.int .i64 I)).drewN nq)) := HB2
        clear b2 b3 b5 d6 d7 d13 fr2 fs2 hl1 hl2 hM1 HB1 HROW HB2
        generalize (W.setCell ⟨r, 13, none⟩ (.int .i64 I)).drewN nq = W2 at *
        have hal : Below W2.heap.size W2 (W2.alloc (.cells #[.pointer (some ⟨r, 0, none⟩), .slice ka kl kc] 206)) := (Below.refl _ W2).alloc (Nat.le_refl _) _
        go_wp2_with (at_builtin; refine Qeg rfl (.tmp 65) (.tmp 69) 103 rfl 0 206 i0 _ 2 32 Tryz.underlying103 hi hz0 hz1 hz2 rfl (by decide) (.slice sa sl sc) sl _ rfl (hM2.row.alloc _) ⟨_, 0, none⟩ 1 1 (Qar [(r, (ka, kl, kc), Qbc K f t r)]) rfl rfl (Qoc W2 (r, (ka, kl, kc), Qbc K f t r)) (Qvy _) (by omega) ?a3 ?a4 (Nat.zero_le _) ?_)
        case a3 => unfold maxLen; omega
        case a4 => omega
        intro g5 c5 w5 hown5 hgrow5 hwh5
        have hM5 := hM2.push (x := (r, (ka, kl, kc), Qbc K f t r)) hal hown5 hgrow5 (hwh5.imp id (fun h => by rw [World.size_alloc]; exact h)) hx2
        have hbu : But (fun i => (Value.slice sa sl sc).ownBlock = some i) W2 w5 := (But.ofBelow hal).trans ⟨hgrow5.os, hgrow5.tape, hgrow5.output, hgrow5.size, fun i hi hne => hgrow5.block i hi (fun e => hne e.symm)⟩
        have hB5 : SBlk w5 sb mb now t I L (sa, sl, sc) := (hbu.block sb q7 (fun e => (hM2.ownX e).2.1 rfl)).trans hM2.blk
        have HBF : Hid (But (fun i => X i ∨ i = sb ∨ (Value.slice sa sl sc).ownBlock = some i) w (w5.setCell ⟨sb, 5, none⟩ (.slice (some ⟨g5, 0, none⟩) (sl + 1) c5))) := (HBB.out.trans (hbu.mono (fun i e => .inr (.inr e)))).setCell (p := ⟨sb, 5, none⟩) (.inr (.inl rfl)) _
        have HWH : Hid ((Value.slice sa sl sc).ownBlock = some g5 ∨ w.heap.size ≤ g5) := hwh5.imp id (fun h => by have h8 := HBB.out.size; omega)
        obtain ⟨_, _, _, _, _, p5, p6, p7⟩ := hB5.cell
        simp only at p5
        clear hown5 hgrow5 hwh5 hM2 hbu hB5 HBB q5 q6 q7 hal hx2
        go_wp2
        go_ret
        refine .inl ⟨rfl, ?_⟩
        refine ⟨HBF.out, .inr (.inr ⟨H1.out.1, H1.out.2, rfl, (some ⟨g5, 0, none⟩, sl + 1, c5), (ka, kl, kc), hM5, ?_⟩)⟩
        rcases HWH.out with h9 | h9
        · exact .inl h9
        · exact .inr ⟨g5, rfl, h9⟩
end Go.Proofs.YtoiiibplkhedcaaGreatDoor
namespace Go.Proofs.YtoiiibplkhedcaaGreatDoor
open Go.RowKit
theorem Qwb {w : World} {B e size g c n i : Nat} {xs : List Value} {v : Value} (h : w.ownsRow B e size (.slice (some ⟨g, 0, none⟩) n c) n xs) : (w.setCell ⟨g, i, none⟩ v).ownsRow B e size (.slice (some ⟨g, 0, none⟩) n c) n (xs.set i v) := by
  obtain ⟨hl, ho⟩ := h
  refine ⟨by simp [hl], Or.inr ?_⟩
  rcases ho with ⟨h', _⟩ | ⟨g2, cap2, cur, he, hb, hh, h1, h2, h3, htake⟩
  · cases h'
  · simp only [Value.slice.injEq, Option.some.injEq, Addr.mk.injEq, and_true, true_and] at he
    obtain ⟨rfl, rfl⟩ := he
    exact ⟨_, _, _, rfl, hb, heap_setCell_same _ g i _ e _ hh, h1, h2, by simp [h3], by rw [Array.toList_setIfInBounds, List.take_set, htake]⟩
theorem Qbo (P : List PSt) : (Qar P).length = P.length * 2 := by
  induction P with
  | nil => rfl
  | cons x P ih =>
    have e : Qar (x :: P) = Qar [x] ++ Qar P := by simp [Qar]
    rw [e, List.length_append, ih, List.length_cons]
    simp [Qar]
    omega
section
variable {w : World} {X : Nat → Prop} {f : Nat → CC} {sn : Nat → Int} {lk : Nat → Option Nat} {d : Nat → Nat} {K : (Option Addr × Nat × Nat) → List Nat} {sb mb : Nat} {now t I L : Int} {sa : Option Addr} {sl sc g : Nat} {P : List PSt} {x : PSt}
theorem WMem.top (h : WMem w X f sn lk d K sb mb now t I L (sa, sl, sc) (P ++ [x])) : ∃ g, sa = some ⟨g, 0, none⟩ ∧ sl = P.length + 1 ∧ sl ≤ sc ∧ w.cell? ⟨g, P.length * 2, none⟩ = some (.pointer (some ⟨x.1, 0, none⟩)) ∧ w.cell? ⟨g, P.length * 2 + 1, none⟩ = some (.slice x.2.1.1 x.2.1.2.1 x.2.1.2.2) ∧ w.frozen? ⟨g, P.length * 2 + 1, none⟩ = false ∧ g < w.heap.size ∧ g ≠ sb ∧ ¬ X g := by
  have hl := h.len
  simp only [List.length_append, List.length_singleton] at hl
  rcases h.row.2 with ⟨e, e2⟩ | ⟨g, cap, cur, e, hb, hh, h1, h2, h3, htake⟩
  · simp only at e2; omega
  · simp only [Value.slice.injEq] at e
    obtain ⟨e1, _, e3⟩ := e
    have hown := h.row
    simp only at hown e1 e3 h1
    rw [e1] at hown
    have hob := h.ownX (g := g) (by simp only; rw [e1]; rfl)
    have g0 := Qdu hown (P.length * 2) (by omega)
    have g1 := Qdu hown (P.length * 2 + 1) (by omega)
    rw [Qbz, List.getElem?_append_right (by rw [Qbo]; omega), Qbo] at g0 g1
    refine ⟨g, e1, hl.symm, by omega, ?_, ?_, frozen_of_row w g _ _ 206 hh, hob.2.2, hob.2.1, hob.1⟩
    · rw [g0, Nat.sub_self]; rfl
    · rw [g1, show P.length * 2 + 1 - P.length * 2 = 1 by omega]; rfl
theorem WMem.pop (h : WMem w X f sn lk d K sb mb now t I L (sa, sl, sc) (P ++ [x])) : WMem (w.setCell ⟨sb, 5, none⟩ (.slice sa (sl - 1) sc)) X f sn lk d K sb mb now t I L (sa, sl - 1, sc) P := by
  obtain ⟨g, rfl, hsl, _, _, _, _, _, hgs, _⟩ := h.top
  refine WMem.setPath (s := (some ⟨g, 0, none⟩, sl, sc)) (s' := (some ⟨g, 0, none⟩, sl - 1, sc)) h.sto h.blk h.sbX ?_ (by simp only; omega) (fun y hy => h.rest y (by simp [hy])) (fun e => ?_)
  · have h9 := Qdt h.row (sl - 1) (by simp only; omega)
    rw [Qbz] at h9
    have e9 : (Qar P ++ Qar [x]).take ((sl - 1) * 2) = Qar P := by
      rw [List.take_append_of_le_length (by rw [Qbo]; omega), List.take_of_length_le (by rw [Qbo]; omega)]
    rw [e9] at h9
    exact h9
  · simp only [Value.ownBlock, Option.some.injEq] at e
    exact hgs e
theorem WMem.setRest (h : WMem w X f sn lk d K sb mb now t I L (some ⟨g, 0, none⟩, sl, sc) (P ++ [x])) {y : Option Addr × Nat × Nat} {rest : List Nat} (hy : RestAt w y rest) : WMem (w.setCell ⟨g, P.length * 2 + 1, none⟩ (.slice y.1 y.2.1 y.2.2)) X f sn lk d K sb mb now t I L (some ⟨g, 0, none⟩, sl, sc) (P ++ [(x.1, y, rest)]) := by
  obtain ⟨g', e, hsl, _, _, _, _, hgl, hgs, hgX⟩ := h.top
  simp only [Option.some.injEq, Addr.mk.injEq, and_true] at e
  subst e
  have hb : But (· = g) w (w.setCell ⟨g, P.length * 2 + 1, none⟩ (.slice y.1 y.2.1 y.2.2)) := (But.refl (· = g) w).setCell (p := ⟨g, P.length * 2 + 1, none⟩) rfl _
  obtain ⟨cur, hcur⟩ := h.own (g := g) rfl
  have hty : ∀ cur', w.heap[g]? ≠ some (.cells cur' 64 (0, 0)) := by
    intro cur' e
    rw [hcur] at e
    simp at e
  refine ⟨h.sto.aside hb hgX hty, (hb.block sb (Array.getElem?_eq_some_iff.1 h.blk).1 (fun e => hgs e.symm)).trans h.blk, ?_, by have := h.len; simpa using this, fun z hz => ?_⟩
  · have h9 := Qwb (i := P.length * 2 + 1) (v := .slice y.1 y.2.1 y.2.2) h.row
    have e9 : (Qar (P ++ [x])).set (P.length * 2 + 1) (.slice y.1 y.2.1 y.2.2) = Qar (P ++ [(x.1, y, rest)]) := by
      rw [Qbz, Qbz, List.set_append_right _ _ (by rw [Qbo]; omega), Qbo, show P.length * 2 + 1 - P.length * 2 = 1 by omega]
      rfl
    rw [e9] at h9
    exact h9
  · rcases List.mem_append.1 hz with hz | hz
    · exact (h.rest z (by simp [hz])).but hb (fun g9 e => by rw [e]; exact hty)
    · simp only [List.mem_singleton] at hz
      subst hz
      exact hy.but hb (fun g9 e => by rw [e]; exact hty)
end
theorem RestAt.tail {w : World} {so : Option Addr} {n c : Nat} {k : Nat} {l : List Nat} (h : RestAt w (so, n, c) (k :: l)) : ∃ g o, so = some ⟨g, o, none⟩ ∧ n = l.length + 1 ∧ n ≤ c ∧ g < w.heap.size ∧ w.cell? ⟨g, o, none⟩ = some (.pointer (some ⟨k, 0, none⟩)) ∧ ∀ so', (so' = some ⟨g, o + 1, none⟩ ∨ l = []) → RestAt w (so', n - 1, c - 1) l := by
  obtain ⟨h1, h2, h3, h4⟩ := h
  simp only [List.length_cons] at h1 h2 h3
  rcases h4 with e | ⟨g, o, cur, e, hc, hi⟩
  · cases e
  · simp only at e
    refine ⟨g, o, e, h1, by omega, (Array.getElem?_eq_some_iff.1 hc).1, ?_, fun so' hs => ⟨by simp only; omega, by omega, by simp only; omega, ?_⟩⟩
    · rw [cell_of_row _ _ _ _ 64 (0, 0) hc]
      have h9 := hi 0 (by simp)
      simpa using h9
    · rcases hs with hs | hs
      · refine .inr ⟨g, o + 1, cur, hs, hc, fun i hl => ?_⟩
        have h9 := hi (i + 1) (by simp; omega)
        rw [show o + 1 + i = o + (i + 1) by omega]
        simpa using h9
      · exact .inl hs
end Go.Proofs.YtoiiibplkhedcaaGreatDoor
