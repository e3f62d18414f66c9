import Derived.Test.YtoghngfkmhfimaaGreatDoorWAA
import Derived.Test.YtoghngfkmhfimaaGreatDoorWAB
import Derived.Test.YtoghngfkmhfimaaGreatDoorWAD
import Derived.Test.YtoghngfkmhfimaaGreatDoorQW
namespace Go.Proofs.YtoghngfkmhfimaaGreatDoor

/-- The least predicate that F makes. -/
def Lfp {α : Type} (F : (α → Prop) → α → Prop) (x : α) : Prop := ∀ R : α → Prop, (∀ y, F R y → R y) → R x

/-- F keeps what it is told when it is told more. -/
def Grows {α : Type} (F : (α → Prop) → α → Prop) : Prop := ∀ (R R' : α → Prop) (x : α), (∀ y, R y → R' y) → F R x → F R' x

theorem Lfp.fold {α : Type} {F : (α → Prop) → α → Prop} (hm : Grows F) {x : α} (h : F (Lfp F) x) : Lfp F x :=
  fun R hR => hR x (hm _ R x (fun _ hy => hy R hR) h)

theorem Lfp.ind {α : Type} {F : (α → Prop) → α → Prop} (hm : Grows F) {p : α → Prop} (hp : ∀ y, F (fun z => Lfp F z ∧ p z) y → p y) {x : α} (h : Lfp F x) : p x :=
  (h (fun y => Lfp F y ∧ p y) (fun y hy => ⟨Lfp.fold hm (hm _ _ y (fun _ hz => hz.1) hy), hp y hy⟩)).2

end Go.Proofs.YtoghngfkmhfimaaGreatDoor

namespace Go.Proofs.YtoghngfkmhfimaaGreatDoor

open Go.RowKit



/-- The Binds that lead to rows with capacities. -/
def leadR (rs : List (Nat × Nat)) (bs : List (Int × List Nd)) : List (Value × Value) := List.zipWith (fun r b => (.int .i64 b.1, .slice (some ⟨r.1, 0, none⟩) b.2.length r.2)) rs bs

/-- A row of Binds, the rows of nodes to which they lead, no two of them one. -/
structure TwoR (w : World) (g : Nat) (rs : List (Nat × Nat)) (bs : List (Int × List Nd)) : Prop where
  len : rs.length = bs.length
  lead : OwnB w g (leadR rs bs)
  rows : ∀ i (h : i < rs.length) (h' : i < bs.length), Row w rs[i].1 bs[i].2
  nodup : (rs.map Prod.fst).Nodup

theorem TwoR.below {w w' : World} {g : Nat} {rs : List (Nat × Nat)} {bs : List (Int × List Nd)} (h : TwoR w g rs bs) (hb : Below w.heap.size w w') : TwoR w' g rs bs :=
  ⟨h.len, OwnT.below h.lead hb, fun i hi hi' => (h.rows i hi hi').below hb, h.nodup⟩

theorem TwoR.but {S : Nat → Prop} {w w' : World} {g : Nat} {rs : List (Nat × Nat)} {bs : List (Int × List Nd)} (h : TwoR w g rs bs) (hb : But S w w') (hg : ¬ S g) (hr : ∀ r ∈ rs, ¬ S r.1) : TwoR w' g rs bs :=
  ⟨h.len, OwnT.but h.lead hb hg, fun i hi hi' => hb.row (h.rows i hi hi') (hr _ (List.getElem_mem hi)), h.nodup⟩

theorem TwoR.lt {w : World} {g : Nat} {rs : List (Nat × Nat)} {bs : List (Int × List Nd)} (h : TwoR w g rs bs) : g < w.heap.size := OwnT.lt h.lead

theorem TwoR.mem_lt {w : World} {g : Nat} {rs : List (Nat × Nat)} {bs : List (Int × List Nd)} (h : TwoR w g rs bs) : ∀ r ∈ rs, r.1 < w.heap.size ∧ r.1 ≠ g := by
  intro r hr
  obtain ⟨i, hi, rfl⟩ := List.getElem_of_mem hr
  have hrow := h.rows i hi (by have := h.len; omega)
  exact ⟨hrow.lt, OwnB.ne h.lead hrow⟩

theorem leadR_get (rs : List (Nat × Nat)) (bs : List (Int × List Nd)) (i : Nat) (hr : i < rs.length) (hb : i < bs.length) : (leadR rs bs)[i]'(by simp [leadR]; omega) = (.int .i64 bs[i].1, .slice (some ⟨rs[i].1, 0, none⟩) bs[i].2.length rs[i].2) := by simp [leadR]

theorem leadR_length (rs : List (Nat × Nat)) (bs : List (Int × List Nd)) (h : rs.length = bs.length) : (leadR rs bs).length = bs.length := by simp [leadR, h]

theorem TwoR.get {w : World} {g : Nat} {rs : List (Nat × Nat)} {bs : List (Int × List Nd)} (h : TwoR w g rs bs) (i : Nat) (hi : i < bs.length) (hi' : i < rs.length) :
    w.cell? ⟨g, i * 2, none⟩ = some (.int .i64 bs[i].1) ∧ w.cell? ⟨g, i * 2 + 1, none⟩ = some (.slice (some ⟨rs[i].1, 0, none⟩) bs[i].2.length rs[i].2) ∧ Row w rs[i].1 bs[i].2 := by
  obtain ⟨h1, h2⟩ := h.lead.at i (by rw [leadR_length rs bs h.len]; exact hi)
  rw [leadR_get rs bs i hi' hi] at h1 h2
  exact ⟨h1, h2, h.rows i hi' hi⟩

theorem TwoR.binds {w : World} {g : Nat} {rs : List (Nat × Nat)} {bs : List (Int × List Nd)} (h : TwoR w g rs bs) : Binds w (some ⟨g, 0, none⟩) bs := by
  intro i hi
  obtain ⟨h0, hc, hr⟩ := h.get i hi (by have := h.len; omega)
  exact ⟨g, 0, _, _, rfl, by rw [Nat.zero_add]; exact h0, by rw [Nat.zero_add]; exact hc, hr.nodes⟩

/-- What stands there when Binds have been marked from k on. -/
def mB : Nat → List (Int × List Nd) → List (Int × List Nd)
  | _, [] => []
  | k, b :: bs => ((k : Int), marks (k + 1) b.2.length) :: mB (k + 1 + 5 * b.2.length) bs

theorem mB_length (k : Nat) (bs : List (Int × List Nd)) : (mB k bs).length = bs.length := by
  induction bs generalizing k with
  | nil => rfl
  | cons b bs ih => simp [mB, ih]

theorem mB_get (k : Nat) (bs : List (Int × List Nd)) (j : Nat) (h : j < bs.length) : (mB k bs)[j]'(by rw [mB_length]; exact h) = (((k + j + 5 * total ((tys bs).take j) : Nat) : Int), marks (k + j + 5 * total ((tys bs).take j) + 1) bs[j].2.length) := by
  induction bs generalizing k j with
  | nil => simp at h
  | cons b bs ih =>
    cases j with
    | zero => simp [mB, total]
    | succ j =>
      have h9 := ih (k + 1 + 5 * b.2.length) j (by simpa using h)
      have e9 : total ((tys (b :: bs)).take (j + 1)) = b.2.length + total ((tys bs).take j) := by simp [tys, total]
      simp only [mB, List.getElem_cons_succ]
      rw [h9, e9]
      have e8 : k + 1 + 5 * b.2.length + j + 5 * total ((tys bs).take j) = k + (j + 1) + 5 * (b.2.length + total ((tys bs).take j)) := by omega
      rw [e8]

/-- As far as j they are marked. -/
def curB (k : Nat) (bs : List (Int × List Nd)) (j : Nat) : List (Int × List Nd) := (mB k bs).take j ++ bs.drop j

theorem curB_length (k : Nat) (bs : List (Int × List Nd)) (j : Nat) (h : j ≤ bs.length) : (curB k bs j).length = bs.length := by
  simp [curB, mB_length]
  omega

theorem curB_ge (k : Nat) (bs : List (Int × List Nd)) (j i : Nat) (hj : j ≤ i) (h : i < bs.length) : (curB k bs j)[i]'(by rw [curB_length k bs j (by omega)]; exact h) = bs[i] := by
  unfold curB
  rw [List.getElem_append_right (by simp [mB_length]; omega)]
  simp [mB_length]
  congr 1
  omega

theorem curB_step (k : Nat) (bs : List (Int × List Nd)) (j : Nat) (h : j < bs.length) : (curB k bs j).set j ((mB k bs)[j]'(by rw [mB_length]; exact h)) = curB k bs (j + 1) := by
  have hm : j < (mB k bs).length := by rw [mB_length]; exact h
  have e2 : bs.drop j = bs[j] :: bs.drop (j + 1) := List.drop_eq_getElem_cons h
  have hl : ((mB k bs).take j).length = j := by simp; omega
  unfold curB
  rw [e2, List.set_append_right _ _ (by omega), hl, Nat.sub_self, List.set_cons_zero, List.take_succ_eq_append_getElem hm, List.append_assoc]
  rfl

set_option maxHeartbeats 2000000 in
theorem markBindR_any (bs : List (Int × List Nd)) (n : Nat) (HN : Hid (bs.length = n)) (g : Nat) (rs : List (Nat × Nat)) (cap k : Nat) (w : World) (hx : TwoR w g rs bs) (ht : total (tys bs) ≤ 8000000) (HMB : Hid (∀ b ∈ bs, b.2.length ≤ 1048576)) (hlx : n ≤ 1048576) (hk : k ≤ 1000) (hk0 : 0 < k) :
    Calls Tryz.prog 28 #[.slice (some ⟨g, 0, none⟩) n cap, .int .i64 k] w fun e w' => e = .returned (.int .i64 (k + n + 5 * total (tys bs) : Nat)) ∧ TwoR w' g rs (mB k bs) ∧ But (fun q => q = g ∨ ∃ r ∈ rs, q = r.1) w w' := by
  have HR : Hid (rs.length = n) := hx.len.trans HN.out
  go_enter Tryz.func28, Tryz.ntmps28
  go_wp2
  go_loopw [1, 5] (fun a i wr => ∃ (j : Nat), j ≤ n ∧ i = .int .i64 j ∧ a = .int .i64 (k + j + 5 * total ((tys bs).take j) : Nat) ∧ TwoR wr g rs (curB k bs j) ∧ But (fun q => q = g ∨ ∃ r ∈ rs, q = r.1) w wr) (fun _ i _ => n - (intOf i).toNat)
  case atStart => exact ⟨0, Nat.zero_le _, rfl, rfl, by simpa [curB] using hx, But.refl _ _⟩
  case round =>
    obtain ⟨j, hj, rfl, rfl, htw, hb⟩ := hrel
    by_cases hlt : j < n
    · have hltk : j < bs.length := by have := HN.out; omega
      have hltt : j < (tys bs).length := by simpa [tys] using hltk
      have hltr : j < rs.length := by have := HR.out; omega
      have hlc : j < (curB k bs j).length := by rw [curB_length k bs j (by omega)]; exact hltk
      obtain ⟨a0, a1, hr⟩ := htw.get j hlc hltr
      have hge := curB_ge k bs j j (Nat.le_refl _) hltk
      have hmg := mB_get k bs j hltk
      have hst := curB_step k bs j hltk
      have hts := total_take_succ (tys bs) j hltt
      have htl := total_take_le (tys bs) (j + 1)
      rw [tys_get bs j hltk] at hts
      rw [hge] at a0 a1 hr
      obtain ⟨q, hq⟩ : ∃ q, k + j + 5 * total ((tys bs).take j) = q := ⟨_, rfl⟩
      obtain ⟨⟨bn, ks⟩, hbk⟩ : ∃ p, bs[j] = p := ⟨_, rfl⟩
      rw [hbk] at a0 a1 hr hts hmg
      simp only at a0 a1 hr hts hmg
      obtain ⟨l, hl⟩ : ∃ l, ks.length = l := ⟨_, rfl⟩
      have HQ : Hid (k + (j + 1) + 5 * total ((tys bs).take (j + 1)) = q + 1 + 5 * l) := by show k + (j + 1) + 5 * total ((tys bs).take (j + 1)) = q + 1 + 5 * l; omega
      have hq1 : q ≤ 60000000 := by omega
      have hl1 : l ≤ 1048576 := by
        have h9 := HMB.out bs[j] (List.getElem_mem hltk)
        rw [hbk] at h9
        simp only at h9
        omega
      have hq0 : 0 < q := by omega
      have HL : Hid (ks.length = l) := hl
      rw [hq, hl] at hmg
      rw [hmg] at hst
      have hne := OwnB.ne htw.lead hr
      have f0 := OwnT.frozen htw.lead (j * 2)
      have hgl := OwnT.lt htw.lead
      rw [hq]
      rw [hl] at a1
      obtain ⟨⟨rg, rc⟩, hrj⟩ : ∃ r, rs[j] = r := ⟨_, rfl⟩
      have hrm : (rg, rc) ∈ rs := by rw [← hrj]; exact List.getElem_mem hltr
      rw [hrj] at a1 hr hne
      simp only at a1 hr hne
      have bS : But (· = g) wr (wr.setCell ⟨g, j * 2, none⟩ (.int .i64 (q : Int))) := (But.refl (· = g) wr).setCell (p := ⟨g, j * 2, none⟩) rfl _
      have hrS := bS.row hr hne
      have HTW : Hid (TwoR wr g rs (curB k bs j)) := htw
      have HST : Hid ((curB k bs j).set j ((q : Int), marks (q + 1) l) = curB k bs (j + 1)) := hst
      have HRJ : Hid (rs[j] = (rg, rc)) := hrj
      have HA1 : Hid (wr.cell? ⟨g, j * 2 + 1, none⟩ = some (.slice (some ⟨rg, 0, none⟩) l rc)) := a1
      have HGE : Hid ((curB k bs j)[j] = (bn, ks)) := hge.trans hbk
      have bbS : But (fun q => q = g ∨ ∃ r ∈ rs, q = r.1) w (wr.setCell ⟨g, j * 2, none⟩ (.int .i64 (q : Int))) := hb.trans (bS.mono (fun q hq => Or.inl hq))
      clear hts htl hq hl hx htw hst hmg hge hbk hrj hr
      go_wp2_with fail
      refine (markNodeS_any ks l rg rc (q + 1) _ HL hrS (by omega) (by omega) (by omega)).mono ?_
      rintro e w1 ⟨rfl, hrm1, hb1⟩
      have hT : TwoR w1 g rs (curB k bs (j + 1)) := by
        have hln := HTW.out.len
        have hls : rs.length = ((curB k bs j).set j ((q : Int), marks (q + 1) l)).length := by simpa using hln
        rw [← HST.out]
        refine ⟨hls, ?_, ?_, HTW.out.nodup⟩
        · have h9 := OwnT.set HTW.out.lead (j * 2) (.int .i64 (q : Int)) (by rw [cells2_length, leadR_length _ _ hln]; omega)
          have e9 : (cells2 (leadR rs (curB k bs j))).set (j * 2) (.int .i64 (q : Int)) = cells2 (leadR rs ((curB k bs j).set j ((q : Int), marks (q + 1) l))) := by
            have e8 : leadR rs ((curB k bs j).set j ((q : Int), marks (q + 1) l)) = (leadR rs (curB k bs j)).set j (.int .i64 (q : Int), .slice (some ⟨rg, 0, none⟩) l rc) := by
              apply List.ext_getElem
              · simp [leadR]
              · intro i h1 h2
                by_cases e : i = j
                · subst e
                  rw [List.getElem_set_self, leadR_get _ _ i hltr (by simpa using hlc)]
                  simp [HRJ.out, marks_length]
                · have hi1 : i < rs.length := by simp [leadR] at h1; omega
                  have hi2 : i < (curB k bs j).length := by omega
                  rw [List.getElem_set_ne (by omega), leadR_get _ _ i hi1 (by simpa using hi2), leadR_get _ _ i hi1 hi2]
                  rw [List.getElem_set_ne (by omega)]
            rw [e8, ← cells2_set (leadR rs (curB k bs j)) j (.int .i64 (q : Int), .slice (some ⟨rg, 0, none⟩) l rc)]
            have h8 := (cells2_get (leadR rs (curB k bs j)) j (by rw [leadR_length _ _ hln]; exact hlc)).2
            rw [leadR_get _ _ j hltr hlc, HRJ.out, HGE.out] at h8
            simp only [HL.out] at h8
            have h7 : ((cells2 (leadR rs (curB k bs j))).set (j * 2) (.int .i64 (q : Int)))[j * 2 + 1]? = some (.slice (some ⟨rg, 0, none⟩) l rc) := by
              rw [List.getElem?_set_ne (by omega)]; exact h8
            exact (set_same h7).symm
          rw [e9] at h9
          exact OwnT.but h9 hb1 (fun e => hne e.symm)
        · intro i h1 h2
          by_cases e : i = j
          · subst e
            rw [List.getElem_set_self, HRJ.out]
            exact hrm1
          · rw [List.getElem_set_ne (by omega)]
            have h5 := HTW.out.rows i h1 (by simpa using h2)
            refine hb1.row (bS.row h5 (OwnB.ne HTW.out.lead h5)) ?_
            intro e5
            have hnd := HTW.out.nodup
            have h6 : (rs.map Prod.fst)[i]'(by simpa using h1) = (rs.map Prod.fst)[j]'(by simpa using hltr) := by
              rw [List.getElem_map, List.getElem_map, HRJ.out]
              exact e5
            have := (List.getElem_inj (h₀ := by simpa using h1) (h₁ := by simpa using hltr) hnd).1 h6
            omega
      have bb := bbS.trans (hb1.mono (fun q hq => Or.inr ⟨(rg, rc), hrm, hq⟩))
      clear hb hb1 hne bbS a0 a1 f0 hrS hrm1 bS HTW HST HRJ HA1 HGE
      go_wp2
      go_roundw
      case rel => exact ⟨j + 1, by omega, by go_num, by rw [HQ.out]; go_num, hT, bb⟩
      case measure => simp [intOf]; omega
    · have hje : j = n := by omega
      subst hje
      have HE : Hid ((tys bs).take j = tys bs) := List.take_of_length_le (by have := HN.out; simp [tys]; omega)
      have HC : Hid (curB k bs j = mB k bs) := by
        show curB k bs j = mB k bs
        unfold curB
        rw [List.take_of_length_le (by have := HN.out; rw [mB_length]; omega), List.drop_eq_nil_of_le (by have := HN.out; omega), List.append_nil]
      rw [HC.out] at htw
      clear hx
      go_wp2
      go_ret
      exact ⟨by rw [HE.out]; congr 1, htw, hb⟩

set_option maxHeartbeats 2000000 in
theorem heldBindR_any (bs : List (Int × List Nd)) (n : Nat) (HN : Hid (bs.length = n)) (g : Nat) (rs : List (Nat × Nat)) (cap k : Nat) (w : World) (hx : TwoR w g rs (mB k bs)) (ht : total (tys bs) ≤ 8000000) (HMB : Hid (∀ b ∈ bs, b.2.length ≤ 1048576)) (hlx : n ≤ 1048576) (hk : k ≤ 1000) (hk0 : 0 < k) :
    Calls Tryz.prog 29 #[.slice (some ⟨g, 0, none⟩) n cap, .int .i64 k] w fun e w' => e = .returned (.int .i64 (k + n + 5 * total (tys bs) : Nat)) ∧ Below w.heap.size w w' := by
  have HR : Hid (rs.length = n) := by have h9 := hx.len; rw [mB_length] at h9; exact h9.trans HN.out
  go_enter Tryz.func29, Tryz.ntmps29
  go_wp2
  go_loopw [1, 5] (fun a i wr => ∃ (j : Nat), j ≤ n ∧ i = .int .i64 j ∧ a = .int .i64 (k + j + 5 * total ((tys bs).take j) : Nat) ∧ Below w.heap.size w wr) (fun _ i _ => n - (intOf i).toNat)
  case atStart => exact ⟨0, Nat.zero_le _, rfl, rfl, Below.refl _ _⟩
  case round =>
    obtain ⟨j, hj, rfl, rfl, hb⟩ := hrel
    by_cases hlt : j < n
    · have hltk : j < bs.length := by have := HN.out; omega
      have hltt : j < (tys bs).length := by simpa [tys] using hltk
      have hltr : j < rs.length := by have := HR.out; omega
      obtain ⟨a0, a1, hr⟩ := (hx.below hb).get j (by rw [mB_length]; exact hltk) hltr
      have hmg := mB_get k bs j hltk
      have hts := total_take_succ (tys bs) j hltt
      have htl := total_take_le (tys bs) (j + 1)
      rw [tys_get bs j hltk] at hts
      rw [hmg] at a0 a1 hr
      obtain ⟨q, hq⟩ : ∃ q, k + j + 5 * total ((tys bs).take j) = q := ⟨_, rfl⟩
      obtain ⟨l, hl⟩ : ∃ l, bs[j].2.length = l := ⟨_, rfl⟩
      have HQ : Hid (k + (j + 1) + 5 * total ((tys bs).take (j + 1)) = q + 1 + 5 * l) := by show k + (j + 1) + 5 * total ((tys bs).take (j + 1)) = q + 1 + 5 * l; omega
      have hq1 : q ≤ 60000000 := by omega
      have hl1 : l ≤ 1048576 := by
        have h9 := HMB.out bs[j] (List.getElem_mem hltk)
        omega
      rw [hq, hl] at a0 a1 hr
      simp only [marks_length] at a0 a1 hr
      obtain ⟨⟨rg, rc⟩, hrj⟩ : ∃ r, rs[j] = r := ⟨_, rfl⟩
      rw [hrj] at a1 hr
      simp only at a1 hr
      have hgl : g < wr.heap.size := lt_of_cell a0
      rw [hq]
      have tq : ((q : Int) != (q : Int)) = false := by simp
      clear hts htl hq hl hx hmg hrj
      go_wp2_with fail
      refine (heldNodeS_any l rg rc (q + 1) wr hr (by omega) (by omega) (by omega)).mono ?_
      rintro e w1 ⟨rfl, hb1⟩
      have hbb := Below.step hb hb1
      have tk : decide (((q + 1 + 5 * l : Nat) : Int) < 0) = false := decide_eq_false (by omega)
      clear hb hb1 a0 a1 hr
      go_wp2
      go_roundw
      case rel => exact ⟨j + 1, by omega, by go_num, by rw [HQ.out]; go_num, hbb⟩
      case measure => simp [intOf]; omega
    · have hje : j = n := by omega
      subst hje
      have HE : Hid ((tys bs).take j = tys bs) := List.take_of_length_le (by have := HN.out; simp [tys]; omega)
      clear hx
      go_wp2
      go_ret
      exact ⟨by rw [HE.out]; congr 1, hb⟩

/-- An answer: a slice of Binds that is empty, or rows of the call's own, from block B on. -/
def BAns (w : World) (B : Nat) (ao : Option Addr) (bs : List (Int × List Nd)) : Prop := bs = [] ∨ ∃ g rs, ao = some ⟨g, 0, none⟩ ∧ B ≤ g ∧ (∀ r ∈ rs, B ≤ r.1) ∧ TwoR w g rs bs

theorem BAns.binds {w : World} {B : Nat} {ao : Option Addr} {bs : List (Int × List Nd)} (h : BAns w B ao bs) : Binds w ao bs := by
  rcases h with rfl | ⟨g, rs, rfl, _, _, hr⟩
  · exact fun i hi => by simp at hi
  · exact hr.binds

theorem BAns.below {w w' : World} {B : Nat} {ao : Option Addr} {bs : List (Int × List Nd)} (h : BAns w B ao bs) (hb : Below w.heap.size w w') : BAns w' B ao bs := by
  rcases h with rfl | ⟨g, rs, rfl, h1, h2, hr⟩
  · exact Or.inl rfl
  · exact Or.inr ⟨g, rs, rfl, h1, h2, hr.below hb⟩

theorem BAns.but {S : Nat → Prop} {w w' : World} {B : Nat} {ao : Option Addr} {bs : List (Int × List Nd)} (h : BAns w B ao bs) (hb : But S w w') (hS : ∀ q, B ≤ q → ¬ S q) : BAns w' B ao bs := by
  rcases h with rfl | ⟨g, rs, rfl, h1, h2, hr⟩
  · exact Or.inl rfl
  · exact Or.inr ⟨g, rs, rfl, h1, h2, hr.but hb (hS g h1) (fun r hr => hS r.1 (h2 r hr))⟩

set_option maxHeartbeats 1000000 in
theorem markBindS_none (ao : Option Addr) (cap k : Nat) (w : World) :
    Calls Tryz.prog 28 #[.slice ao 0 cap, .int .i64 k] w fun e w' => e = .returned (.int .i64 (k : Nat)) ∧ w' = w := by
  go_enter Tryz.func28, Tryz.ntmps28
  go_wp2
  go_loopw [1, 5] (fun a i wr => a = .int .i64 k ∧ i = .int .i64 0 ∧ wr = w) (fun _ _ _ => 0)
  case atStart => exact ⟨rfl, rfl, rfl⟩
  case round =>
    obtain ⟨rfl, rfl, rfl⟩ := hrel
    go_wp2
    go_ret
    exact ⟨rfl, rfl⟩

set_option maxHeartbeats 1000000 in
theorem heldBindS_none (ao : Option Addr) (cap k : Nat) (w : World) :
    Calls Tryz.prog 29 #[.slice ao 0 cap, .int .i64 k] w fun e w' => e = .returned (.int .i64 (k : Nat)) ∧ w' = w := by
  go_enter Tryz.func29, Tryz.ntmps29
  go_wp2
  go_loopw [1, 5] (fun a i wr => a = .int .i64 k ∧ i = .int .i64 0 ∧ wr = w) (fun _ _ _ => 0)
  case atStart => exact ⟨rfl, rfl, rfl⟩
  case round =>
    obtain ⟨rfl, rfl, rfl⟩ := hrel
    go_wp2
    go_ret
    exact ⟨rfl, rfl⟩

theorem heldBindS_gen (bs : List (Int × List Nd)) (n B : Nat) (ao : Option Addr) (cap k : Nat) (w : World) (HN : Hid (bs.length = n)) (ha : BAns w B ao (mB k bs)) (ht : total (tys bs) ≤ 8000000) (HMB : Hid (∀ b ∈ bs, b.2.length ≤ 1048576)) (hn : n ≤ 1048576) (hk : k ≤ 1000) (hk0 : 0 < k) :
    Calls Tryz.prog 29 #[.slice ao n cap, .int .i64 k] w fun e w' => e = .returned (.int .i64 (k + n + 5 * total (tys bs) : Nat)) ∧ Below w.heap.size w w' := by
  rcases ha with h | ⟨g, rs, rfl, h1, h2, hr⟩
  · have h0 : n = 0 := by have := mB_length k bs; rw [h] at this; exact HN.out.symm.trans this.symm
    subst h0
    have hb0 : bs = [] := List.eq_nil_of_length_eq_zero HN.out
    subst hb0
    exact (heldBindS_none ao cap k w).mono (by rintro e w' ⟨rfl, rfl⟩; exact ⟨rfl, Below.refl _ _⟩)
  · exact heldBindR_any bs n HN g rs cap k w hr ht HMB hn hk hk0

set_option maxRecDepth 20000 in
set_option maxHeartbeats 1000000 in
theorem markPairS_any (ps : List (List Nd × List Nd)) (n : Nat) (HN : Hid (ps.length = n)) (g : Nat) (gs : List (Nat × Nat)) (lo hi : Nat) (cap k : Nat) (w : World) (hx : TwoQ w g gs ps lo hi) (ht : pairSum ps n ≤ 1048576) (hlx : n ≤ 1048576) (hk : k ≤ 10000000) (hk0 : 0 < k) :
    Calls Tryz.prog 10 #[.slice (some ⟨g, 0, none⟩) n cap, .int .i64 k] w fun e w' => e = .returned (.int .i64 (k + 5 * pairSum ps n : Nat)) ∧ But (fun q => lo ≤ q ∧ q < hi) w w' := by
  have HG : Hid (gs.length = n) := hx.rows.len.trans HN.out
  have HPL : Hid (∀ j, j ≤ n → pairSum ps j ≤ pairSum ps n) := by
    intro j hj
    have h9 := pairSum_le (ps.take n) j
    have e1 : pairSum (ps.take n) j = pairSum ps j := by
      unfold pairSum
      rw [List.take_take, Nat.min_eq_left hj]
    rw [e1] at h9
    exact h9
  have HTWO : Hid (∀ i (h : i < gs.length), (lo ≤ gs[i].1 ∧ gs[i].1 < hi) ∧ (lo ≤ gs[i].2 ∧ gs[i].2 < hi) ∧ gs[i].1 ≠ gs[i].2) := fun i h => ⟨(hx.rows.inn i h).1, (hx.rows.inn i h).2, hx.rows.two i h⟩
  have HAP : Hid (∀ i j (h : i < gs.length) (h' : j < gs.length), i < j → gs[i].1 ≠ gs[j].1 ∧ gs[i].1 ≠ gs[j].2 ∧ gs[i].2 ≠ gs[j].1 ∧ gs[i].2 ≠ gs[j].2) := hx.rows.apart
  have hlead := hx.lead
  have hrows0 := hx.rows.rows
  have HGE : Hid (∀ W, OwnQ W g (leadQ gs ps) → ∀ i (hi' : i < ps.length) (hg : i < gs.length), W.cell? ⟨g, i * 2, none⟩ = some (.slice (some ⟨gs[i].1, 0, none⟩) ps[i].1.length ps[i].1.length) ∧ W.cell? ⟨g, i * 2 + 1, none⟩ = some (.slice (some ⟨gs[i].2, 0, none⟩) ps[i].2.length ps[i].2.length)) := by
    intro W h i hi' hg
    obtain ⟨h1, h2⟩ := h.at i (by simp [leadQ]; omega)
    refine ⟨?_, ?_⟩
    · rw [h1]; simp [leadQ]
    · rw [h2]; simp [leadQ]
  clear hx
  go_enter Tryz.func10, Tryz.ntmps10
  go_wp2
  go_loopw [1, 5] (fun a i wr => ∃ (j : Nat), j ≤ n ∧ i = .int .i64 j ∧ a = .int .i64 (k + 5 * pairSum ps j : Nat) ∧ OwnQ wr g (leadQ gs ps) ∧ (∀ i (h : i < gs.length) (h' : i < ps.length), j ≤ i → Row wr gs[i].1 ps[i].1 ∧ Row wr gs[i].2 ps[i].2) ∧ But (fun q => lo ≤ q ∧ q < hi) w wr) (fun _ i _ => n - (intOf i).toNat)
  case atStart => exact ⟨0, Nat.zero_le _, rfl, by simp [pairSum], hlead, fun i h h' _ => hrows0 i h h', But.refl _ _⟩
  case round =>
    clear hlead hrows0
    obtain ⟨j, hj, rfl, rfl, hown, hrows, hb⟩ := hrel
    by_cases hlt : j < n
    · have hltk : j < ps.length := by have := HN.out; omega
      have hltg : j < gs.length := by have := HG.out; omega
      obtain ⟨a0, a1⟩ := HGE.out wr hown j hltk hltg
      obtain ⟨hr1, hr2⟩ := hrows j hltg hltk (Nat.le_refl _)
      obtain ⟨i1, i2, i3⟩ := HTWO.out j hltg
      have hts := pairSum_succ hltk
      have htl := HPL.out (j + 1) (by omega)
      obtain ⟨q, hq⟩ : ∃ q, k + 5 * pairSum ps j = q := ⟨_, rfl⟩
      obtain ⟨la, hla⟩ : ∃ l, ps[j].1.length = l := ⟨_, rfl⟩
      obtain ⟨lc, hlc⟩ : ∃ l, ps[j].2.length = l := ⟨_, rfl⟩
      have HQ : Hid (k + 5 * pairSum ps (j + 1) = q + 5 * la + 5 * lc) := by show k + 5 * pairSum ps (j + 1) = q + 5 * la + 5 * lc; omega
      have hq1 : q ≤ 20000000 := by omega
      have hl1 : la ≤ 1048576 := by omega
      have hl2 : lc ≤ 1048576 := by omega
      have hq0 : 0 < q := by omega
      have HLA : Hid (ps[j].1.length = la) := hla
      have HLC : Hid (ps[j].2.length = lc) := hlc
      have hne1 := hown.ne hr1
      have hne2 := hown.ne hr2
      rw [hq]
      rw [hla] at a0
      rw [hlc] at a1
      have HRS : Hid (∀ i (h : i < gs.length) (h' : i < ps.length), j ≤ i → Row wr gs[i].1 ps[i].1 ∧ Row wr gs[i].2 ps[i].2) := hrows
      have HOW : Hid (OwnQ wr g (leadQ gs ps)) := hown
      have hgl := OwnT.lt hown
      clear hts htl hq hla hlc hrows hown
      go_wp2_with fail
      refine (markNodeS_any ps[j].1 la gs[j].1 la q _ HLA hr1 (by omega) (by omega) (by omega)).mono ?_
      rintro e w1 ⟨rfl, _, hb1⟩
      have o1 : OwnQ w1 g (leadQ gs ps) := OwnT.but HOW.out hb1 (fun e => hne1 e.symm)
      have hr2' := hb1.row hr2 (fun e => i3 e.symm)
      obtain ⟨_, a1'⟩ := HGE.out w1 o1 j hltk hltg
      rw [HLC.out] at a1'
      have hgl1 := OwnT.lt o1
      clear a0 a1 hr1 hr2 hgl
      go_wp2_with fail
      refine (markNodeS_any ps[j].2 lc gs[j].2 lc (q + 5 * la) _ HLC hr2' (by omega) (by omega) (by omega)).mono ?_
      rintro e w2 ⟨rfl, _, hb2⟩
      have o2 : OwnQ w2 g (leadQ gs ps) := OwnT.but o1 hb2 (fun e => hne2 e.symm)
      have bb : But (fun q => lo ≤ q ∧ q < hi) w w2 := (hb.trans (hb1.mono (fun q hq => by rw [hq]; exact i1))).trans (hb2.mono (fun q hq => by rw [hq]; exact i2))
      have HR2 : Hid (∀ i (h : i < gs.length) (h' : i < ps.length), j + 1 ≤ i → Row w2 gs[i].1 ps[i].1 ∧ Row w2 gs[i].2 ps[i].2) := by
        intro i h h' hij
        obtain ⟨x1, x2⟩ := HRS.out i h h' (by omega)
        obtain ⟨y1, y2, y3, y4⟩ := HAP.out j i hltg h (by omega)
        exact ⟨hb2.row (hb1.row x1 (fun e => y1 e.symm)) (fun e => y3 e.symm), hb2.row (hb1.row x2 (fun e => y2 e.symm)) (fun e => y4 e.symm)⟩
      clear hb hb1 hb2 o1 hr2' a1' HRS HOW hgl1
      go_wp2
      go_roundw
      case rel => exact ⟨j + 1, by omega, by go_num, by rw [HQ.out]; go_num, o2, HR2.out, bb⟩
      case measure => simp [intOf]; omega
    · have hje : j = n := by omega
      subst hje
      clear hrows hown
      go_wp2
      go_ret
      exact ⟨rfl, hb⟩

set_option maxRecDepth 20000 in
set_option maxHeartbeats 1000000 in
theorem eqSolution_same (ok : Bool) (at' : Int) (bs : List (Int × List Nd)) (n : Nat) (HN : Hid (bs.length = n)) (ao bo : Option Addr) (ca cb : Nat) (w : World) (hx : Binds w ao bs) (hy : Binds w bo bs) (hm : ∀ b ∈ bs, b.2.length ≤ 1048576) (hlx : n ≤ 1048576) :
    Calls Tryz.prog 8 #[.agg #[.bool ok, .int .i64 at', .slice ao n ca], .agg #[.bool ok, .int .i64 at', .slice bo n cb]] w fun e w' => e = .returned (.bool true) ∧ Below w.heap.size w w' := by
  have hA : Below w.heap.size w (w.alloc (.cells #[.bool ok, .int .i64 at', .slice ao n ca] 26)) := (Below.refl _ w).alloc (Nat.le_refl _) _
  have hB := hA.alloc hA.size (.cells #[.bool ok, .int .i64 at', .slice bo n cb] 26)
  have HE := eqBindS_same bs n HN ao bo ca cb _ (hx.below hB) (hy.below hB) hm hlx
  have tok0 : (ok != ok) = false := by simp
  have ta : (at' != at') = false := by simp
  clear hx hy hm
  go_enter Tryz.func8, Tryz.ntmps8
  go_wp2_with fail
  refine HE.mono ?_
  rintro e w1 ⟨rfl, hb1⟩
  have hbb := Below.step hB hb1
  clear HE hA hB hb1
  go_wp2
  go_ret
  exact ⟨rfl, hbb⟩

end Go.Proofs.YtoghngfkmhfimaaGreatDoor
