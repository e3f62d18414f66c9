import Derived.Test.YtljdcaoibnikjaaWAM
import Derived.Test.YtljdcaoibnikjaaWAR
import Derived.BigQuiet
import Derived.Deep.Cut
import Derived.Deep.CutRange
namespace Go.Proofs.Ytljdcaoibnikjaa

open Go.RowKit

/-- Binds of the call's own, to be appended to, and the rows to which they lead. -/
structure Bst (w : World) (B q c l : Nat) (rs : List (Nat × Nat)) (bs : List (Int × List Nd)) : Prop where
  own : OwnBs w B q c l (leadR rs bs)
  two : TwoR w q rs bs
  far : ∀ r ∈ rs, B ≤ r.1

theorem Bst.len {w : World} {B q c l : Nat} {rs : List (Nat × Nat)} {bs : List (Int × List Nd)} (h : Bst w B q c l rs bs) : bs.length = l := by
  have := h.own.1
  rw [leadR_length _ _ h.two.len] at this
  exact this

theorem Bst.below {w w' : World} {B q c l : Nat} {rs : List (Nat × Nat)} {bs : List (Int × List Nd)} (h : Bst w B q c l rs bs) (hb : Below w.heap.size w w') : Bst w' B q c l rs bs :=
  ⟨h.own.below hb, h.two.below hb, h.far⟩

theorem Bst.block {w : World} {B q c l : Nat} {rs : List (Nat × Nat)} {bs : List (Int × List Nd)} (h : Bst w B q c l rs bs) : B ≤ q ∧ q < w.heap.size := owns_block h.own.2

/-- Types, as far as their nodes go. -/
def PB (bs : List (Int × List Nd)) : Prop := ∀ p ∈ bs, p.2.length ≤ 300 ∧ p.2.all Nd.plainb = true

/-- What l8Match leaves. -/
def MRes (B q : Nat) (w : World) (bs : List (Int × List Nd)) (G T : List Nd) (v : Value) (b : Bool) (w' : World) : Prop :=
  But (· = q) w w' ∧ (b = true → ∃ q' c' l' rs' bs', v = .slice (some ⟨q', 0, none⟩) l' c' ∧ Bst w' B q' c' l' rs' bs' ∧ MatchOk bs G T bs' ∧ PB bs' ∧ (q' = q ∨ w.heap.size ≤ q')) ∧ (b = false → MatchNo bs G T)

/-- A type of at most 300 nodes, and its run. -/
structure Side (t : List Nd) (m : Nat) (S ys : List Sp) : Prop where
  len : t.length = m
  m300 : m ≤ 300
  run : after t m = some (S, ys)
  plain : t.all Nd.plainb = true

theorem plain_place {n : Nd} (h : n.plainb = true) : n.place = 0 := by
  unfold Nd.plainb at h
  simp only [Bool.and_eq_true, beq_iff_eq] at h
  exact h.1

theorem alike_eq {xs ys : List Nd} (h : Alike Nd.sameb xs ys) (hx : xs.all Nd.plainb = true) (hy : ys.all Nd.plainb = true) : xs = ys := by
  apply List.ext_getElem h.1
  intro i h1 h2
  have h3 := h.2 i h1 h2
  have p1 := plain_place (List.all_eq_true.1 hx _ (List.getElem_mem h1))
  have p2 := plain_place (List.all_eq_true.1 hy _ (List.getElem_mem h2))
  generalize xs[i] = x at *
  generalize ys[i] = y at *
  obtain ⟨a1, a2, a3, a4, a5⟩ := x
  obtain ⟨b1, b2, b3, b4, b5⟩ := y
  simp only [Nd.sameb, Bool.and_eq_true, beq_iff_eq] at h3 p1 p2
  obtain ⟨⟨⟨e1, e2⟩, e3⟩, e4⟩ := h3
  have e5 : a3 = b3 := by
    rw [ByteArray.toList_eq, ByteArray.toList_eq] at e3
    cases a3; cases b3
    simp only [ByteArray.mk.injEq]
    exact Array.toList_inj.1 e3
  subst e1 e2 e4 e5 p1 p2
  rfl

theorem alike_self {xs : List Nd} : Alike Nd.sameb xs xs := ⟨rfl, fun _ _ _ => by simp [Nd.sameb]⟩

theorem plain_sub {t : List Nd} (h : t.all Nd.plainb = true) (f i : Nat) : (span t f i).all Nd.plainb = true := by
  rw [List.all_eq_true] at h ⊢
  intro n hn
  exact h n (List.mem_of_mem_take (List.mem_of_mem_drop hn))

/-- One Bind more. -/
theorem Bst.snoc {w2 w3 : World} {B q c l q3 c3 g1 k1 lt : Nat} {rs : List (Nat × Nat)} {bs : List (Int × List Nd)} {nm : Int} {T : List Nd} (h : Bst w2 B q c l rs bs) (hrow : Row w2 g1 T) (hlt : T.length = lt) (hg1 : B ≤ g1) (hne : g1 ≠ q) (hfr : ∀ r ∈ rs, r.1 ≠ g1)
    (hown : w3.ownsRow B 52 2 (.slice (some ⟨q3, 0, none⟩) (l + 1) c3) (l + 1) (cells2 (leadR rs bs) ++ [.int .i64 nm, .slice (some ⟨g1, 0, none⟩) lt k1])) (hgrow : (w2.alloc (.cells #[.int .i64 nm, .slice (some ⟨g1, 0, none⟩) lt k1] 52)).grownBy w3 (some q)) :
    Bst w3 B q3 c3 (l + 1) (rs ++ [(g1, k1)]) (bs ++ [(nm, T)]) := by
  have hO := OwnBs.push (x := (.int .i64 nm, .slice (some ⟨g1, 0, none⟩) lt k1)) hown h.own.1 rfl
  have hal : Below w2.heap.size w2 (w2.alloc (.cells #[.int .i64 nm, .slice (some ⟨g1, 0, none⟩) lt k1] 52)) := (Below.refl _ w2).alloc (Nat.le_refl _) _
  refine ⟨?_, ?_, ?_⟩
  · have e : leadR (rs ++ [(g1, k1)]) (bs ++ [(nm, T)]) = leadR rs bs ++ [(.int .i64 nm, .slice (some ⟨g1, 0, none⟩) lt k1)] := by
      unfold leadR
      rw [List.zipWith_append h.two.len, ← hlt]
      rfl
    rw [e]
    exact hO
  · refine TwoR.snoc h.two (by rw [hlt]; exact hO.row.2) ?_ ((hrow.below hal).kept hgrow hne) hfr
    intro i h1 h2
    exact ((h.two.rows i h1 h2).below hal).kept hgrow (h.two.mem_lt _ (List.getElem_mem h1)).2
  · intro r hr
    rcases List.mem_append.1 hr with h9 | h9
    · exact h.far r h9
    · simp at h9
      subst h9
      exact hg1

set_option maxRecDepth 100000 in
set_option maxHeartbeats 2000000 in
theorem match_leaf (t : List Nd) (St yt : List Sp) (mg mt i j : Nat) (HT : Hid (Side t mt St yt)) (x : Nd) (sj : Sp) (HS : Hid (yt[j]? = some sj)) (hi : i < mg) (hj : j < mt) (hk : x.kind = 61)
    (gb gz cz tb tz ct Bz B q c l : Nat) (rs : List (Nat × Nat)) (bs : List (Int × List Nd)) (w : World) (hx : NodeAt w gb (i * 5) x) (hT : Row w tb t) (hz : Ints w Bz tz ct mt (yt.map szOf))
    (hB : Bst w B q c l rs bs) (HN : Hid ((nums bs).Nodup)) (HO : Hid (∀ p ∈ bs, One p.2)) (HP : Hid (PB bs)) (hl : l ≤ 300) :
    Calls Try.prog 23 #[.slice (some ⟨gb, 0, none⟩) mg mg, .slice (some ⟨gz, 0, none⟩) mg cz, .int .i64 (i : Int), .slice (some ⟨tb, 0, none⟩) mt mt, .slice (some ⟨tz, 0, none⟩) mt ct, .int .i64 (j : Int), .slice (some ⟨q, 0, none⟩) l c] w
      fun e w' => ∃ v b, e = .returned (.tuple #[v, .bool b]) ∧ MRes B q w bs [x] (span t sj.fr j) v b w' := by
  obtain ⟨i1, hj1, hy0, hy1, hy2⟩ := info_parts Try.infoB
  have hmt := HT.out.m300
  have HTO : Hid (One (span t sj.fr j)) := sub_one HT.out.run hj HS.out
  have HTL : Hid ((span t sj.fr j).length = j + 1 - sj.fr) := span_length t sj.fr j (by have := HT.out.len; omega)
  have HTP : Hid ((span t sj.fr j).all Nd.plainb = true) := plain_sub HT.out.plain _ _
  obtain ⟨T, hTT⟩ : ∃ T, span t sj.fr j = T := ⟨_, rfl⟩
  rw [hTT] at HTO HTL HTP ⊢
  obtain ⟨kd, nm, tx, ks, pl⟩ := x
  simp only at hk
  subst hk
  obtain ⟨c0, c1, c2, c3, c4⟩ := hx
  simp only at c0 c1 c2 c3 c4
  have hgl : gb < w.heap.size := lt_of_cell c0
  go_enter Try.func23, Try.ntmps23
  go_wp2_with fail
  refine (sub_any t yt St mt j sj HT.out.len (by omega) HT.out.run HS hj tb tz ct Bz w hT hz).mono ?_
  rintro e w1 ⟨g1, k1, rfl, hg1, hrow1, hb1⟩
  rw [hTT] at hrow1
  obtain ⟨lt, hlt⟩ : ∃ lt, j + 1 - sj.fr = lt := ⟨_, rfl⟩
  rw [hlt] at HTL ⊢
  have hlt3 : lt ≤ 300 := by omega
  have hB1 := hB.below hb1
  have hqw := hB.block
  have HFR0 : Hid (∀ r ∈ rs, r.1 < w.heap.size) := fun r hr => (hB.two.mem_lt r hr).1
  have d1 := (hb1.cell (p := ⟨gb, i * 5 + 1, none⟩) hgl).trans c1
  have hgl1 : gb < w1.heap.size := by have := hb1.size; omega
  clear c0 c1 c2 c3 c4 hT hz hTT hlt hB
  go_wp2_with fail
  refine (bound_any bs l hB1.len (by omega) nm _ c w1 hB1.two.binds).mono ?_
  rintro e w2 ⟨rfl, hb2⟩
  have hB2 := hB1.below hb2
  have hrow2 := hrow1.below hb2
  have d2 := (hb2.cell (p := ⟨gb, i * 5 + 1, none⟩) hgl1).trans d1
  have hbb2 := Below.step hb1 hb2
  have hg1w := hrow1.lt
  clear hB1 hrow1 d1 hb1
  by_cases hp : placeIn (nums bs) nm < bs.length
  · obtain ⟨k, hke⟩ : ∃ k, placeIn (nums bs) nm = k := ⟨_, rfl⟩
    rw [hke] at hp
    have HBI : Hid (boundIn bs nm = (k : Int)) := by
      show boundIn bs nm = _
      unfold boundIn
      rw [show placeIn (bs.map Prod.fst) nm = k from hke, if_pos hp]
    have hkn : k < (nums bs).length := by simpa [nums] using hp
    have hbk : bs[k].1 = nm := by
      have h9 := List.findIdx_getElem (p := (· == nm)) (xs := nums bs) (w := by show placeIn (nums bs) nm < _; omega)
      have h8 : (nums bs)[k] = nm := by
        simp only [beq_iff_eq] at h9
        have e : List.findIdx (· == nm) (nums bs) = k := hke
        simp only [e] at h9
        exact h9
      simpa [nums] using h8
    obtain ⟨U, hU⟩ : ∃ U, bs[k].2 = U := ⟨_, rfl⟩
    have HM : Hid ((nm, U) ∈ bs) := by
      have h9 := List.getElem_mem hp
      have e : bs[k] = (nm, U) := Prod.ext hbk hU
      rw [e] at h9
      exact h9
    have hlr : k < rs.length := by have := hB2.two.len; omega
    obtain ⟨_, hcU, hrU⟩ := hB2.two.get k hp hlr
    rw [hU] at hcU hrU
    obtain ⟨lu, hlu⟩ : ∃ lu, U.length = lu := ⟨_, rfl⟩
    have HLU : Hid (U.length = lu) := hlu
    rw [hlu] at hcU
    have hlu3 : lu ≤ 300 := by have := (HP.out (nm, U) HM.out).1; simp only at this; omega
    obtain ⟨⟨ru, cu⟩, hru⟩ : ∃ r, rs[k] = r := ⟨_, rfl⟩
    rw [hru] at hcU hrU
    simp only at hcU hrU
    have hkl : k < l := by have := hB2.len; omega
    have hqw2 : q < w2.heap.size := hB2.block.2
    rw [HBI.out]
    clear hke hbk hU hlu hru hlr hkn
    go_wp2_with fail
    refine (specSame_any U T lu lt HLU HTL _ _ cu k1 w2 hrU.nodes hrow2.nodes (by omega) (by omega)).mono ?_
    rintro e w3 ⟨⟨r, rfl, hr⟩, hb3⟩
    have HR : Hid (r = true ↔ Alike Nd.sameb U T) := hr
    have hB3 := hB2.below hb3
    have hbb3 := Below.step hbb2 hb3
    clear hr hb3 hrU hrow2 hcU d2 hB2 hbb2
    go_wp2
    go_ret2
    refine ⟨_, _, rfl, But.ofBelow hbb3, ?_, ?_⟩
    · intro h
      have e : U = T := alike_eq (HR.out.1 h) (HP.out _ HM.out).2 HTP.out
      exact ⟨q, c, l, rs, bs, rfl, hB3, match_old rfl HN.out HO.out (by rw [← e]; exact HM.out), HP.out, Or.inl rfl⟩
    · intro h
      refine match_other rfl HM.out ?_
      intro e
      subst e
      have := HR.out.2 alike_self
      rw [h] at this
      cases this
  · have HBI : Hid (boundIn bs nm = -1) := by
      show boundIn bs nm = _
      unfold boundIn
      rw [show placeIn (bs.map Prod.fst) nm = placeIn (nums bs) nm from rfl, if_neg hp]
    have HNM : Hid (nm ∉ nums bs) := by
      intro h
      have h9 := placeIn_mem h
      rw [show (nums bs).length = bs.length by simp [nums]] at h9
      exact hp h9
    rw [HBI.out]
    have hbl := hB2.block
    have hsz2 := hbb2.size
    go_wp2_with (at_builtin; refine wpList_append2 _ rfl (.tmp 49) (.tmp 57) 24 rfl B 52 i1 _ 2 32 Try.underlying24 hj1 hy0 hy1 hy2 rfl (by decide) q l c _ rfl (hB2.own.alloc _).2 ⟨_, 0, none⟩ 1 1 [.int .i64 nm, .slice (some ⟨g1, 0, none⟩) lt k1] rfl rfl (bind_cells _ nm _) (bind_one _ _ _ _) ?a3 ?a4 ?a5 ?_)
    case a3 => unfold maxLen; omega
    case a4 => omega
    case a5 => simp; omega
    intro q3 c3 w3 hown3 hgrow3 hwh3
    have hB3 := hB2.snoc hrow2 HTL.out (by omega) (by omega) (fun r hr => by have := HFR0.out r hr; omega) hown3 hgrow3
    have hbut : But (· = q) w w3 := ((But.ofBelow hbb2).alloc _).grown hgrow3 (fun _ => rfl)
    have hq3 : q3 = q ∨ w.heap.size ≤ q3 := by
      rcases hwh3 with h | h
      · exact Or.inl h
      · right; omega
    clear hown3 hgrow3 hwh3 hB2 hrow2 hbb2 d2
    go_wp2
    go_ret2
    refine ⟨_, _, rfl, hbut, ?_, fun h => by cases h⟩
    intro _
    refine ⟨q3, c3, l + 1, _, _, rfl, hB3, match_new rfl HNM.out HN.out HO.out HTO.out, ?_, hq3⟩
    intro p hp9
    rcases List.mem_append.1 hp9 with h | h
    · exact HP.out p h
    · simp at h
      subst h
      exact ⟨by have := HTL.out; show T.length ≤ 300; omega, HTP.out⟩

end Go.Proofs.Ytljdcaoibnikjaa
