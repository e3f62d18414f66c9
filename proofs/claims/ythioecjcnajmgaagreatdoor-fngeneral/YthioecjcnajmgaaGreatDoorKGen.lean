import Derived.Test.YthioecjcnajmgaaGreatDoorGY
import Derived.Test.YthioecjcnajmgaaGreatDoorGH
import Derived.Test.YthioecjcnajmgaaGreatDoorGE
namespace Go.Proofs.YthioecjcnajmgaaGreatDoor

/-- What a filling puts for a number. -/
def fillOf8 (fs : List (Int × List Nd)) (x : Int) : List Nd := (fsAt fs x).getD [metaC x]

theorem Shut.type {L : Nat} {t : List Nd} (h : Shut L t) (hL : L ≤ 300) : typeb t = true := one_type h.one (by have := h.len; omega) h.plain

theorem FillOk.types {k : Nat} {fs : List (Int × List Nd)} (h : FillOk k fs) : typesb fs = true := by
  rw [typesb_iff]
  intro b hb
  obtain ⟨j, hj, rfl⟩ := List.getElem_of_mem hb
  exact (h.2 j hj).2.type (by omega)

theorem FillOk.one {k : Nat} {fs : List (Int × List Nd)} (h : FillOk k fs) (x : Int) : One (fillOf8 fs x) := by
  unfold fillOf8
  cases e : fsAt fs x with
  | none => exact metaC_one x
  | some t =>
    obtain ⟨b, hb, rfl⟩ := fsAt_mem e
    obtain ⟨j, hj, rfl⟩ := List.getElem_of_mem hb
    exact (h.2 j hj).2.one

theorem FillOk.shut {k : Nat} {fs : List (Int × List Nd)} (h : FillOk k fs) {x : Int} {t : List Nd} (e : fsAt fs x = some t) : Shut 7 t := by
  obtain ⟨b, hb, rfl⟩ := fsAt_mem e
  obtain ⟨j, hj, rfl⟩ := List.getElem_of_mem hb
  exact (h.2 j hj).2

/-- Where nothing is left open, every unknown is filled. -/
theorem filled_all {fs : List (Int × List Nd)} {A : List Nd} (hA : A.all Nd.plainb = true) (hm : metas (putAll fs A) = []) : ∀ x ∈ metas A, ∃ t, fsAt fs x = some t := by
  intro x hx
  cases e : fsAt fs x with
  | some t => exact ⟨t, rfl⟩
  | none =>
    exfalso
    rw [putAll_fill fs hA] at hm
    obtain ⟨n, hn, rfl⟩ := List.mem_map.1 hx
    obtain ⟨hn1, hn2⟩ := List.mem_filter.1 hn
    have hk : n.kind = 61 := by simpa using hn2
    have hin : metaC n.num ∈ fill (fun x => (fsAt fs x).getD [metaC x]) A := by
      refine List.mem_flatMap.2 ⟨n, hn1, ?_⟩
      unfold fillN
      rw [if_pos hk]
      show metaC n.num ∈ (fsAt fs n.num).getD [metaC n.num]
      rw [e]
      simp
    have : (metaC n.num).num ∈ metas (fill (fun x => (fsAt fs x).getD [metaC x]) A) := List.mem_map.2 ⟨_, List.mem_filter.2 ⟨hin, by simp [metaC]⟩, rfl⟩
    rw [hm] at this
    simp at this

theorem unkOf_nil {b : List Nd} (hb : typeb b = true) : (unkOf b).length = 0 ↔ metas b = [] := by
  obtain ⟨_, h2⟩ := unkOf_facts b hb
  constructor
  · intro h
    have h0 : unkOf b = [] := List.length_eq_zero_iff.1 h
    rw [List.eq_nil_iff_forall_not_mem]
    intro x hx
    obtain ⟨n, hn, rfl⟩ := List.mem_map.1 hx
    obtain ⟨hn1, hn2⟩ := List.mem_filter.1 hn
    have : n.num ∈ unkOf b := (h2 n.num).2 ⟨n, hn1, by simpa using hn2, rfl⟩
    rw [h0] at this
    simp at this
  · intro h
    rw [List.length_eq_zero_iff, List.eq_nil_iff_forall_not_mem]
    intro x hx
    obtain ⟨n, hn, hk, rfl⟩ := (h2 x).1 hx
    have : n.num ∈ metas b := List.mem_map.2 ⟨n, List.mem_filter.2 ⟨hn, by simpa using hk⟩, rfl⟩
    rw [h] at this
    simp at this

/-- A pair of FnGeneral: a type, and what the filling makes of it. -/
structure GenP (fs : List (Int × List Nd)) (p : List Nd × List Nd) : Prop where
  ta : typeb p.1 = true
  tb : typeb p.2 = true
  eq : p.2 = putAll fs p.1
  shut : metas p.2 = []

theorem GenP.all {fs : List (Int × List Nd)} {p : List Nd × List Nd} (hp : GenP fs p) : fill (fillOf8 fs) p.1 = p.2 := by
  rw [hp.eq, putAll_fill fs (typeb_plain hp.ta)]
  rfl

theorem fill_shut {θ : Int → List Nd} {b : List Nd} (hp : b.all Nd.plainb = true) (h : metas b = []) : fill θ b = b := by
  rw [fill_congr (θ' := fun x => [metaN x]) (by rw [h]; simp), fill_id hp]

theorem GenP.solves {fs : List (Int × List Nd)} {ps : List (List Nd × List Nd)} (hp : ∀ p ∈ ps, GenP fs p) : Solves (fillOf8 fs) ps := by
  intro p hpm
  rw [(hp p hpm).all, fill_shut (typeb_plain (hp p hpm).tb) (hp p hpm).shut]

/-- Put of the filling at one unknown. -/
theorem put_meta {k : Nat} {fs : List (Int × List Nd)} (h : FillOk k fs) {x : Int} (hx : 1 ≤ x) {t : List Nd} (e : fsAt fs x = some t) : putOf fs [metaN x] = t := by
  have hty : typeb [metaN x] = true := by
    refine one_type (metaN_one x) (by simp) ?_
    simp [metaN, Nd.plainb, hx]
  have hall : putAll fs [metaN x] = t := by
    rw [putAll_fill fs (typeb_plain hty)]
    simp [fill, fillN, metaN, e]
  have hs := h.shut e
  rw [putOf_eq hty h.types (by rw [hall]; have := hs.len; omega), hall]

theorem gen_solved {k : Nat} {fs : List (Int × List Nd)} (h : FillOk k fs) {ps : List (List Nd × List Nd)} (hp : ∀ p ∈ ps, GenP fs p) (hsum : (ps.map fun p => p.1.length + p.2.length).sum ≤ 20000) {ok : Bool} {i : Int} {bs : List (Int × List Nd)} (hr : SolveRes ps ok i bs) :
    ok = true ∧ ∀ b ∈ bs, putOf fs [metaN b.1] = b.2 := by
  have hv : Valid ps := ⟨hsum, fun p hpm => ⟨(hp p hpm).ta, (hp p hpm).tb⟩⟩
  have hsol := GenP.solves hp
  have hoccA : ∀ x, Occ ps x → ∃ p ∈ ps, x ∈ metas p.1 := by
    rintro x ⟨p, hpm, hx⟩
    rcases hx with hx | hx
    · exact ⟨p, hpm, hx⟩
    · rw [(hp p hpm).shut] at hx
      simp at hx
  have hfs : ∀ x, Occ ps x → ∃ t, fsAt fs x = some t := by
    intro x hx
    obtain ⟨p, hpm, hxm⟩ := hoccA x hx
    refine filled_all (typeb_plain (hp p hpm).ta) ?_ x hxm
    rw [← (hp p hpm).eq]
    exact (hp p hpm).shut
  have hσ : ∀ σ, SolveOk ps σ → ∀ x, Occ ps x → σ x = fillOf8 fs x := by
    intro σ hs x hx
    obtain ⟨p, hpm, hxm⟩ := hoccA x hx
    have hpp := hp p hpm
    have e : fill σ p.1 = fill (fillOf8 fs) p.1 := by
      rw [hs.sol p hpm, fill_shut (typeb_plain hpp.tb) hpp.shut, hpp.all]
    exact fill_inj_one hs.one h.one (plain_leafy (typeb_plain hpp.ta)) (type_one hpp.ta) e x hxm
  cases hr with
  | bad h1 => exact absurd hv h1
  | no j _ _ _ hn => exact absurd (hsol.take _) (hn _ h.one)
  | large σ x _ hs ho hl =>
    exfalso
    rw [hσ σ hs x ho] at hl
    obtain ⟨t, ht⟩ := hfs x ho
    have := (h.shut ht).len
    unfold fillOf8 at hl
    rw [ht] at hl
    simp at hl
    omega
  | ok σ _ _ hs hup hocc hall =>
    refine ⟨rfl, fun b hb => ?_⟩
    have ho : Occ ps b.1 := (hocc b.1).1 (List.mem_map.2 ⟨b, hb, rfl⟩)
    obtain ⟨t, ht⟩ := hfs b.1 ho
    rw [put_meta h (occ_num hv ho) ht, (hall b hb).1, hσ σ hs b.1 ho]
    unfold fillOf8
    rw [ht]
    rfl

/-- What Instance finds of a pair. -/
theorem gen_inst {k : Nat} {fs : List (Int × List Nd)} (h : FillOk k fs) {p : List Nd × List Nd} (hp : GenP fs p) {bs : List (Int × List Nd)} {fl : Bool} (hr : InstRes p.1 p.2 bs fl) :
    fl = true ∧ nums bs = unkOf p.1 ∧ ∀ b ∈ bs, putOf fs [metaN b.1] = b.2 := by
  have hfl : fl = true := by
    cases fl
    · exfalso
      obtain ⟨_, h9⟩ := hr.2 rfl
      rcases h9 with h9 | h9 | h9
      · rw [hp.ta] at h9; cases h9
      · rw [hp.tb] at h9; cases h9
      · exact h9 _ h.one hp.all
    · rfl
  subst hfl
  obtain ⟨_, _, hI⟩ := hr.1 rfl
  have hpk := hI.fills _ (pick_ext (up_nodup hI.up))
  have e : fill (pick bs) p.1 = fill (fillOf8 fs) p.1 := by rw [hpk, hp.all]
  have hin := fill_inj_one (pick_one hI.one) h.one (plain_leafy (typeb_plain hp.ta)) (type_one hp.ta) e
  obtain ⟨hu1, hu2⟩ := unkOf_facts p.1 hp.ta
  refine ⟨rfl, ?_, fun b hb => ?_⟩
  · refine rising_same hI.up hu1 (fun x => ?_)
    rw [hI.mem x, hu2 x]
    constructor
    · intro hx
      obtain ⟨n, hn, rfl⟩ := List.mem_map.1 hx
      obtain ⟨hn1, hn2⟩ := List.mem_filter.1 hn
      exact ⟨n, hn1, by simpa using hn2, rfl⟩
    · rintro ⟨n, hn, hk, rfl⟩
      exact List.mem_map.2 ⟨n, List.mem_filter.2 ⟨hn, by simpa using hk⟩, rfl⟩
  · have hbm : b.1 ∈ metas p.1 := (hI.mem b.1).1 (List.mem_map.2 ⟨b, hb, rfl⟩)
    have h1 := hin b.1 hbm
    rw [pick_ext (up_nodup hI.up) b hb] at h1
    obtain ⟨t, ht⟩ := filled_all (fs := fs) (typeb_plain hp.ta) (by rw [← hp.eq]; exact hp.shut) b.1 hbm
    rw [put_meta h (metas_num (typeb_plain hp.ta) hbm) ht, h1]
    unfold fillOf8
    rw [ht]
    rfl

/-- Nodes of a filled type. -/
theorem gen_wf {k : Nat} {fs : List (Int × List Nd)} (h : FillOk k fs) {A : List Nd} (hA : ∀ n ∈ A, (Go.Lit.int .i64 n.num).wf = true) : ∀ n ∈ putAll fs A, (Go.Lit.int .i64 n.num).wf = true := by
  intro n hn
  obtain ⟨m, hm, hnm⟩ := List.mem_flatMap.1 hn
  rw [putSub_fsAt] at hnm
  split at hnm
  · cases e : fsAt fs m.num with
    | none =>
      rw [e] at hnm
      simp only [Option.getD_none, List.mem_singleton] at hnm
      subst hnm
      exact hA _ hm
    | some t =>
      rw [e] at hnm
      simp only [Option.getD_some] at hnm
      rw [(h.shut e).zero n hnm]
      decide
  · simp only [List.mem_singleton] at hnm
    subst hnm
    exact hA _ hm

theorem gen_pair {fs : List (Int × List Nd)} {A : List Nd} (hne : putOf fs A ≠ []) (hu : (unkOf (putOf fs A)).length = 0) : GenP fs (A, putOf fs A) := by
  obtain ⟨h1, h2, h3, h4⟩ := putOf_ne hne
  have ht : typeb (putOf fs A) = true := by rw [h4]; exact putAll_type h2 h1 h3
  exact ⟨h1, ht, h4, (unkOf_nil ht).1 hu⟩

end Go.Proofs.YthioecjcnajmgaaGreatDoor
