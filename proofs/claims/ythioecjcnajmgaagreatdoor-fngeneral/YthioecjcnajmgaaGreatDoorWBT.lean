import Derived.Test.YthioecjcnajmgaaGreatDoorWAE
import Derived.Test.YthioecjcnajmgaaGreatDoorWAM
import Derived.StillTactics
import Derived.Test.YthioecjcnajmgaaGreatDoorWBN
import Derived.Test.YthioecjcnajmgaaGreatDoorWBS
import Derived.Test.YthioecjcnajmgaaGreatDoorWAR
import Derived.Shelf.SlGeneric
import Derived.Shelf.SlLaysM
import Derived.Shelf.SlLaysE
import Derived.Shelf.SortM.Plain
import Derived.Shelf.SlicesE.Compact
import Derived.Ground.SlgmProg
import Derived.Ground.SlgnProg
import Derived.Test.YthioecjcnajmgaaGreatDoorProg
import Derived.Test.YthioecjcnajmgaaGreatDoorDrawP
import Derived.BigQuiet
import Derived.Test.YthioecjcnajmgaaGreatDoorWBB
namespace Go.Proofs.YthioecjcnajmgaaGreatDoor

open Go.RowKit

theorem neqS (x : Nd) (w : World) :
    (binOp .neq 40 (.agg #[.int .i64 x.kind, .int .i64 x.num, .string x.text, .int .i64 x.kids, .int .i64 x.place]) (.agg #[.int .i64 x.kind, .int .i64 x.num, .string x.text, .int .i64 x.kids, .int .i64 x.place])).run Tryz.prog w =
      .ok (.bool false) w := by
  go_simp
  repeat' split
  all_goals simp_all

theorem Tryz.mixed : Tryz.prog.follows .mixedOrders = true := by kernel_rfl

set_option maxRecDepth 20000 in
set_option maxHeartbeats 1000000 in
/-- Equal lists are exact. -/
theorem wExact_same (xs : List Nd) (n : Nat) (HX : Hid (xs.length = n)) (ao bo : Option Addr) (cap cbp : Nat) (w : World) (hx : Nodes w ao xs) (hy : Nodes w bo xs) (hlx : n ≤ 1048576) :
    Calls Tryz.prog 11 #[.slice ao n cap, .slice bo n cbp] w fun e w' => e = .returned (.bool true) ∧ Below w.heap.size w w' := by
  go_enter Tryz.func11, Tryz.ntmps11
  go_wp2
  go_loopw [5] (fun i wr => ∃ (k : Nat), k ≤ n ∧ i = .int .i64 k ∧ Below w.heap.size w wr) (fun i _ => n - (intOf i).toNat)
  case atStart => exact ⟨0, Nat.zero_le _, rfl, Below.refl _ _⟩
  case round =>
    obtain ⟨k, hk, rfl, hb⟩ := hrel
    by_cases hlt : k < n
    · have hltk : k < xs.length := by have := HX.out; omega
      obtain ⟨b, o, rfl, hn⟩ := hx.below hb k hltk
      obtain ⟨b', o', rfl, hn'⟩ := hy.below hb k hltk
      obtain ⟨x, hxk⟩ : ∃ x, xs[k] = x := ⟨_, rfl⟩
      rw [hxk] at hn hn'
      obtain ⟨c0, c1, c2, c3, c4⟩ := hn
      obtain ⟨d0, d1, d2, d3, d4⟩ := hn'
      clear hx hy hxk
      have hne := neqS x
      go_wp2
      go_still Tryz.mixed
      have hb2 : Below w.heap.size w wr.drew := hb.drew
      go_wp2
      go_roundw
      case rel => exact ⟨k + 1, by omega, by go_num, hb2⟩
      case measure => (simp [intOf]) <;> omega
    · clear hx hy
      go_wp2
      go_ret
      exact ⟨rfl, hb⟩

end Go.Proofs.YthioecjcnajmgaaGreatDoor

namespace Go.Proofs.YthioecjcnajmgaaGreatDoor

/-- What a filling puts for a number. -/
def fillOf8 (fs : List (Int × List Nd)) (x : Int) : List Nd := (fsAt fs x).getD [metaC x]

theorem Shut.type {L : Nat} {t : List Nd} (h : Shut L t) (hL : L ≤ 300) : typeb t = true := one_type h.one (by have := h.len; omega) h.plain

theorem FillOk.types {k : Nat} {fs : List (Int × List Nd)} (h : FillOk k fs) : typesb fs = true := by
  rw [typesb_iff]
  intro b hb
  obtain ⟨j, hj, rfl⟩ := List.getElem_of_mem hb
  exact (h.2 j hj).2.type (by omega)

theorem FillOk.one {k : Nat} {fs : List (Int × List Nd)} (h : FillOk k fs) (x : Int) : One (fillOf8 fs x) := by
  unfold fillOf8
  cases e : fsAt fs x with
  | none => exact metaC_one x
  | some t =>
    obtain ⟨b, hb, rfl⟩ := fsAt_mem e
    obtain ⟨j, hj, rfl⟩ := List.getElem_of_mem hb
    exact (h.2 j hj).2.one

theorem FillOk.shut {k : Nat} {fs : List (Int × List Nd)} (h : FillOk k fs) {x : Int} {t : List Nd} (e : fsAt fs x = some t) : Shut 7 t := by
  obtain ⟨b, hb, rfl⟩ := fsAt_mem e
  obtain ⟨j, hj, rfl⟩ := List.getElem_of_mem hb
  exact (h.2 j hj).2

/-- Where nothing is left open, every unknown is filled. -/
theorem filled_all {fs : List (Int × List Nd)} {A : List Nd} (hA : A.all Nd.plainb = true) (hm : metas (putAll fs A) = []) : ∀ x ∈ metas A, ∃ t, fsAt fs x = some t := by
  intro x hx
  cases e : fsAt fs x with
  | some t => exact ⟨t, rfl⟩
  | none =>
    exfalso
    rw [putAll_fill fs hA] at hm
    obtain ⟨n, hn, rfl⟩ := List.mem_map.1 hx
    obtain ⟨hn1, hn2⟩ := List.mem_filter.1 hn
    have hk : n.kind = 61 := by simpa using hn2
    have hin : metaC n.num ∈ fill (fun x => (fsAt fs x).getD [metaC x]) A := by
      refine List.mem_flatMap.2 ⟨n, hn1, ?_⟩
      unfold fillN
      rw [if_pos hk]
      show metaC n.num ∈ (fsAt fs n.num).getD [metaC n.num]
      rw [e]
      simp
    have : (metaC n.num).num ∈ metas (fill (fun x => (fsAt fs x).getD [metaC x]) A) := List.mem_map.2 ⟨_, List.mem_filter.2 ⟨hin, by simp [metaC]⟩, rfl⟩
    rw [hm] at this
    simp at this

theorem unkOf_nil {b : List Nd} (hb : typeb b = true) : (unkOf b).length = 0 ↔ metas b = [] := by
  obtain ⟨_, h2⟩ := unkOf_facts b hb
  constructor
  · intro h
    have h0 : unkOf b = [] := List.length_eq_zero_iff.1 h
    rw [List.eq_nil_iff_forall_not_mem]
    intro x hx
    obtain ⟨n, hn, rfl⟩ := List.mem_map.1 hx
    obtain ⟨hn1, hn2⟩ := List.mem_filter.1 hn
    have : n.num ∈ unkOf b := (h2 n.num).2 ⟨n, hn1, by simpa using hn2, rfl⟩
    rw [h0] at this
    simp at this
  · intro h
    rw [List.length_eq_zero_iff, List.eq_nil_iff_forall_not_mem]
    intro x hx
    obtain ⟨n, hn, hk, rfl⟩ := (h2 x).1 hx
    have : n.num ∈ metas b := List.mem_map.2 ⟨n, List.mem_filter.2 ⟨hn, by simpa using hk⟩, rfl⟩
    rw [h] at this
    simp at this

/-- A pair of FnGeneral: a type, and what the filling makes of it. -/
structure GenP (fs : List (Int × List Nd)) (p : List Nd × List Nd) : Prop where
  ta : typeb p.1 = true
  tb : typeb p.2 = true
  eq : p.2 = putAll fs p.1
  shut : metas p.2 = []

theorem GenP.all {fs : List (Int × List Nd)} {p : List Nd × List Nd} (hp : GenP fs p) : fill (fillOf8 fs) p.1 = p.2 := by
  rw [hp.eq, putAll_fill fs (typeb_plain hp.ta)]
  rfl

theorem fill_shut {θ : Int → List Nd} {b : List Nd} (hp : b.all Nd.plainb = true) (h : metas b = []) : fill θ b = b := by
  rw [fill_congr (θ' := fun x => [metaN x]) (by rw [h]; simp), fill_id hp]

theorem GenP.solves {fs : List (Int × List Nd)} {ps : List (List Nd × List Nd)} (hp : ∀ p ∈ ps, GenP fs p) : Solves (fillOf8 fs) ps := by
  intro p hpm
  rw [(hp p hpm).all, fill_shut (typeb_plain (hp p hpm).tb) (hp p hpm).shut]

/-- Put of the filling at one unknown. -/
theorem put_meta {k : Nat} {fs : List (Int × List Nd)} (h : FillOk k fs) {x : Int} (hx : 1 ≤ x) {t : List Nd} (e : fsAt fs x = some t) : putOf fs [metaN x] = t := by
  have hty : typeb [metaN x] = true := by
    refine one_type (metaN_one x) (by simp) ?_
    simp [metaN, Nd.plainb, hx]
  have hall : putAll fs [metaN x] = t := by
    rw [putAll_fill fs (typeb_plain hty)]
    simp [fill, fillN, metaN, e]
  have hs := h.shut e
  rw [putOf_eq hty h.types (by rw [hall]; have := hs.len; omega), hall]

theorem gen_solved {k : Nat} {fs : List (Int × List Nd)} (h : FillOk k fs) {ps : List (List Nd × List Nd)} (hp : ∀ p ∈ ps, GenP fs p) (hsum : (ps.map fun p => p.1.length + p.2.length).sum ≤ 20000) {ok : Bool} {i : Int} {bs : List (Int × List Nd)} (hr : SolveRes ps ok i bs) :
    ok = true ∧ ∀ b ∈ bs, putOf fs [metaN b.1] = b.2 := by
  have hv : Valid ps := ⟨hsum, fun p hpm => ⟨(hp p hpm).ta, (hp p hpm).tb⟩⟩
  have hsol := GenP.solves hp
  have hoccA : ∀ x, Occ ps x → ∃ p ∈ ps, x ∈ metas p.1 := by
    rintro x ⟨p, hpm, hx⟩
    rcases hx with hx | hx
    · exact ⟨p, hpm, hx⟩
    · rw [(hp p hpm).shut] at hx
      simp at hx
  have hfs : ∀ x, Occ ps x → ∃ t, fsAt fs x = some t := by
    intro x hx
    obtain ⟨p, hpm, hxm⟩ := hoccA x hx
    refine filled_all (typeb_plain (hp p hpm).ta) ?_ x hxm
    rw [← (hp p hpm).eq]
    exact (hp p hpm).shut
  have hσ : ∀ σ, SolveOk ps σ → ∀ x, Occ ps x → σ x = fillOf8 fs x := by
    intro σ hs x hx
    obtain ⟨p, hpm, hxm⟩ := hoccA x hx
    have hpp := hp p hpm
    have e : fill σ p.1 = fill (fillOf8 fs) p.1 := by
      rw [hs.sol p hpm, fill_shut (typeb_plain hpp.tb) hpp.shut, hpp.all]
    exact fill_inj_one hs.one h.one (plain_leafy (typeb_plain hpp.ta)) (type_one hpp.ta) e x hxm
  cases hr using SolveRes.inv with
  | bad h1 => exact absurd hv h1
  | no j _ _ _ hn => exact absurd (hsol.take _) (hn _ h.one)
  | large σ x _ hs ho hl =>
    exfalso
    rw [hσ σ hs x ho] at hl
    obtain ⟨t, ht⟩ := hfs x ho
    have := (h.shut ht).len
    unfold fillOf8 at hl
    rw [ht] at hl
    simp at hl
    omega
  | ok σ _ _ hs hup hocc hall =>
    refine ⟨rfl, fun b hb => ?_⟩
    have ho : Occ ps b.1 := (hocc b.1).1 (List.mem_map.2 ⟨b, hb, rfl⟩)
    obtain ⟨t, ht⟩ := hfs b.1 ho
    rw [put_meta h (occ_num hv ho) ht, (hall b hb).1, hσ σ hs b.1 ho]
    unfold fillOf8
    rw [ht]
    rfl

/-- What Instance finds of a pair. -/
theorem gen_inst {k : Nat} {fs : List (Int × List Nd)} (h : FillOk k fs) {p : List Nd × List Nd} (hp : GenP fs p) {bs : List (Int × List Nd)} {fl : Bool} (hr : InstRes p.1 p.2 bs fl) :
    fl = true ∧ nums bs = unkOf p.1 ∧ ∀ b ∈ bs, putOf fs [metaN b.1] = b.2 := by
  have hfl : fl = true := by
    cases fl
    · exfalso
      obtain ⟨_, h9⟩ := hr.2 rfl
      rcases h9 with h9 | h9 | h9
      · rw [hp.ta] at h9; cases h9
      · rw [hp.tb] at h9; cases h9
      · exact h9 _ h.one hp.all
    · rfl
  subst hfl
  obtain ⟨_, _, hI⟩ := hr.1 rfl
  have hpk := hI.fills _ (pick_ext (up_nodup hI.up))
  have e : fill (pick bs) p.1 = fill (fillOf8 fs) p.1 := by rw [hpk, hp.all]
  have hin := fill_inj_one (pick_one hI.one) h.one (plain_leafy (typeb_plain hp.ta)) (type_one hp.ta) e
  obtain ⟨hu1, hu2⟩ := unkOf_facts p.1 hp.ta
  refine ⟨rfl, ?_, fun b hb => ?_⟩
  · refine rising_same hI.up hu1 (fun x => ?_)
    rw [hI.mem x, hu2 x]
    constructor
    · intro hx
      obtain ⟨n, hn, rfl⟩ := List.mem_map.1 hx
      obtain ⟨hn1, hn2⟩ := List.mem_filter.1 hn
      exact ⟨n, hn1, by simpa using hn2, rfl⟩
    · rintro ⟨n, hn, hk, rfl⟩
      exact List.mem_map.2 ⟨n, List.mem_filter.2 ⟨hn, by simpa using hk⟩, rfl⟩
  · have hbm : b.1 ∈ metas p.1 := (hI.mem b.1).1 (List.mem_map.2 ⟨b, hb, rfl⟩)
    have h1 := hin b.1 hbm
    rw [pick_ext (up_nodup hI.up) b hb] at h1
    obtain ⟨t, ht⟩ := filled_all (fs := fs) (typeb_plain hp.ta) (by rw [← hp.eq]; exact hp.shut) b.1 hbm
    rw [put_meta h (metas_num (typeb_plain hp.ta) hbm) ht, h1]
    unfold fillOf8
    rw [ht]
    rfl

/-- Nodes of a filled type. -/
theorem gen_wf {k : Nat} {fs : List (Int × List Nd)} (h : FillOk k fs) {A : List Nd} (hA : ∀ n ∈ A, (Go.Lit.int .i64 n.num).wf = true) : ∀ n ∈ putAll fs A, (Go.Lit.int .i64 n.num).wf = true := by
  intro n hn
  obtain ⟨m, hm, hnm⟩ := List.mem_flatMap.1 hn
  rw [putSub_fsAt] at hnm
  split at hnm
  · cases e : fsAt fs m.num with
    | none =>
      rw [e] at hnm
      simp only [Option.getD_none, List.mem_singleton] at hnm
      subst hnm
      exact hA _ hm
    | some t =>
      rw [e] at hnm
      simp only [Option.getD_some] at hnm
      rw [(h.shut e).zero n hnm]
      decide
  · simp only [List.mem_singleton] at hnm
    subst hnm
    exact hA _ hm

theorem gen_pair {fs : List (Int × List Nd)} {A : List Nd} (hne : putOf fs A ≠ []) (hu : (unkOf (putOf fs A)).length = 0) : GenP fs (A, putOf fs A) := by
  obtain ⟨h1, h2, h3, h4⟩ := putOf_ne hne
  have ht : typeb (putOf fs A) = true := by rw [h4]; exact putAll_type h2 h1 h3
  exact ⟨h1, ht, h4, (unkOf_nil ht).1 hu⟩

end Go.Proofs.YthioecjcnajmgaaGreatDoor

namespace Go.Proofs.YthioecjcnajmgaaGreatDoor

open Go.Shelf

def Tryz.laysU31_ren : Go.Shelf.Ren := ⟨fun | 5 => 31 | 8 => 59 | 7 => 58 | 19 => 85 | 20 => 86 | 10 => 76 | 11 => 77 | 12 => 78 | 13 => 79 | 14 => 80 | 15 => 81 | 16 => 82 | 17 => 83 | 18 => 84 | 30 => 96 | 31 => 97 | 32 => 98 | 33 => 99 | 34 => 100 | 35 => 101 | 40 => 104 | n => n, fun | 23 => 31 | 25 => 2 | 3 => 3 | 32 => 120 | 22 => 31 | 0 => 0 | 44 => 157 | 46 => 159 | 4 => 4 | 36 => 149 | 35 => 148 | 41 => 154 | 5 => 5 | 9 => 9 | 53 => 179 | 57 => 183 | 63 => 194 | 64 => 45 | n => n, fun | n => n⟩
theorem Tryz.laysU31 : Go.Proofs.SlLaysM.n5 Tryz.prog Tryz.laysU31_ren := {
  mixed := by kernel_rfl
  f5 := ⟨Tryz.f31.name, by decide, Tryz.func31.trans (congrArg some (by kernel_rfl))⟩
  f7 := ⟨Tryz.f58.name, by decide, Tryz.func58.trans (congrArg some (by kernel_rfl))⟩
  f8 := Tryz.func59.trans (congrArg some (by kernel_rfl))
  f10 := ⟨Tryz.f76.name, by decide, Tryz.func76.trans (congrArg some (by kernel_rfl))⟩
  f11 := ⟨Tryz.f77.name, by decide, Tryz.func77.trans (congrArg some (by kernel_rfl))⟩
  f12 := ⟨Tryz.f78.name, by decide, Tryz.func78.trans (congrArg some (by kernel_rfl))⟩
  f13 := ⟨Tryz.f79.name, by decide, Tryz.func79.trans (congrArg some (by kernel_rfl))⟩
  f14 := ⟨Tryz.f80.name, by decide, Tryz.func80.trans (congrArg some (by kernel_rfl))⟩
  f15 := ⟨Tryz.f81.name, by decide, Tryz.func81.trans (congrArg some (by kernel_rfl))⟩
  f16 := ⟨Tryz.f82.name, by decide, Tryz.func82.trans (congrArg some (by kernel_rfl))⟩
  f17 := ⟨Tryz.f83.name, by decide, Tryz.func83.trans (congrArg some (by kernel_rfl))⟩
  f18 := ⟨Tryz.f84.name, by decide, Tryz.func84.trans (congrArg some (by kernel_rfl))⟩
  f19 := Tryz.func85.trans (congrArg some (by kernel_rfl))
  f20 := Tryz.func86.trans (congrArg some (by kernel_rfl))
  f30 := ⟨Tryz.f96.name, by decide, Tryz.func96.trans (congrArg some (by kernel_rfl))⟩
  f31 := Tryz.func97.trans (congrArg some (by kernel_rfl))
  f32 := Tryz.func98.trans (congrArg some (by kernel_rfl))
  f33 := ⟨Tryz.f99.name, by decide, Tryz.func99.trans (congrArg some (by kernel_rfl))⟩
  f34 := ⟨Tryz.f100.name, by decide, Tryz.func100.trans (congrArg some (by kernel_rfl))⟩
  f35 := ⟨Tryz.f101.name, by decide, Tryz.func101.trans (congrArg some (by kernel_rfl))⟩
  f40 := ⟨Tryz.f104.name, by decide, Tryz.func104.trans (congrArg some (by kernel_rfl))⟩
  t0 := Tryz.underlying0
  a0 := Tryz.isAgg0
  z0 := Tryz.sizeOf0
  v0 := Tryz.zeroValue0
  t3 := Tryz.underlying3
  a3 := Tryz.isAgg3
  z3 := Tryz.sizeOf3
  v3 := Tryz.zeroValue3
  t4 := Tryz.underlying4
  a4 := Tryz.isAgg4
  z4 := Tryz.sizeOf4
  v4 := Tryz.zeroValue4
  t5 := Tryz.underlying5
  a5 := Tryz.isAgg5
  z5 := Tryz.sizeOf5
  v5 := Tryz.zeroValue5
  t9 := Tryz.underlying9
  a9 := Tryz.isAgg9
  z9 := Tryz.sizeOf9
  v9 := Tryz.zeroValue9
  t22 := Tryz.underlying31
  a22 := Tryz.isAgg31
  z22 := Tryz.sizeOf31
  v22 := Tryz.zeroValue31
  t23 := Tryz.underlying31
  a23 := Tryz.isAgg31
  z23 := Tryz.sizeOf31
  v23 := Tryz.zeroValue31
  t25 := Tryz.underlying2
  a25 := Tryz.isAgg2
  z25 := Tryz.sizeOf2
  v25 := Tryz.zeroValue2
  t32 := Tryz.underlying120
  a32 := Tryz.isAgg120
  z32 := Tryz.sizeOf120
  v32 := Tryz.zeroValue120
  t35 := Tryz.underlying148
  a35 := Tryz.isAgg148
  z35 := Tryz.sizeOf148
  v35 := Tryz.zeroValue148
  t36 := Tryz.underlying149
  a36 := Tryz.isAgg149
  z36 := Tryz.sizeOf149
  v36 := Tryz.zeroValue149
  t41 := Tryz.underlying154
  a41 := Tryz.isAgg154
  z41 := Tryz.sizeOf154
  v41 := Tryz.zeroValue154
  t44 := Tryz.underlying157
  a44 := Tryz.isAgg157
  z44 := Tryz.sizeOf157
  v44 := Tryz.zeroValue157
  t46 := Tryz.underlying159
  a46 := Tryz.isAgg159
  z46 := Tryz.sizeOf159
  v46 := Tryz.zeroValue159
  t53 := Tryz.underlying179
  a53 := Tryz.isAgg179
  z53 := Tryz.sizeOf179
  v53 := Tryz.zeroValue179
  t57 := Tryz.underlying183
  a57 := Tryz.isAgg183
  z57 := Tryz.sizeOf183
  v57 := Tryz.zeroValue183
  t63 := Tryz.underlying194
  a63 := Tryz.isAgg194
  z63 := Tryz.sizeOf194
  v63 := Tryz.zeroValue194
  t64 := Tryz.underlying45
  a64 := Tryz.isAgg45
  z64 := Tryz.sizeOf45
  v64 := Tryz.zeroValue45 }
def Tryz.laysU32_ren : Go.Shelf.Ren := ⟨fun | 43 => 32 | n => n, fun | 22 => 31 | 23 => 2 | 3 => 3 | 4 => 4 | 0 => 0 | n => n, fun | n => n⟩
theorem Tryz.laysU32 : Go.Proofs.SlLaysE.n43 Tryz.prog Tryz.laysU32_ren := {
  mixed := by kernel_rfl
  f43 := ⟨Tryz.f32.name, by decide, Tryz.func32.trans (congrArg some (by kernel_rfl))⟩
  t0 := Tryz.underlying0
  a0 := Tryz.isAgg0
  z0 := Tryz.sizeOf0
  v0 := Tryz.zeroValue0
  t3 := Tryz.underlying3
  a3 := Tryz.isAgg3
  z3 := Tryz.sizeOf3
  v3 := Tryz.zeroValue3
  t4 := Tryz.underlying4
  a4 := Tryz.isAgg4
  z4 := Tryz.sizeOf4
  v4 := Tryz.zeroValue4
  t22 := Tryz.underlying31
  a22 := Tryz.isAgg31
  z22 := Tryz.sizeOf31
  v22 := Tryz.zeroValue31
  a23 := Tryz.isAgg2
  z23 := Tryz.sizeOf2 }

end Go.Proofs.YthioecjcnajmgaaGreatDoor

namespace Go.Proofs.YthioecjcnajmgaaGreatDoor

open Go.RowKit

set_option maxHeartbeats 1000000 in
theorem wSameNums_same (xs : List Int) (n : Nat) (HX : Hid (xs.length = n)) (ao bo : Option Addr) (cap cbp : Nat) (w : World) (hx : LCells w ao xs) (hy : LCells w bo xs) (hlx : n ≤ 1048576) :
    Calls Tryz.prog 10 #[.slice ao n cap, .slice bo n cbp] w fun e w' => e = .returned (.bool true) ∧ Below w.heap.size w w' := by
  go_enter Tryz.func10, Tryz.ntmps10
  go_wp2
  go_loopw [5] (fun i wr => ∃ (k : Nat), k ≤ n ∧ i = .int .i64 k ∧ Below w.heap.size w wr) (fun i _ => n - (intOf i).toNat)
  case atStart => exact ⟨0, Nat.zero_le _, rfl, Below.refl _ _⟩
  case round =>
    obtain ⟨k, hk, rfl, hb⟩ := hrel
    by_cases hlt : k < n
    · have hltx : k < xs.length := by have := HX.out; omega
      obtain ⟨b, o, rfl, c0⟩ := hx.below hb k hltx
      obtain ⟨b', o', rfl, e0⟩ := hy.below hb k hltx
      obtain ⟨v, hv⟩ : ∃ v, xs[k] = v := ⟨_, rfl⟩
      rw [hv] at c0 e0
      have tv : (v != v) = false := by simp
      clear hx hy hv
      go_wp2_with fail
      go_quiet (fail)
      go_wp2
      go_roundw
      case rel => exact ⟨k + 1, by omega, by go_num, Below.step hb ⟨rfl, rfl, rfl, Nat.le_refl _, fun _ _ => rfl⟩⟩
      case measure => simp [intOf]; omega
    · clear hx hy
      go_wp2
      go_ret
      exact ⟨rfl, hb⟩

/-- A list that lies elsewhere. -/
def Aside (w : World) (g : Nat) (ao : Option Addr) : Prop := ∀ b o, ao = some ⟨b, o, none⟩ → b ≠ g ∧ b < w.heap.size

/-- Pairs of lists that lie wherever they do, in a slice of the call's own. -/
structure GPr (w : World) (B g c : Nat) (ps : List (List Nd × List Nd)) (vs : List (Value × Value)) : Prop where
  own : OwnPs w B g c ps.length vs
  rows : ∀ j (h : j < ps.length), ∃ a1 c1 a2 c2, vs[j]? = some (.slice a1 ps[j].1.length c1, .slice a2 ps[j].2.length c2) ∧ Nodes w a1 ps[j].1 ∧ Nodes w a2 ps[j].2 ∧ Aside w g a1 ∧ Aside w g a2

theorem GPr.empty {w : World} {B : Nat} (hB : B ≤ w.heap.size) : GPr (w.alloc (.cells #[] 30)) B w.heap.size 0 [] [] :=
  ⟨OwnPs.empty hB, fun j h => by simp at h⟩

theorem GPr.block {w : World} {B g c : Nat} {ps : List (List Nd × List Nd)} {vs : List (Value × Value)} (h : GPr w B g c ps vs) : B ≤ g ∧ g < w.heap.size := owns_block h.own.2

theorem Aside.mono {w w' : World} {g : Nat} {ao : Option Addr} (h : Aside w g ao) (hs : w.heap.size ≤ w'.heap.size) : Aside w' g ao := fun b o e => by
  have := h b o e
  omega

theorem GPr.below {w w' : World} {B g c : Nat} {ps : List (List Nd × List Nd)} {vs : List (Value × Value)} (h : GPr w B g c ps vs) (hb : Below w.heap.size w w') : GPr w' B g c ps vs :=
  ⟨h.own.but (S := fun _ => False) (But.ofBelow hb) (fun h => h), fun j hj => by
    obtain ⟨a1, c1, a2, c2, e, h1, h2, h3, h4⟩ := h.rows j hj
    exact ⟨a1, c1, a2, c2, e, h1.below hb, h2.below hb, h3.mono hb.size, h4.mono hb.size⟩⟩

theorem GPr.pairs {w : World} {B g c : Nat} {ps : List (List Nd × List Nd)} {vs : List (Value × Value)} (h : GPr w B g c ps vs) : Pairs w (some ⟨g, 0, none⟩) ps := by
  intro j hj
  obtain ⟨a1, c1, a2, c2, e, h1, h2, _, _⟩ := h.rows j hj
  obtain ⟨_, _, ho⟩ := h.own.row
  have hl : vs.length = ps.length := h.own.1
  have hlt : j < vs.length := by omega
  have e2 : vs[j] = (.slice a1 ps[j].1.length c1, .slice a2 ps[j].2.length c2) := by
    rw [List.getElem?_eq_getElem hlt] at e
    simpa using e
  obtain ⟨d0, d1⟩ := cells2_get vs j hlt
  rw [e2] at d0 d1
  have hcl := cells2_length vs
  refine ⟨g, 0, a1, c1, a2, c2, rfl, ?_, ?_, h1, h2⟩
  · rw [Nat.zero_add]
    exact (OwnT.at ho (j * 2) (by omega)).trans d0
  · rw [Nat.zero_add]
    exact (OwnT.at ho (j * 2 + 1) (by omega)).trans d1

theorem GPr.push {w w' : World} {B g c g2 c2 ca cb : Nat} {ps : List (List Nd × List Nd)} {vs : List (Value × Value)} {a b : List Nd} {aa ab : Option Addr} (h : GPr w B g c ps vs) (hg : w.grownBy w' (some g)) (hw : g2 = g ∨ g2 = w.heap.size) (hs : w.heap.size ≤ w'.heap.size) (hra : Nodes w aa a) (hrb : Nodes w ab b) (hoa : Aside w g aa) (hob : Aside w g ab)
    (ho : w'.ownsRow B 30 2 (.slice (some ⟨g2, 0, none⟩) (ps.length + 1) c2) (ps.length + 1) (cells2 vs ++ [.slice aa a.length ca, .slice ab b.length cb])) :
    GPr w' B g2 c2 (ps ++ [(a, b)]) (vs ++ [(.slice aa a.length ca, .slice ab b.length cb)]) := by
  have hvl : vs.length = ps.length := h.own.1
  have hbut : But (· = g) w w' := (But.refl (· = g) w).grown hg (fun _ => rfl)
  have kept : ∀ {q : Option Addr} {zs : List Nd}, Nodes w q zs → Aside w g q → Nodes w' q zs := fun {q zs} hq hne => hq.but hbut (fun b o e => (hne b o e).1)
  have aside : ∀ {q : Option Addr}, Aside w g q → Aside w' g2 q := fun {q} hq b o e => by
    have := hq b o e
    rcases hw with rfl | rfl <;> omega
  have hO := OwnPs.push (x := (.slice aa a.length ca, .slice ab b.length cb)) ho hvl rfl
  refine ⟨by simpa using hO, ?_⟩
  intro j hj
  by_cases hji : j < ps.length
  · obtain ⟨a1, c1, a2, c2, e, h1, h2, h3, h4⟩ := h.rows j hji
    refine ⟨a1, c1, a2, c2, ?_, ?_, ?_, aside h3, aside h4⟩
    · rw [List.getElem?_append_left (by omega), List.getElem_append_left hji]
      exact e
    · rw [List.getElem_append_left hji]
      exact kept h1 h3
    · rw [List.getElem_append_left hji]
      exact kept h2 h4
  · have hje : j = ps.length := by simp at hj; omega
    subst hje
    refine ⟨aa, ca, ab, cb, ?_, ?_, ?_, aside hoa, aside hob⟩
    · rw [List.getElem?_append_right (by omega)]
      simp [hvl]
    · simp only [List.getElem_append_right (Nat.le_refl _), Nat.sub_self, List.getElem_cons_zero]
      exact kept hra hoa
    · simp only [List.getElem_append_right (Nat.le_refl _), Nat.sub_self, List.getElem_cons_zero]
      exact kept hrb hob

theorem PairOk2.wf {ps : List (List Nd × List Nd)} (h : PairOk2 ps) : ∀ p ∈ ps, (∀ x ∈ p.1, (Lit.int .i64 x.num).wf = true) ∧ ∀ x ∈ p.2, (Lit.int .i64 x.num).wf = true := by
  intro p hp
  refine ⟨fun x hx => ?_, fun x hx => ?_⟩
  · have := (h p hp).1.2 x hx
    exact WalkArith.wf_i64 (by omega)
  · have := (h p hp).2.2 x hx
    exact WalkArith.wf_i64 (by omega)

theorem PairOk2.len {ps : List (List Nd × List Nd)} (h : PairOk2 ps) : ∀ p ∈ ps, p.1.length ≤ 1048576 ∧ p.2.length ≤ 1048576 := by
  intro p hp
  have h1 := (h p hp).1.1
  have h2 := (h p hp).2.1
  omega

theorem PairOk2.take {ps : List (List Nd × List Nd)} (h : PairOk2 ps) (i : Nat) : PairOk2 (ps.take i) := fun p hp => h p (List.mem_of_mem_take hp)

theorem Pairs.take {w : World} {ao : Option Addr} {ps : List (List Nd × List Nd)} (h : Pairs w ao ps) (i : Nat) : Pairs w ao (ps.take i) := by
  intro j hj
  have hj' : j < ps.length := by simp at hj; omega
  have e : (ps.take i)[j] = ps[j] := by simp
  obtain ⟨b, o, a1, c1, a2, c2, h1, h2, h3, h4, h5⟩ := h j hj'
  exact ⟨b, o, a1, c1, a2, c2, h1, by rw [e]; exact h2, by rw [e]; exact h3, by rw [e]; exact h4, by rw [e]; exact h5⟩

end Go.Proofs.YthioecjcnajmgaaGreatDoor
