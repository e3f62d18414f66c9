import Derived.Test.YtoiiibplkhedcaaGreatDoorWBT
namespace Go.Proofs.YtoiiibplkhedcaaGreatDoor
theorem Jcb {a b out : List Nd} {fl : Bool} (h : Qbe a b out fl) (ha : typeb a = true) (hb : typeb b = true) {α β : Int → List Nd} (hα : ∀ x, One (α x)) (hβ : ∀ x, One (β x)) (e : fill α a = fill β b) : ∃ m, Mgci a b m := by
  rcases h with ⟨h1, _, _⟩ | ⟨_, _, _, f, ok, i, bs, hf, hs, _⟩
  · rcases h1 with h1 | h1
    · rw [ha] at h1; cases h1
    · rw [hb] at h1; cases h1
  · have htx : typeb (Qab a) = true := by rw [Qbk ha]; exact Qmn 1 (by omega) ha
    have hty : typeb (Qbq f b) = true := Qlp (by omega) hb
    cases hs using SolveRes.inv with
    | bad h1 =>
      refine absurd ?_ h1
      refine ⟨?_, ?_⟩
      · have h1 := Qao htx
        have h2 := Qao hty
        simp
        omega
      · intro p hp
        simp only [List.mem_singleton] at hp
        subst hp
        exact ⟨htx, hty⟩
    | no j _ hj _ hn =>
      exfalso
      have hj0 : j = 0 := by simp at hj; omega
      subst hj0
      obtain ⟨γ, g1, g2, g3⟩ := Qjx (b := b) ha hf hα hβ
      refine hn γ g1 ?_
      intro p hp
      simp at hp
      subst hp
      simp only
      rw [g2, g3, e]
    | large σ _ _ hsk _ _ => exact ⟨_, Qmo ha hf hsk⟩
    | ok σ _ _ hsk _ _ _ => exact ⟨_, Qmo ha hf hsk⟩
theorem Qwk {a b out : List Nd} (h : Qbe a b out false) (ha : typeb a = true) (hb : typeb b = true) {α β : Int → List Nd} (hα : ∀ x, One (α x)) (hβ : ∀ x, One (β x)) (e : fill α a = fill β b) : 300 < (fill α a).length := by
  obtain ⟨m, hm⟩ := Jcb h ha hb hα hβ e
  rcases Qfv h ha hb with ⟨h1, _⟩ | ⟨_, _, h3⟩
  · cases h1
  · have h4 := h3 m hm
    obtain ⟨θ, t1, t2⟩ := hm.all α β hα hβ e
    have := Qhi t1 m
    rw [t2] at this
    omega
theorem Qkb {g t : List Nd} {bs : List (Int × List Nd)} {fl : Bool} (h : Qcd g t bs fl) (hg : typeb g = true) (ht : typeb t = true) {θ : Int → List Nd} (hθ : ∀ x, One (θ x)) (e : fill θ g = t) : fl = true := by
  cases fl
  · exfalso
    obtain ⟨_, h9⟩ := h.2 rfl
    rcases h9 with h9 | h9 | h9
    · rw [hg] at h9; cases h9
    · rw [ht] at h9; cases h9
    · exact h9 θ hθ e
  · rfl
theorem Qwl {k : Nat} {fs : List (Int × List Nd)} (hF : FillOk k fs) {a b out : List Nd} {fl : Bool} (h : Qbe a b out fl) {bs : List (Int × List Nd)} {fl0 : Bool} (hc : Qcd b (Qai fs a) bs fl0) :
    (fl = false → fl0 = false) ∧ (fl = true → (∀ {cs f}, Qcd a out cs f → f = true) ∧ (∀ {cs f}, Qcd b out cs f → f = true) ∧ (fl0 = true → ∀ {cs f}, Qcd out (Qai fs a) cs f → f = true)) := by
  have hcom : fl0 = true → typeb a = true ∧ typeb b = true ∧ typeb (Qai fs a) = true ∧ fill (Qrm fs) a = Qai fs a ∧ ∃ β : Int → List Nd, (∀ x, One (β x)) ∧ fill β b = Qai fs a := by
    intro h0
    obtain ⟨h1, h2, h3⟩ := hc.1 h0
    have hne : Qai fs a ≠ [] := by
      intro e
      have := Qfj h2
      rw [e] at this
      simp at this
    obtain ⟨k1, k2, k3, k4⟩ := Qrx hne
    refine ⟨k1, h1, h2, ?_, pick bs, Qzp h3.one, h3.fills _ (Qzq (Qyu h3.up))⟩
    rw [k4, Qgo fs (Qal k1)]
    rfl
  refine ⟨fun hf => ?_, fun hf => ?_⟩
  · cases h0 : fl0
    · rfl
    · exfalso
      obtain ⟨k1, k2, k3, k4, β, b1, b2⟩ := hcom h0
      subst hf
      have := Qwk h k1 k2 hF.one b1 (by rw [k4, b2])
      rw [k4] at this
      have := Qao k3
      omega
  · subst hf
    have hty : typeb a = true ∧ typeb b = true := by
      rcases h with ⟨_, _, h3⟩ | ⟨h1, h2, _⟩
      · cases h3
      · exact ⟨h1, h2⟩
    rcases Qfv h hty.1 hty.2 with ⟨_, m, hm, htm, ho⟩ | ⟨h1, _⟩
    · obtain ⟨κ, hκ, eκ⟩ := Qoh 1 m
      have hom : out = ren κ m := by rw [ho, Qbk htm, eκ]
      have hto : typeb out = true := by rw [ho, Qbk htm]; exact Qmn 1 (by omega) htm
      refine ⟨fun {cs f} hi => ?_, fun {cs f} hi => ?_, fun h0 {cs f} hi => ?_⟩
      · obtain ⟨α, a1, a2⟩ := hm.ea
        exact Qkb hi hty.1 hto (θ := fun x => ren κ (α x)) (fun x => Qqs (a1 x)) (by rw [← Qiy, a2, hom])
      · obtain ⟨β, a1, a2⟩ := hm.eb
        exact Qkb hi hty.2 hto (θ := fun x => ren κ (β x)) (fun x => Qqs (a1 x)) (by rw [← Qiy, a2, hom])
      · obtain ⟨k1, k2, k3, k4, β, b1, b2⟩ := hcom h0
        obtain ⟨θ, t1, t2⟩ := hm.all _ β hF.one b1 (by rw [k4, b2])
        classical
        refine Qkb hi hto k3 (θ := fun y => if h : ∃ n, n ∈ metas m ∧ κ n = y then θ h.choose else [Qav y]) (fun y => ?_) ?_
        · split
          · exact t1 _
          · exact Qbu y
        · rw [hom, Qeb]
          rw [← k4, ← t2]
          refine Qbi (fun n hn => ?_)
          have h9 : ∃ m', m' ∈ metas m ∧ κ m' = κ n := ⟨n, hn, rfl⟩
          rw [dif_pos h9]
          rw [hκ _ h9.choose_spec.1 _ hn h9.choose_spec.2]
    · cases h1
theorem Jad {a b out : List Nd} {fl : Bool} (h : Qbe a b out fl) (hA : ∀ n ∈ a, (Go.Lit.int .i64 n.num).wf = true) (hB : ∀ n ∈ b, (Go.Lit.int .i64 n.num).wf = true) : out.length ≤ 300 ∧ ∀ n ∈ out, (Go.Lit.int .i64 n.num).wf = true := by
  rcases h with ⟨_, rfl, _⟩ | ⟨ha, hb, _, f, ok, i, bs, hf, hs, ho⟩
  · exact ⟨by simp, fun n hn => by simp at hn⟩
  · cases ok
    · simp only [Bool.false_eq_true, if_false] at ho
      subst ho
      exact ⟨by simp, fun n hn => by simp at hn⟩
    · simp only [if_true] at ho
      subst ho
      have hP : ∀ p ∈ [(Qab a, Qbq f b)], (∀ n ∈ p.1, n.kind ≠ 61 → (Go.Lit.int .i64 n.num).wf = true) ∧ ∀ n ∈ p.2, n.kind ≠ 61 → (Go.Lit.int .i64 n.num).wf = true := by
        intro p hp
        simp only [List.mem_singleton] at hp
        subst hp
        refine ⟨fun n hn hk => ?_, fun n hn hk => ?_⟩
        · simp only [Qbk ha] at hn
          rcases Qge 1 a a.length (Nat.le_refl _) n hn with h9 | h9
          · exact hA n h9.1
          · exact absurd h9.1 hk
        · rcases Qge f b b.length (Nat.le_refl _) n hn with h9 | h9
          · exact hB n h9.1
          · exact absurd h9.1 hk
      have hput : ∀ n ∈ Qai bs (Qab a), n.kind ≠ 61 → (Go.Lit.int .i64 n.num).wf = true := by
        intro n hn hk
        have hn2 : n ∈ Qam bs (Qab a) := by
          unfold Qai at hn
          split at hn
          · exact hn
          · simp at hn
        obtain ⟨m, hm, hnm⟩ := List.mem_flatMap.1 hn2
        rw [Qev] at hnm
        split at hnm
        · cases e : fsAt bs m.num with
          | none =>
            rw [e] at hnm
            simp only [Option.getD_none, List.mem_singleton] at hnm
            subst hnm
            exact (hP _ (List.mem_singleton.2 rfl)).1 _ hm hk
          | some t =>
            rw [e] at hnm
            simp only [Option.getD_some] at hnm
            obtain ⟨q, hq, rfl⟩ := Qjc e
            cases hs using SolveRes.inv with
            | ok σ _ hv hsk hup hocc hall =>
              have ho : Occ [(Qab a, Qbq f b)] q.1 := (hocc q.1).1 (List.mem_map.2 ⟨q, hq, rfl⟩)
              rw [(hall q hq).1] at hnm
              exact Qqi hv hsk ho _ hP n hnm hk
        · simp only [List.mem_singleton] at hnm
          subst hnm
          exact (hP _ (List.mem_singleton.2 rfl)).1 _ hm hk
      have hl3 : (Qai bs (Qab a)).length ≤ 300 := by
        unfold Qai
        split
        · next h8 => exact h8.2.2
        · simp
      by_cases ht : typeb (Qai bs (Qab a)) = true
      · rw [Qbk ht]
        refine ⟨by rw [(Qcy 1 _ _ (Nat.le_refl _)).1]; exact hl3, fun n hn => ?_⟩
        rcases Qge 1 _ _ (Nat.le_refl _) n hn with h9 | h9
        · exact hput n h9.1 h9.2
        · exact Go.WalkArith.wf_i64 (by omega)
      · have e : Qab (Qai bs (Qab a)) = [] := List.length_eq_zero_iff.1 (canon_empty.2 (by simpa using ht))
        rw [e]
        exact ⟨by simp, fun n hn => by simp at hn⟩
end Go.Proofs.YtoiiibplkhedcaaGreatDoor
