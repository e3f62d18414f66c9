import Derived.Test.YtoiiibplkhedcaaGreatDoorWAP
import Derived.OwnWalk
set_option maxRecDepth 20000
set_option maxHeartbeats 4000000
namespace Go.Proofs.YtoiiibplkhedcaaGreatDoor
open Go.RowKit
theorem Qrn (X : Nat → Prop) (w : World) (a b : Nat) (eb sx sb : Nat) (t : Int) (tt : TypeId) (v : Value) (hBx : Boxes w X eb sx sb (.iface tt v) t) :
    Calls Tryz.prog 58 #[.agg #[.pointer (some ⟨a, 0, none⟩), .pointer (some ⟨b, 0, none⟩)], .pointer (some ⟨eb, 0, none⟩), .pointer (some ⟨sx, 0, none⟩)] w fun e w' => e = .returned (.slice none 0 0) ∧ Below w.heap.size w w' := by
  have qe : w.cell? ⟨eb, 0, none⟩ = some (.iface tt v) := by rw [cell_of_row _ _ _ _ 62 (0, 0) hBx.e]; rfl
  have le : eb < w.heap.size := (Array.getElem?_eq_some_iff.1 hBx.e).1
  clear hBx
  go_enter Tryz.func58, Tryz.ntmps58
  go_wp2
  go_ret
  exact ⟨rfl, (Below.refl _ _).alloc (Nat.le_refl _) _⟩
theorem Jde {P : Nat → Prop} : ∀ n, P n → ∃ m, P m ∧ ∀ k, k < m → ¬ P k := by
  intro n
  induction n using Nat.strongRecOn with
  | ind n ih =>
    intro h
    by_cases h9 : ∃ k, k < n ∧ P k
    · obtain ⟨k, hk, hP⟩ := h9
      exact ih k hk hP
    · exact ⟨n, h, fun k hk hP => h9 ⟨k, hk, hP⟩⟩
theorem Jda : ∃ mu : (Nat → Prop) → Nat, ∀ (P : Nat → Prop) (n : Nat), P n → P (mu P) ∧ mu P ≤ n := by
  classical
  refine ⟨fun P => if h : ∃ n, P n then Classical.choose (Jde _ (Classical.choose_spec h)) else 0, fun P n h => ?_⟩
  have h1 : ∃ n, P n := ⟨n, h⟩
  have h2 := Classical.choose_spec (Jde _ (Classical.choose_spec h1))
  simp only [dif_pos h1]
  exact ⟨h2.1, Nat.le_of_not_lt (fun hlt => h2.2 n hlt h)⟩
theorem Qcj {w w' : World} {g : Nat} (h : w.grownBy w' (some g)) : But (· = g) w w' :=
  ⟨h.os, h.tape, h.output, h.size, fun i hi hne => h.block i hi (by simpa using hne)⟩
section
variable {P : Program} (w : World)
theorem Qsl {o : Oper} {a : Act} {K : Act → World → Prop} {Q : Exit → Act → World → Prop} (s x : Operand) (t : TypeId)
    (ho : o.op = .call { callee := .builtin .append, args := #[s, x], argTypes := #[t, t] })
    (base : Nat) (e : TypeId) (i : TypeInfo) (z : Value) (size bytes : Nat) (ht : P.underlying t = some (.slice e)) (hi : P.info? e = some i) (hz : i.zero = some z)
    (hsize : i.size = size) (hby : i.bytes = bytes) (hzs : z.cells.size = size) (hsz : 0 < size)
    (g n cap : Nat) (xs : List Value) (hs : a.eval s = .slice (some ⟨g, 0, none⟩) n cap) (hown : w.ownsRow base e size (.slice (some ⟨g, 0, none⟩) n cap) n xs)
    (ao : Option Addr) (m c : Nat) (news : List Value) (hx : a.eval x = .slice ao m c) (hl : news.length = m * size) (hnone : ao = none → m = 0 ∧ c = 0) (hnews : ∀ ad, ao = some ad → ∀ j u, news[j]? = some u → w.cell? (ad.add j) = some u) (h1 : ∀ u ∈ news, u.oneCell' = true)
    (h63 : n + m ≤ maxLen) (hbytes : (n + m) * bytes ≤ 140737488355328) (hbase : base ≤ w.heap.size)
    (h : ∀ g' cap' w', w'.ownsRow base e size (.slice (some ⟨g', 0, none⟩) (n + m) cap') (n + m) (xs ++ news) → w.grownBy w' (some g) → K (a.put o.dst (.slice (some ⟨g', 0, none⟩) (n + m) cap')) w') : o.wp P a w K Q := by
  cases ao with
  | some ad => exact Qhp w s x t ho base e i z size bytes ht hi hz hsize hby hzs hsz g n cap xs hs hown ad m c news hx hl (hnews ad rfl) h1 h63 hbytes hbase (fun g' cap' w' a1 a2 _ => h g' cap' w' a1 a2)
  | none =>
    obtain ⟨rfl, rfl⟩ := hnone rfl
    have hne : news = [] := List.eq_nil_of_length_eq_zero (by simpa using hl)
    subst hne
    have hrun := run_append_owned_none (P := P) w base t o.type e i size ht hi _ n xs hown
    unfold Oper.wp
    simp [execOp, ho, resolve, invoke, builtin, hs, hx, hrun, Result.andThen]
    exact h g cap w (by simpa using hown) (World.grownBy.refl _ _)
theorem Qnp {ops : Array Oper} {o : Oper} {a : Act} {K : Act → World → Prop} {Q : Exit → Act → World → Prop} {E : Prop} (hgd : o.guard = none) (s x : Operand) (t : TypeId)
    (ho : o.op = .call { callee := .builtin .append, args := #[s, x], argTypes := #[t, t] })
    (base : Nat) (e : TypeId) (i : TypeInfo) (z : Value) (size bytes : Nat) (ht : P.underlying t = some (.slice e)) (hi : P.info? e = some i) (hz : i.zero = some z)
    (hsize : i.size = size) (hby : i.bytes = bytes) (hzs : z.cells.size = size) (hsz : 0 < size)
    (g n cap : Nat) (xs : List Value) (hs : a.eval s = .slice (some ⟨g, 0, none⟩) n cap) (hown : w.ownsRow base e size (.slice (some ⟨g, 0, none⟩) n cap) n xs)
    (ao : Option Addr) (m c : Nat) (news : List Value) (hx : a.eval x = .slice ao m c) (hl : news.length = m * size) (hnone : ao = none → m = 0 ∧ c = 0) (hnews : ∀ ad, ao = some ad → ∀ j u, news[j]? = some u → w.cell? (ad.add j) = some u) (h1 : ∀ u ∈ news, u.oneCell' = true)
    (h63 : n + m ≤ maxLen) (hbytes : (n + m) * bytes ≤ 140737488355328) (hbase : base ≤ w.heap.size)
    (h : ∀ g' cap' w', w'.ownsRow base e size (.slice (some ⟨g', 0, none⟩) (n + m) cap') (n + m) (xs ++ news) → w.grownBy w' (some g) → K (a.put o.dst (.slice (some ⟨g', 0, none⟩) (n + m) cap')) w') :
    if Region.wanted o (yielded ops a.tmps) = true then Oper.wp P o a w K Q else E := by
  have hw : Region.wanted o (yielded ops a.tmps) = true := by simp [Region.wanted, hgd]
  rw [if_pos hw]
  exact Qsl w s x t ho base e i z size bytes ht hi hz hsize hby hzs hsz g n cap xs hs hown ao m c news hx hl hnone hnews h1 h63 hbytes hbase h
end
theorem Boxes.aside {w w' : World} {X : Nat → Prop} {eb sx sb : Nat} {ev : Value} {t : Int} (h : Boxes w X eb sx sb ev t) {g : Nat} (hb : But (· = g) w w') (h1 : eb ≠ g) (h2 : sx ≠ g) (h3 : sb ≠ g) : Boxes w' X eb sx sb ev t := by
  have l1 : eb < w.heap.size := (Array.getElem?_eq_some_iff.1 h.e).1
  have l2 : sx < w.heap.size := (Array.getElem?_eq_some_iff.1 h.s).1
  exact ⟨(hb.block eb l1 h1).trans h.e, (hb.block sx l2 h2).trans h.s, (hb.cellB (Qaa h.now) h3).trans h.now, h.eX, h.sX, h.bX, h.es, h.eb'⟩
theorem Qhb {w : World} {base : Nat} {e : TypeId} {size g n cap : Nat} {xs : List Value} (h : w.ownsRow base e size (.slice (some ⟨g, 0, none⟩) n cap) n xs) : n ≤ cap ∧ ∃ cur, w.heap[g]? = some (.cells cur e (0, 0)) := by
  rcases h.2 with ⟨h', _⟩ | ⟨g2, cap2, cur, he, hb, hh, hnc, _⟩
  · cases h'
  · simp only [Value.slice.injEq, Option.some.injEq, Addr.mk.injEq, and_true, true_and] at he
    obtain ⟨rfl, rfl⟩ := he
    exact ⟨hnc, cur, hh⟩
theorem Qqx (Q : List (Nat × Nat)) (p : Nat × Nat) : (Qba (Q ++ [p])).take (Q.length * 2) = Qba Q := by
  rw [Qdf, ← Qex, List.take_left]
theorem Qqy (Q : List (Nat × Nat)) (p : Nat × Nat) : (Qba (Q ++ [p]))[Q.length * 2]? = some (.pointer (some ⟨p.1, 0, none⟩)) ∧ (Qba (Q ++ [p]))[Q.length * 2 + 1]? = some (.pointer (some ⟨p.2, 0, none⟩)) := by
  rw [Qdf, ← Qex]
  constructor
  · rw [List.getElem?_append_right (Nat.le_refl _)]
    simp [Qba]
  · rw [List.getElem?_append_right (by omega)]
    simp [Qba]
def Jeb (X : Nat → Prop) (f : Nat → CC) (lk : Nat → Option Nat) (K : (Option Addr × Nat × Nat) → List Nat) (eb sx sb : Nat) (t : Int) (a b N M : Nat) (Q P : List (Nat × Nat)) (w w' : World) : Prop :=
  But (fun i => X i ∨ i = eb) w w' ∧ (∀ p ∈ P, X p.1 ∧ X p.2) ∧ Q.length + P.length ≤ N ∧
    ((Boxes w' X eb sx sb .nilIface t ∧ ∃ (f' : Nat → CC) (lk' : Nat → Option Nat) (d' : Nat → Nat) (rt' : List Nat), CSto w' X f' lk' d' K ∧ rt'.length * 20001 + (Q.length + P.length) < M ∧ (Q.length + P.length) + rt'.length * 20000 ≤ N ∧ (∀ i, X i → lk' i = none → i ∈ rt') ∧ Ties X t f lk f' lk' ∧ ∀ θ, (SatC X (gc K f') lk' θ ∧ ∀ p ∈ Q ++ P, θ p.1 = θ p.2) ↔ (SatC X (gc K f) lk θ ∧ θ a = θ b)) ∨
     (Q.length + P.length < M ∧ (∃ v, Boxes w' X eb sx sb (.iface 143 (.pointer (some v))) t) ∧ (∃ f' lk' d', CSto w' X f' lk' d' K ∧ Ties X t f lk f' lk') ∧ ∀ θ, SatC X (gc K f) lk θ → θ a ≠ θ b))
def Work (X : Nat → Prop) (f : Nat → CC) (lk : Nat → Option Nat) (K : (Option Addr × Nat × Nat) → List Nat) (eb sx sb : Nat) (t : Int) (a b B N : Nat) (w : World) (v : Value) (wr : World) (n : Nat) : Prop :=
  ∃ (k g c : Nat) (Q : List (Nat × Nat)), v = .slice (some ⟨g, 0, none⟩) k c ∧ k ≤ N ∧ wr.ownsRow B 109 2 (.slice (some ⟨g, 0, none⟩) k c) k (Qba Q) ∧ Q.length = k ∧ But (fun i => X i ∨ i = eb ∨ B ≤ i) w wr ∧ (∀ p ∈ Q, X p.1 ∧ X p.2) ∧
    ((Boxes wr X eb sx sb .nilIface t ∧ ∃ (f' : Nat → CC) (lk' : Nat → Option Nat) (d' : Nat → Nat) (rt' : List Nat), CSto wr X f' lk' d' K ∧ n = rt'.length * 20001 + k ∧ k + rt'.length * 20000 ≤ N ∧ (∀ i, X i → lk' i = none → i ∈ rt') ∧ Ties X t f lk f' lk' ∧ ∀ θ, (SatC X (gc K f') lk' θ ∧ ∀ p ∈ Q, θ p.1 = θ p.2) ↔ (SatC X (gc K f) lk θ ∧ θ a = θ b)) ∨
     (n = k ∧ (∃ v, Boxes wr X eb sx sb (.iface 143 (.pointer (some v))) t) ∧ (∃ f' lk' d', CSto wr X f' lk' d' K ∧ Ties X t f lk f' lk') ∧ ∀ θ, SatC X (gc K f) lk θ → θ a ≠ θ b))
theorem Qsn (X : Nat → Prop) (f : Nat → CC) (lk : Nat → Option Nat) (K : (Option Addr × Nat × Nat) → List Nat) (eb sx sb : Nat) (t : Int) (a b B N : Nat) (hN : N ≤ 1099511627776) (w : World) (g0 n0 : Nat) (hXB : ∀ i, X i → i < B) (heB : eb < B) (hsB : sx < B) (hbB : sb < B)
    (hW : Work X f lk K eb sx sb t a b B N w (.slice (some ⟨g0, 0, none⟩) 1 1) w n0) :
    Calls Tryz.prog 57 #[.slice (some ⟨g0, 0, none⟩) 1 1, .func (.func 58) #[] #[.pointer (some ⟨eb, 0, none⟩), .pointer (some ⟨sx, 0, none⟩)]] w fun e w' => e = .returned (.tuple #[]) ∧ ∃ v n, Work X f lk K eb sx sb t a b B N w v w' n ∧ Jcd v = 0 := by
  obtain ⟨mu, hmu⟩ := Jda
  obtain ⟨i0, hi, hz0, hz1, hz2⟩ := info_parts Tryz.infoP
  go_enter Tryz.func57, Tryz.ntmps57
  go_wp2
  go_loopw [0] (fun v wr => ∃ n, Work X f lk K eb sx sb t a b B N w v wr n) (fun v wr => mu (fun n => Work X f lk K eb sx sb t a b B N w v wr n))
  case atStart => exact ⟨n0, hW⟩
  case round =>
    clear hW
    obtain ⟨n1, hn1⟩ := hrel
    obtain ⟨hn, hle⟩ := hmu _ _ hn1
    clear hn1 hle
    obtain ⟨M, hM⟩ : ∃ M, mu (fun n => Work X f lk K eb sx sb t a b B N w u0 wr n) = M := ⟨_, rfl⟩
    have HM : Hid (mu (fun n => Work X f lk K eb sx sb t a b B N w u0 wr n) = M) := hM
    rw [hM] at hn
    clear hM
    have HW := hn
    obtain ⟨k, g, c, Q, rfl, hk, hown, hQ, hB, hQX, hst⟩ := hn
    by_cases hk0 : k = 0
    · subst hk0
      clear hst hown hB HM
      go_wp2
      go_end0
      exact ⟨rfl, _, M, HW, rfl⟩
    · obtain ⟨k', rfl⟩ : ∃ k', k = k' + 1 := ⟨k - 1, by omega⟩
      obtain ⟨Q', p, rfl⟩ : ∃ Q' p, Q = Q' ++ [p] := ⟨Q.dropLast, Q.getLast (by rintro rfl; simp at hQ), (List.dropLast_concat_getLast _).symm⟩
      have hQ' : Q'.length = k' := by simpa using hQ
      obtain ⟨hkc, cur, hcur⟩ := Qhb hown
      have hob := Qad hown
      obtain ⟨l0, l1⟩ := Qqy Q' p
      have c0 : wr.cell? ⟨g, k' * 2, none⟩ = some (.pointer (some ⟨p.1, 0, none⟩)) := by
        rw [Qdu hown (k' * 2) (by omega), ← hQ']
        exact l0
      have c1 : wr.cell? ⟨g, k' * 2 + 1, none⟩ = some (.pointer (some ⟨p.2, 0, none⟩)) := by
        rw [Qdu hown (k' * 2 + 1) (by omega), ← hQ']
        exact l1
      have ht := Qdt hown k' (by omega)
      rw [← hQ', Qqx, hQ'] at ht
      obtain ⟨x, y⟩ := p
      simp only at c0 c1
      have hXx : X x := (hQX (x, y) (by simp)).1
      have hXy : X y := (hQX (x, y) (by simp)).2
      have hQX' : ∀ p ∈ Q', X p.1 ∧ X p.2 := fun p hp => hQX p (by simp [hp])
      have hwA : Below wr.heap.size wr (wr.alloc (.cells #[.pointer (some ⟨x, 0, none⟩), .pointer (some ⟨y, 0, none⟩)] 109)).drew := ((Below.refl _ wr).alloc (Nat.le_refl _) _).drew
      have hwB : But X wr (wr.alloc (.cells #[.pointer (some ⟨x, 0, none⟩), .pointer (some ⟨y, 0, none⟩)] 109)).drew := But.ofBelow hwA
      have hwF : But (fun _ => False) wr (wr.alloc (.cells #[.pointer (some ⟨x, 0, none⟩), .pointer (some ⟨y, 0, none⟩)] 109)).drew := But.ofBelow hwA
      have HCALL : Hid (Calls Tryz.prog 58 #[.agg #[.pointer (some ⟨x, 0, none⟩), .pointer (some ⟨y, 0, none⟩)], .pointer (some ⟨eb, 0, none⟩), .pointer (some ⟨sx, 0, none⟩)] (wr.alloc (.cells #[.pointer (some ⟨x, 0, none⟩), .pointer (some ⟨y, 0, none⟩)] 109)).drew fun e w' =>
          ∃ s1 s2 s3 P, e = .returned (.slice s1 s2 s3) ∧ (s1 = none → s2 = 0 ∧ s3 = 0) ∧ P.length = s2 ∧ s2 ≤ 20000 ∧ (∀ ad, s1 = some ad → ∀ j u, (Qba P)[j]? = some u → w'.cell? (ad.add j) = some u) ∧ Jeb X f lk K eb sx sb t a b N M Q' P (wr.alloc (.cells #[.pointer (some ⟨x, 0, none⟩), .pointer (some ⟨y, 0, none⟩)] 109)).drew w') := by
        rcases hst with ⟨hBx, f', lk', d', rt', hS, hn, hN', hroots, hTi, hθ⟩ | ⟨hn, ⟨v, hBx⟩, ⟨f', lk', d', hS, hTi⟩, hno⟩
        · have hS' := hS.short (hS.cells.but hwF (fun _ _ h => h)) hS.acyc hwB
          refine (Qro X f' lk' d' K _ x y rt' hS' hroots hXx hXy eb sx sb t (hBx.but hwB)).mono ?_
          rintro e w' ⟨hB', hres⟩
          rcases hres with ⟨⟨s1, s2, s3⟩, P, rfl, ⟨hp1, hp2⟩, hPX, hBx', f2, lk2, d2, rt2, hS2, hrt2, hroots2, hTi2, hθ2⟩ | ⟨⟨v, rfl, hBx'⟩, ⟨f2, lk2, d2, hS2, hTi2⟩, hno⟩
          · have hs : P.length = s2 ∧ (s1 = none → s2 = 0 ∧ s3 = 0) ∧ (∀ ad, s1 = some ad → ∀ j u, (Qba P)[j]? = some u → w'.cell? (ad.add j) = some u) := by
              rcases hp2 with ⟨e1, rfl⟩ | ⟨g9, c9, e1, h9⟩
              · simp only [Prod.mk.injEq] at e1
                obtain ⟨rfl, rfl, rfl⟩ := e1
                exact ⟨rfl, fun _ => ⟨rfl, rfl⟩, (fun ad h => by cases h)⟩
              · simp only [Prod.mk.injEq] at e1
                obtain ⟨rfl, rfl, rfl⟩ := e1
                exact ⟨rfl, (fun h => by cases h), (fun ad h => by cases h; exact h9)⟩
            refine ⟨s1, s2, s3, P, rfl, hs.2.1, hs.1, by rw [← hs.1]; exact hp1, hs.2.2, hB', hPX, ?_, .inl ⟨hBx', f2, lk2, d2, rt2, hS2, ?_, ?_, hroots2, hTi.trans hTi2, fun θ => ?_⟩⟩
            · rcases hrt2 with h9 | ⟨rfl, h9⟩
              · have : (rt2.length + 1) * 20000 ≤ rt'.length * 20000 := Nat.mul_le_mul_right _ h9
                omega
              · simp only [List.length_nil]; omega
            · rcases hrt2 with h9 | ⟨rfl, h9⟩
              · have : (rt2.length + 1) * 20001 ≤ rt'.length * 20001 := Nat.mul_le_mul_right _ h9
                omega
              · have : rt2.length * 20001 ≤ rt'.length * 20001 := Nat.mul_le_mul_right _ h9
                simp only [List.length_nil]; omega
            · rcases hrt2 with h9 | ⟨rfl, h9⟩
              · have : (rt2.length + 1) * 20000 ≤ rt'.length * 20000 := Nat.mul_le_mul_right _ h9
                omega
              · have : rt2.length * 20000 ≤ rt'.length * 20000 := Nat.mul_le_mul_right _ h9
                simp only [List.length_nil]; omega
            · rw [← hθ θ]
              have h8 := hθ2 θ
              constructor
              · rintro ⟨h1, h2⟩
                obtain ⟨h3, h4⟩ := h8.1 ⟨h1, fun p hp => h2 p (by simp [hp])⟩
                refine ⟨h3, fun p hp => ?_⟩
                rcases List.mem_append.1 hp with hp | hp
                · exact h2 p (by simp [hp])
                · simp only [List.mem_cons, List.not_mem_nil, or_false] at hp
                  subst hp
                  exact h4
              · rintro ⟨h1, h2⟩
                obtain ⟨h3, h4⟩ := h8.2 ⟨h1, h2 (x, y) (by simp)⟩
                refine ⟨h3, fun p hp => ?_⟩
                rcases List.mem_append.1 hp with hp | hp
                · exact h2 p (by simp [hp])
                · exact h4 p hp
          · refine ⟨none, 0, 0, [], rfl, fun _ => ⟨rfl, rfl⟩, rfl, by omega, (fun ad h => by cases h), hB', by simp, by simp only [List.length_nil]; omega, .inr ⟨by simp only [List.length_nil]; omega, ⟨v, hBx'⟩, ⟨f2, lk2, d2, hS2, hTi.trans hTi2⟩, fun θ h1 h2 => ?_⟩⟩
            obtain ⟨h3, h4⟩ := (hθ θ).2 ⟨h1, h2⟩
            exact hno θ h3 (h4 (x, y) (by simp))
        · refine (Qrn X _ x y eb sx sb t _ _ (hBx.but hwB)).mono ?_
          rintro e w' ⟨rfl, hb'⟩
          have hS' := hS.short (hS.cells.but hwF (fun _ _ h => h)) hS.acyc hwB
          have hb9 : But (fun _ => False) _ w' := But.ofBelow hb'
          exact ⟨none, 0, 0, [], rfl, fun _ => ⟨rfl, rfl⟩, rfl, by omega, (fun ad h => by cases h), But.ofBelow hb', by simp, by simp only [List.length_nil]; omega, .inr ⟨by simp only [List.length_nil]; omega, ⟨v, (hBx.but hwB).but (But.ofBelow hb')⟩, ⟨f', lk', d', hS'.short (hS'.cells.but hb9 (fun _ _ h => h)) hS'.acyc (hb9.mono (fun _ h => h.elim)), hTi⟩, hno⟩⟩
      have hgX : ¬ X g := fun h => by have := hXB g h; omega
      have hge : g ≠ eb := by omega
      have HOWN : Hid (∀ w' : World, But (fun i => X i ∨ i = eb) (wr.alloc (.cells #[.pointer (some ⟨x, 0, none⟩), .pointer (some ⟨y, 0, none⟩)] 109)).drew w' → w'.ownsRow B 109 2 (.slice (some ⟨g, 0, none⟩) k' c) k' (Qba Q') ∧ B ≤ w'.heap.size) := by
        intro w' hb'
        have h1 := Qah ht hwF (fun h => h)
        have h2 := Qah h1 hb' (by rintro (h | h); exact hgX h; exact hge h)
        have h3 := hb'.size
        have h4 := hwF.size
        exact ⟨h2, by omega⟩
      have HWB : Hid (But X wr (wr.alloc (.cells #[.pointer (some ⟨x, 0, none⟩), .pointer (some ⟨y, 0, none⟩)] 109)).drew) := hwB
      have HBW : Hid (But (fun i => X i ∨ i = eb ∨ B ≤ i) w wr) := hB
      have hgl : g < wr.heap.size := hob.2
      have HQX : Hid (∀ p ∈ Q', X p.1 ∧ X p.2) := hQX'
      have HXB : Hid (∀ i, X i → i < B) := hXB
      have hkk : k' + 1 ≤ N := hk
      have hkc2 : k' ≤ c := by omega
      have HQL : Hid (Q'.length = k') := hQ'
      clear hst hown hB hQX hQX' hwA hwB hwF l0 l1 ht hcur HW hQ hQ' hXB
      go_wp2_with fail
      go_region_law (first
        | (go_simp; refine HCALL.out.mono ?_; rintro e w4 ⟨s1, s2, s3, P, rfl, hs1, hs2, hs3, hs4, haf⟩; obtain ⟨how4, hsz4⟩ := HOWN.out w4 haf.1; have hkN : Q'.length + P.length ≤ N := haf.2.2.1; rw [HQL.out, hs2] at hkN)
        | (refine Qnp _ rfl (.tmp 18) (.tmp 21) 110 rfl B 109 i0 _ 2 16 Tryz.underlying110 hi hz0 hz1 hz2 rfl (by decide) g k' c _ rfl how4 s1 s2 s3 (Qba P) rfl ?_ hs1 hs4 (Qll _) ?_ ?_ hsz4 ?_; (rw [Qex, hs2]); (unfold maxLen; omega); omega; intro g5 c5 w5 hown5 hgrow5))
      all_goals
        have HNEXT : Hid (∃ n', n' < M ∧ Work X f lk K eb sx sb t a b B N w (.slice (some ⟨g5, 0, none⟩) (k' + s2) c5) w5 n') := by
          obtain ⟨hB4, hPX, hkN', hres⟩ := haf
          have hb5 := Qcj hgrow5
          obtain ⟨_, cur4, hcur4⟩ := Qhb how4
          have hown6 : w5.ownsRow B 109 2 (.slice (some ⟨g5, 0, none⟩) (k' + s2) c5) (k' + s2) (Qba (Q' ++ P)) := by
            rw [Qdf]
            exact hown5
          have hlen : (Q' ++ P).length = k' + s2 := by rw [List.length_append, HQL.out, hs2]
          have hBB : But (fun i => X i ∨ i = eb ∨ B ≤ i) w w5 := by
            refine HBW.out.trans ((HWB.out.mono (fun _ h => .inl h)).trans ((hB4.mono ?_).trans (hb5.mono ?_)))
            · rintro i (h | h)
              · exact .inl h
              · exact .inr (.inl h)
            · rintro i rfl
              exact .inr (.inr hob.1)
          have hPX2 : ∀ p ∈ Q' ++ P, X p.1 ∧ X p.2 := fun p hp => (List.mem_append.1 hp).elim (HQX.out p) (hPX p)
          rw [HQL.out, hs2] at hres
          rcases hres with ⟨hBx, f2, lk2, d2, rt2, hS2, hn2, hN2, hroots2, hTi2, hθ2⟩ | ⟨hn2, ⟨v, hBx⟩, ⟨f2, lk2, d2, hS2, hTi2⟩, hno⟩
          · refine ⟨rt2.length * 20001 + (k' + s2), hn2, k' + s2, g5, c5, Q' ++ P, rfl, hkN, hown6, hlen, hBB, hPX2, .inl ⟨hBx.aside hb5 (by omega) (by omega) (by omega), f2, lk2, d2, rt2, hS2.aside hb5 hgX (fun cur h => ?_), rfl, hN2, hroots2, hTi2, hθ2⟩⟩
            rw [hcur4] at h
            simp at h
          · refine ⟨k' + s2, hn2, k' + s2, g5, c5, Q' ++ P, rfl, hkN, hown6, hlen, hBB, hPX2, .inr ⟨rfl, ⟨v, hBx.aside hb5 (by omega) (by omega) (by omega)⟩, ⟨f2, lk2, d2, hS2.aside hb5 hgX (fun cur h => ?_), hTi2⟩, hno⟩⟩
            rw [hcur4] at h
            simp at h
        clear haf how4 hown5 hgrow5 hs4 HOWN HCALL HBW HWB
        simp only [Act.put, List.getElem_toArray, List.getElem_cons_succ, List.getElem_cons_zero, List.setIfInBounds_toArray, List.set_cons_zero]
        obtain ⟨n', hn', hW'⟩ := HNEXT.out
        go_wp2
        go_roundw
        case rel => exact ⟨n', hW'⟩
        case measure =>
          have h1 := (hmu (fun n => Work X f lk K eb sx sb t a b B N w (.slice (some ⟨g5, 0, none⟩) (k' + s2) c5) w5 n) n' hW').2
          have h2 := HM.out
          show mu (fun n => Work X f lk K eb sx sb t a b B N w (.slice (some ⟨g5, 0, none⟩) (k' + s2) c5) w5 n) < mu (fun n => Work X f lk K eb sx sb t a b B N w (.slice (some ⟨g, 0, none⟩) (k' + 1) c) wr n)
          rw [h2]
          omega
end Go.Proofs.YtoiiibplkhedcaaGreatDoor
namespace Go.Proofs.YtoiiibplkhedcaaGreatDoor
def Qlm (P : List PSt) : List (Nat × List Nat) := P.reverse.map fun x => (x.1, x.2.2)
structure WInv (X : Nat → Prop) (kids : Nat → List Nat) (hf : Nat → Nat) (I L : Int) (sn1 sn : Nat → Int) (P : List PSt) (closed : Bool) (r : Nat) : Prop where
  inX : ∀ x ∈ P, X x.1 ∧ ∀ k ∈ x.2.2, X k
  ins : ∀ b, X b → (sn b = I ↔ b ∈ P.map Prod.fst)
  nd : (P.map Prod.fst).Nodup
  keep : ∀ b, X b → sn1 b = L → sn b = L
  yes : closed = true → ∃ x, Downs kids hf r x ∧ Downs kids hf x x
  no : closed = false → PathOk kids hf (fun b => X b ∧ sn b = L) none (Qlm P) ∧ (∃ rk, LeftOk kids hf (fun b => X b ∧ sn b = L) rk) ∧ ((P.map Prod.fst).head? = some r ∨ (P = [] ∧ sn r = L))
  small : ∀ b, X b → sn b = I ∨ sn b = L ∨ sn b < I
def todo (xs : List Nat) (I L : Int) (sn : Nat → Int) (P : List PSt) : Nat := (xs.filter fun b => decide (sn b ≠ I ∧ sn b ≠ L)).length * 20002 + (P.map fun x => x.2.2.length + 1).sum
theorem Qcf (P : List PSt) (x : PSt) : Qlm (P ++ [x]) = (x.1, x.2.2) :: Qlm P := by simp [Qlm]
theorem Qrl {xs : List Nat} {p q : Nat → Bool} (hpq : ∀ b, q b = true → p b = true) {a : Nat} (ha : a ∈ xs) (h1 : p a = true) (h2 : q a = false) : (xs.filter q).length < (xs.filter p).length := by
  induction xs with
  | nil => simp at ha
  | cons b xs ih =>
    have hle : (xs.filter q).length ≤ (xs.filter p).length := by
      clear ih ha
      induction xs with
      | nil => simp
      | cons c xs ih2 =>
        by_cases hq : q c = true
        · simp [hq, hpq c hq, ih2]
        · by_cases hp : p c = true
          · simp only [List.filter_cons, hq, hp, if_true, List.length_cons]
            simp only [Bool.false_eq_true, if_false]
            omega
          · simp [hq, hp, ih2]
    rcases List.mem_cons.1 ha with rfl | ha
    · simp only [List.filter_cons, h1, h2, if_true, List.length_cons]
      simp only [Bool.false_eq_true, if_false]
      omega
    · have := ih ha
      by_cases hq : q b = true
      · simp [hq, hpq b hq, this]
      · by_cases hp : p b = true
        · simp only [List.filter_cons, hq, hp, if_true, List.length_cons]
          simp only [Bool.false_eq_true, if_false]
          omega
        · simp [hq, hp, this]
section
variable {X : Nat → Prop} {kids : Nat → List Nat} {hf : Nat → Nat} {I L : Int} {sn1 sn : Nat → Int} {P : List PSt} {r : Nat} {xs : List Nat}
theorem Qws {q : Nat} (hIL : I ≠ L) (hq : sn q ≠ L) : (fun b => X b ∧ Qcb sn q I b = L) = (fun b => X b ∧ sn b = L) := by
  funext b
  unfold Qcb
  by_cases e : b = q
  · subst e
    simp [hIL, hq]
  · simp [e]
theorem Jdc {h : Nat} (hh : X h) : (fun b => X b ∧ Qcb sn h L b = L) = (fun b => (X b ∧ sn b = L) ∨ b = h) := by
  funext b
  unfold Qcb
  by_cases e : b = h
  · subst e
    simp [hh]
  · simp [e]
theorem WInv.start (hIL : I < L) (hk : ∀ q, X q → ∀ k ∈ kids q, X k) (hsm : ∀ b, X b → sn1 b = L ∨ sn1 b < I) (hlf : ∃ rk, LeftOk kids hf (fun b => X b ∧ sn1 b = L) rk) (hr : X r) : (sn1 r = L → WInv X kids hf I L sn1 sn1 [] false r) ∧ (sn1 r ≠ L → ∀ z, WInv X kids hf I L sn1 (Qcb sn1 r I) [(r, z, kids r)] false r) := by
  have hni : ∀ b, X b → sn1 b ≠ I := fun b hb e => by rcases hsm b hb with h | h <;> omega
  refine ⟨fun e => ⟨by simp, fun b hb => ⟨fun h => absurd h (hni b hb), by simp⟩, by simp, fun _ _ h => h, (fun h => by cases h), fun _ => ⟨trivial, hlf, .inr ⟨rfl, e⟩⟩, fun b hb => by rcases hsm b hb with h | h; exact .inr (.inl h); exact .inr (.inr h)⟩, fun e z => ?_⟩
  refine ⟨by simp only [List.mem_singleton]; rintro x rfl; exact ⟨hr, hk r hr⟩, fun b hb => ?_, by simp, fun b hb h => ?_, (fun h => by cases h), fun _ => ?_, fun b hb => ?_⟩
  · unfold Qcb
    by_cases e2 : b = r
    · subst e2; simp
    · simp [e2, hni b hb]
  · unfold Qcb
    have : b ≠ r := fun e2 => e (e2 ▸ h)
    rw [if_neg this]
    exact h
  · rw [Qws (by omega) e]
    refine ⟨⟨⟨[], rfl, by simp, (fun x e => by cases e)⟩, trivial⟩, hlf, .inl (by simp)⟩
  · unfold Qcb
    split
    · exact .inl rfl
    · rcases hsm b hb with h | h
      · exact .inr (.inl h)
      · exact .inr (.inr h)
theorem WInv.pop {h : Nat} {y : Option Addr × Nat × Nat} (H : WInv X kids hf I L sn1 sn (P ++ [(h, y, [])]) false r) (hIL : I < L) : WInv X kids hf I L sn1 (Qcb sn h L) P false r ∧ todo xs I L (Qcb sn h L) P < todo xs I L sn (P ++ [(h, y, [])]) := by
  have hXh : X h := (H.inX (h, y, []) (by simp)).1
  have hnd := H.nd
  rw [List.map_append, List.nodup_append] at hnd
  have hhP : h ∉ P.map Prod.fst := fun hm => hnd.2.2 h hm h (by simp) rfl
  have hsh : sn h = I := (H.ins h hXh).2 (by simp)
  obtain ⟨p1, ⟨rk, p2⟩, p3⟩ := H.no rfl
  rw [Qcf] at p1
  refine ⟨⟨fun x hx' => H.inX x (by simp [hx']), fun b hb => ?_, hnd.1, fun b hb e => ?_, (fun h => by cases h), fun _ => ?_, fun b hb => ?_⟩, ?_⟩
  · have h9 := H.ins b hb
    unfold Qcb
    by_cases e : b = h
    · subst e
      simp only [if_true]
      exact ⟨fun e2 => by omega, fun hm => absurd hm hhP⟩
    · rw [if_neg e, h9]
      simp [e]
  · unfold Qcb
    split
    · rfl
    · exact H.keep b hb e
  · rw [Jdc hXh]
    refine ⟨p1.pop, p2.pop p1 (fun hl => ?_), ?_⟩
    · have := hl.2
      omega
    · rcases p3 with p3 | p3
      · cases P with
        | nil =>
          simp only [List.nil_append, List.map_cons, List.map_nil, List.head?_cons, Option.some.injEq] at p3
          exact .inr ⟨rfl, by simp [Qcb, p3]⟩
        | cons e P' => exact .inl (by simpa using p3)
      · exact absurd p3.1 (by simp)
  · unfold Qcb
    split
    · exact .inr (.inl rfl)
    · exact H.small b hb
  · unfold todo
    have e9 : (xs.filter fun b => decide (Qcb sn h L b ≠ I ∧ Qcb sn h L b ≠ L)) = (xs.filter fun b => decide (sn b ≠ I ∧ sn b ≠ L)) := by
      apply List.filter_congr
      intro b _
      unfold Qcb
      by_cases e : b = h
      · subst e; simp [hsh]
      · simp [e]
    rw [e9]
    simp
theorem WInv.skip {h k : Nat} {y z : Option Addr × Nat × Nat} {rest : List Nat} (H : WInv X kids hf I L sn1 sn (P ++ [(h, y, k :: rest)]) false r) (hk : sn (hf k) = L) (hX : X (hf k)) : WInv X kids hf I L sn1 sn (P ++ [(h, z, rest)]) false r ∧ todo xs I L sn (P ++ [(h, z, rest)]) < todo xs I L sn (P ++ [(h, y, k :: rest)]) := by
  obtain ⟨p1, p2, p3⟩ := H.no rfl
  rw [Qcf] at p1
  have hm : (P ++ [(h, z, rest)]).map Prod.fst = (P ++ [(h, y, k :: rest)]).map Prod.fst := by simp
  refine ⟨⟨fun x hx => ?_, by rw [hm]; exact H.ins, by rw [hm]; exact H.nd, H.keep, (fun h => by cases h), fun _ => ⟨?_, p2, .inl (by rw [hm]; exact p3.resolve_right fun h9 => by simp at h9)⟩, H.small⟩, ?_⟩
  · rcases List.mem_append.1 hx with hx | hx
    · exact H.inX x (by simp [hx])
    · simp only [List.mem_singleton] at hx
      subst hx
      have h9 := H.inX (h, y, k :: rest) (by simp)
      exact ⟨h9.1, fun j hj => h9.2 j (by simp [hj])⟩
  · rw [Qcf]
    exact p1.skip ⟨hX, hk⟩
  · unfold todo
    simp
theorem WInv.push {h k : Nat} {y z v : Option Addr × Nat × Nat} {rest : List Nat} (H : WInv X kids hf I L sn1 sn (P ++ [(h, y, k :: rest)]) false r) (hIL : I < L) (hX : X (hf k)) (hkX : ∀ j ∈ kids (hf k), X j) (hkl : (kids (hf k)).length ≤ 20000) (h1 : sn (hf k) ≠ I) (h2 : sn (hf k) ≠ L) (hx : ∀ b, X b → b ∈ xs) : WInv X kids hf I L sn1 (Qcb sn (hf k) I) (P ++ [(h, z, rest)] ++ [(hf k, v, kids (hf k))]) false r ∧ todo xs I L (Qcb sn (hf k) I) (P ++ [(h, z, rest)] ++ [(hf k, v, kids (hf k))]) < todo xs I L sn (P ++ [(h, y, k :: rest)]) := by
  obtain ⟨p1, p2, p3⟩ := H.no rfl
  rw [Qcf] at p1
  have hm : (P ++ [(h, z, rest)]).map Prod.fst = (P ++ [(h, y, k :: rest)]).map Prod.fst := by simp
  have hnm : hf k ∉ (P ++ [(h, y, k :: rest)]).map Prod.fst := fun e => h1 ((H.ins (hf k) hX).2 e)
  refine ⟨⟨fun x hx => ?_, fun b hb => ?_, ?_, fun b hb e => ?_, (fun h => by cases h), fun _ => ?_, fun b hb => ?_⟩, ?_⟩
  · rcases List.mem_append.1 hx with hx | hx
    · rcases List.mem_append.1 hx with hx | hx
      · exact H.inX x (by simp [hx])
      · simp only [List.mem_singleton] at hx
        subst hx
        have h9 := H.inX (h, y, k :: rest) (by simp)
        exact ⟨h9.1, fun j hj => h9.2 j (by simp [hj])⟩
    · simp only [List.mem_singleton] at hx
      subst hx
      exact ⟨hX, hkX⟩
  · rw [List.map_append, hm, List.mem_append]
    unfold Qcb
    by_cases e : b = hf k
    · subst e
      simp
    · rw [if_neg e, H.ins b hb]
      simp [e]
  · rw [List.map_append, hm, List.nodup_append]
    refine ⟨H.nd, by simp, fun a ha b hb => ?_⟩
    simp only [List.map_cons, List.map_nil, List.mem_singleton] at hb
    subst hb
    exact fun e => hnm (e ▸ ha)
  · unfold Qcb
    have h9 := H.keep b hb e
    have : b ≠ hf k := fun e2 => h2 (e2 ▸ h9)
    rw [if_neg this]
    exact h9
  · rw [Qws (by omega) h2, Qcf, Qcf]
    refine ⟨p1.push, p2, ?_⟩
    have p4 := p3.resolve_right fun h9 => by simp at h9
    left
    rw [List.map_append, hm, List.head?_append, p4]
    rfl
  · unfold Qcb
    split
    · exact .inl rfl
    · exact H.small b hb
  · unfold todo
    have h9 := Qrl (xs := xs) (p := fun b => decide (sn b ≠ I ∧ sn b ≠ L)) (q := fun b => decide (Qcb sn (hf k) I b ≠ I ∧ Qcb sn (hf k) I b ≠ L)) (fun b hb => ?_) (hx _ hX) (by simp [h1, h2]) (by simp [Qcb])
    · simp only [List.map_append, List.sum_append, List.map_cons, List.map_nil, List.sum_cons, List.sum_nil, List.length_cons]
      omega
    · simp only [decide_eq_true_eq] at hb ⊢
      unfold Qcb at hb
      by_cases e : b = hf k
      · subst e; simp at hb
      · simpa [e] using hb
theorem WInv.circle {h k : Nat} {y z : Option Addr × Nat × Nat} {rest : List Nat} (H : WInv X kids hf I L sn1 sn (P ++ [(h, y, k :: rest)]) false r) (hk : sn (hf k) = I) (hX : X (hf k)) : WInv X kids hf I L sn1 sn (P ++ [(h, z, rest)]) true r := by
  obtain ⟨p1, p2, p3⟩ := H.no rfl
  rw [Qcf] at p1
  have hm : (P ++ [(h, z, rest)]).map Prod.fst = (P ++ [(h, y, k :: rest)]).map Prod.fst := by simp
  have hpath : ∀ {q : Nat}, q ∈ (P ++ [(h, y, k :: rest)]).map Prod.fst → q = h ∨ q ∈ (Qlm P).map Prod.fst := by
    intro q h9
    simp only [List.map_append, List.map_cons, List.map_nil, List.mem_append, List.mem_singleton] at h9
    rcases h9 with h9 | h9
    · right
      unfold Qlm
      simp only [List.map_map, List.mem_map, List.mem_reverse, Function.comp_apply]
      obtain ⟨a, ha, e⟩ := List.mem_map.1 h9
      exact ⟨a, ha, e⟩
    · exact .inl h9
  refine ⟨fun x hx => ?_, by rw [hm]; exact H.ins, by rw [hm]; exact H.nd, H.keep, fun _ => ⟨hf k, p1.reach (hpath (List.mem_of_head? (p3.resolve_right fun h9 => by simp at h9))), p1.circle (hpath ((H.ins (hf k) hX).1 hk))⟩, (fun h => by cases h), H.small⟩
  · rcases List.mem_append.1 hx with hx | hx
    · exact H.inX x (by simp [hx])
    · simp only [List.mem_singleton] at hx
      subst hx
      have h9 := H.inX (h, y, k :: rest) (by simp)
      exact ⟨h9.1, fun j hj => h9.2 j (by simp [hj])⟩
end
end Go.Proofs.YtoiiibplkhedcaaGreatDoor
