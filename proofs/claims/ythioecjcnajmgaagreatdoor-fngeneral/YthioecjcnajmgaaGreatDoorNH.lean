import Derived.Test.YthioecjcnajmgaaGreatDoorWAM
import Derived.OwnWalk
import Derived.Deep.RegionLaw
namespace Go.Proofs.YthioecjcnajmgaaGreatDoor
open Go.RowKit

set_option maxRecDepth 20000 in
set_option maxHeartbeats 2000000 in
theorem equate1_bad (X : Nat → Prop) (w : World) (a b : Nat) (eb sx sb : Nat) (t : Int) (tt : TypeId) (v : Value) (hBx : Boxes w X eb sx sb (.iface tt v) t) :
    Calls Tryz.prog 47 #[.agg #[.pointer (some ⟨a, 0, none⟩), .pointer (some ⟨b, 0, none⟩)], .pointer (some ⟨eb, 0, none⟩), .pointer (some ⟨sx, 0, none⟩)] w fun e w' => e = .returned (.slice none 0 0) ∧ Below w.heap.size w w' := by
  have qe : w.cell? ⟨eb, 0, none⟩ = some (.iface tt v) := by rw [cell_of_row _ _ _ _ 67 (0, 0) hBx.e]; rfl
  have le : eb < w.heap.size := (Array.getElem?_eq_some_iff.1 hBx.e).1
  clear hBx
  go_enter Tryz.func47, Tryz.ntmps47
  go_wp2
  go_ret
  exact ⟨rfl, (Below.refl _ _).alloc (Nat.le_refl _) _⟩

/-- The least number that something holds of. -/
theorem least {P : Nat → Prop} : ∀ n, P n → ∃ m, P m ∧ ∀ k, k < m → ¬ P k := by
  intro n
  induction n using Nat.strongRecOn with
  | ind n ih =>
    intro h
    by_cases h9 : ∃ k, k < n ∧ P k
    · obtain ⟨k, hk, hP⟩ := h9
      exact ih k hk hP
    · exact ⟨n, h, fun k hk hP => h9 ⟨k, hk, hP⟩⟩

theorem mu_ex : ∃ mu : (Nat → Prop) → Nat, ∀ (P : Nat → Prop) (n : Nat), P n → P (mu P) ∧ mu P ≤ n := by
  classical
  refine ⟨fun P => if h : ∃ n, P n then Classical.choose (least _ (Classical.choose_spec h)) else 0, fun P n h => ?_⟩
  have h1 : ∃ n, P n := ⟨n, h⟩
  have h2 := Classical.choose_spec (least _ (Classical.choose_spec h1))
  simp only [dif_pos h1]
  exact ⟨h2.1, Nat.le_of_not_lt (fun hlt => h2.2 n hlt h)⟩

theorem but_grownP {w w' : World} {g : Nat} (h : w.grownBy w' (some g)) : But (· = g) w w' :=
  ⟨h.os, h.tape, h.output, h.size, fun i hi hne => h.block i hi (by simpa using hne)⟩

section
variable {P : Program} (w : World)
/-- append of a slice that may be nil to one of the call's own. -/
theorem wp_appendO {o : Oper} {a : Act} {K : Act → World → Prop} {Q : Exit → Act → World → Prop} (s x : Operand) (t : TypeId)
    (ho : o.op = .call { callee := .builtin .append, args := #[s, x], argTypes := #[t, t] })
    (base : Nat) (e : TypeId) (i : TypeInfo) (z : Value) (size bytes : Nat) (ht : P.underlying t = some (.slice e)) (hi : P.info? e = some i) (hz : i.zero = some z)
    (hsize : i.size = size) (hby : i.bytes = bytes) (hzs : z.cells.size = size) (hsz : 0 < size)
    (g n cap : Nat) (xs : List Value) (hs : a.eval s = .slice (some ⟨g, 0, none⟩) n cap) (hown : w.ownsRow base e size (.slice (some ⟨g, 0, none⟩) n cap) n xs)
    (ao : Option Addr) (m c : Nat) (news : List Value) (hx : a.eval x = .slice ao m c) (hl : news.length = m * size) (hnone : ao = none → m = 0 ∧ c = 0) (hnews : ∀ ad, ao = some ad → ∀ j u, news[j]? = some u → w.cell? (ad.add j) = some u) (h1 : ∀ u ∈ news, u.oneCell' = true)
    (h63 : n + m ≤ maxLen) (hbytes : (n + m) * bytes ≤ 140737488355328) (hbase : base ≤ w.heap.size)
    (h : ∀ g' cap' w', w'.ownsRow base e size (.slice (some ⟨g', 0, none⟩) (n + m) cap') (n + m) (xs ++ news) → w.grownBy w' (some g) → K (a.put o.dst (.slice (some ⟨g', 0, none⟩) (n + m) cap')) w') : o.wp P a w K Q := by
  cases ao with
  | some ad => exact wp_append2 w s x t ho base e i z size bytes ht hi hz hsize hby hzs hsz g n cap xs hs hown ad m c news hx hl (hnews ad rfl) h1 h63 hbytes hbase (fun g' cap' w' a1 a2 _ => h g' cap' w' a1 a2)
  | none =>
    obtain ⟨rfl, rfl⟩ := hnone rfl
    have hne : news = [] := List.eq_nil_of_length_eq_zero (by simpa using hl)
    subst hne
    have hrun := run_append_owned_none (P := P) w base t o.type e i size ht hi _ n xs hown
    unfold Oper.wp
    simp [execOp, ho, resolve, invoke, builtin, hs, hx, hrun, Result.andThen]
    exact h g cap w (by simpa using hown) (World.grownBy.refl _ _)

/-- .. in a region that draws its order. -/
theorem step_appendO {ops : Array Oper} {o : Oper} {a : Act} {K : Act → World → Prop} {Q : Exit → Act → World → Prop} {E : Prop} (hgd : o.guard = none) (s x : Operand) (t : TypeId)
    (ho : o.op = .call { callee := .builtin .append, args := #[s, x], argTypes := #[t, t] })
    (base : Nat) (e : TypeId) (i : TypeInfo) (z : Value) (size bytes : Nat) (ht : P.underlying t = some (.slice e)) (hi : P.info? e = some i) (hz : i.zero = some z)
    (hsize : i.size = size) (hby : i.bytes = bytes) (hzs : z.cells.size = size) (hsz : 0 < size)
    (g n cap : Nat) (xs : List Value) (hs : a.eval s = .slice (some ⟨g, 0, none⟩) n cap) (hown : w.ownsRow base e size (.slice (some ⟨g, 0, none⟩) n cap) n xs)
    (ao : Option Addr) (m c : Nat) (news : List Value) (hx : a.eval x = .slice ao m c) (hl : news.length = m * size) (hnone : ao = none → m = 0 ∧ c = 0) (hnews : ∀ ad, ao = some ad → ∀ j u, news[j]? = some u → w.cell? (ad.add j) = some u) (h1 : ∀ u ∈ news, u.oneCell' = true)
    (h63 : n + m ≤ maxLen) (hbytes : (n + m) * bytes ≤ 140737488355328) (hbase : base ≤ w.heap.size)
    (h : ∀ g' cap' w', w'.ownsRow base e size (.slice (some ⟨g', 0, none⟩) (n + m) cap') (n + m) (xs ++ news) → w.grownBy w' (some g) → K (a.put o.dst (.slice (some ⟨g', 0, none⟩) (n + m) cap')) w') :
    if Region.wanted o (yielded ops a.tmps) = true then Oper.wp P o a w K Q else E := by
  have hw : Region.wanted o (yielded ops a.tmps) = true := by simp [Region.wanted, hgd]
  rw [if_pos hw]
  exact wp_appendO w s x t ho base e i z size bytes ht hi hz hsize hby hzs hsz g n cap xs hs hown ao m c news hx hl hnone hnews h1 h63 hbytes hbase h
end

theorem Boxes.aside {w w' : World} {X : Nat → Prop} {eb sx sb : Nat} {ev : Value} {t : Int} (h : Boxes w X eb sx sb ev t) {g : Nat} (hb : But (· = g) w w') (h1 : eb ≠ g) (h2 : sx ≠ g) (h3 : sb ≠ g) : Boxes w' X eb sx sb ev t := by
  have l1 : eb < w.heap.size := (Array.getElem?_eq_some_iff.1 h.e).1
  have l2 : sx < w.heap.size := (Array.getElem?_eq_some_iff.1 h.s).1
  exact ⟨(hb.block eb l1 h1).trans h.e, (hb.block sx l2 h2).trans h.s, (hb.cellB (lt_of_cell h.now) h3).trans h.now, h.eX, h.sX, h.bX, h.es, h.eb'⟩

theorem owns_tag {w : World} {base : Nat} {e : TypeId} {size g n cap : Nat} {xs : List Value} (h : w.ownsRow base e size (.slice (some ⟨g, 0, none⟩) n cap) n xs) : n ≤ cap ∧ ∃ cur, w.heap[g]? = some (.cells cur e (0, 0)) := by
  rcases h.2 with ⟨h', _⟩ | ⟨g2, cap2, cur, he, hb, hh, hnc, _⟩
  · cases h'
  · simp only [Value.slice.injEq, Option.some.injEq, Addr.mk.injEq, and_true, true_and] at he
    obtain ⟨rfl, rfl⟩ := he
    exact ⟨hnc, cur, hh⟩

theorem pcells_take (Q : List (Nat × Nat)) (p : Nat × Nat) : (pcells (Q ++ [p])).take (Q.length * 2) = pcells Q := by
  rw [pcells_append, ← pcells_length, List.take_left]

theorem pcells_last (Q : List (Nat × Nat)) (p : Nat × Nat) : (pcells (Q ++ [p]))[Q.length * 2]? = some (.pointer (some ⟨p.1, 0, none⟩)) ∧ (pcells (Q ++ [p]))[Q.length * 2 + 1]? = some (.pointer (some ⟨p.2, 0, none⟩)) := by
  rw [pcells_append, ← pcells_length]
  constructor
  · rw [List.getElem?_append_right (Nat.le_refl _)]
    simp [pcells]
  · rw [List.getElem?_append_right (by omega)]
    simp [pcells]

/-- What a look at the last pair leaves: Q is what was in front of it, P what comes to it. -/
def After (X : Nat → Prop) (f : Nat → CC) (lk : Nat → Option Nat) (K : (Option Addr × Nat × Nat) → List Nat) (eb sx sb : Nat) (t : Int) (a b N M : Nat) (Q P : List (Nat × Nat)) (w w' : World) : Prop :=
  But (fun i => X i ∨ i = eb) w w' ∧ (∀ p ∈ P, X p.1 ∧ X p.2) ∧ Q.length + P.length ≤ N ∧
    ((Boxes w' X eb sx sb .nilIface t ∧ ∃ (f' : Nat → CC) (lk' : Nat → Option Nat) (d' : Nat → Nat) (rt' : List Nat), CSto w' X f' lk' d' K ∧ rt'.length * 20001 + (Q.length + P.length) < M ∧ (Q.length + P.length) + rt'.length * 20000 ≤ N ∧ (∀ i, X i → lk' i = none → i ∈ rt') ∧ Ties X t f lk f' lk' ∧ ∀ θ, (SatC X (gc K f') lk' θ ∧ ∀ p ∈ Q ++ P, θ p.1 = θ p.2) ↔ (SatC X (gc K f) lk θ ∧ θ a = θ b)) ∨
     (Q.length + P.length < M ∧ (∃ v, Boxes w' X eb sx sb (.iface 123 (.pointer (some v))) t) ∧ (∃ f' lk' d', CSto w' X f' lk' d' K ∧ Ties X t f lk f' lk') ∧ ∀ θ, SatC X (gc K f) lk θ → θ a ≠ θ b))

/-- The worklist of equate: pairs that are still to be equated, and what has been reached; or a fault. -/
def Work (X : Nat → Prop) (f : Nat → CC) (lk : Nat → Option Nat) (K : (Option Addr × Nat × Nat) → List Nat) (eb sx sb : Nat) (t : Int) (a b B N : Nat) (w : World) (v : Value) (wr : World) (n : Nat) : Prop :=
  ∃ (k g c : Nat) (Q : List (Nat × Nat)), v = .slice (some ⟨g, 0, none⟩) k c ∧ k ≤ N ∧ wr.ownsRow B 98 2 (.slice (some ⟨g, 0, none⟩) k c) k (pcells Q) ∧ Q.length = k ∧ But (fun i => X i ∨ i = eb ∨ B ≤ i) w wr ∧ (∀ p ∈ Q, X p.1 ∧ X p.2) ∧
    ((Boxes wr X eb sx sb .nilIface t ∧ ∃ (f' : Nat → CC) (lk' : Nat → Option Nat) (d' : Nat → Nat) (rt' : List Nat), CSto wr X f' lk' d' K ∧ n = rt'.length * 20001 + k ∧ k + rt'.length * 20000 ≤ N ∧ (∀ i, X i → lk' i = none → i ∈ rt') ∧ Ties X t f lk f' lk' ∧ ∀ θ, (SatC X (gc K f') lk' θ ∧ ∀ p ∈ Q, θ p.1 = θ p.2) ↔ (SatC X (gc K f) lk θ ∧ θ a = θ b)) ∨
     (n = k ∧ (∃ v, Boxes wr X eb sx sb (.iface 123 (.pointer (some v))) t) ∧ (∃ f' lk' d', CSto wr X f' lk' d' K ∧ Ties X t f lk f' lk') ∧ ∀ θ, SatC X (gc K f) lk θ → θ a ≠ θ b))

set_option maxRecDepth 20000 in
set_option maxHeartbeats 4000000 in
theorem untilP_any (X : Nat → Prop) (f : Nat → CC) (lk : Nat → Option Nat) (K : (Option Addr × Nat × Nat) → List Nat) (eb sx sb : Nat) (t : Int) (a b B N : Nat) (hN : N ≤ 1099511627776) (w : World) (g0 n0 : Nat) (hXB : ∀ i, X i → i < B) (heB : eb < B) (hsB : sx < B) (hbB : sb < B)
    (hW : Work X f lk K eb sx sb t a b B N w (.slice (some ⟨g0, 0, none⟩) 1 1) w n0) :
    Calls Tryz.prog 46 #[.slice (some ⟨g0, 0, none⟩) 1 1, .func (.func 47) #[] #[.pointer (some ⟨eb, 0, none⟩), .pointer (some ⟨sx, 0, none⟩)]] w fun e w' => e = .returned (.tuple #[]) ∧ ∃ v n, Work X f lk K eb sx sb t a b B N w v w' n ∧ lenOf v = 0 := by
  obtain ⟨mu, hmu⟩ := mu_ex
  obtain ⟨i0, hi, hz0, hz1, hz2⟩ := info_parts Tryz.infoP
  go_enter Tryz.func46, Tryz.ntmps46
  go_wp2
  go_loopw [0] (fun v wr => ∃ n, Work X f lk K eb sx sb t a b B N w v wr n) (fun v wr => mu (fun n => Work X f lk K eb sx sb t a b B N w v wr n))
  case atStart => exact ⟨n0, hW⟩
  case round =>
    clear hW
    obtain ⟨n1, hn1⟩ := hrel
    obtain ⟨hn, hle⟩ := hmu _ _ hn1
    clear hn1 hle
    obtain ⟨M, hM⟩ : ∃ M, mu (fun n => Work X f lk K eb sx sb t a b B N w u0 wr n) = M := ⟨_, rfl⟩
    have HM : Hid (mu (fun n => Work X f lk K eb sx sb t a b B N w u0 wr n) = M) := hM
    rw [hM] at hn
    clear hM
    have HW := hn
    obtain ⟨k, g, c, Q, rfl, hk, hown, hQ, hB, hQX, hst⟩ := hn
    by_cases hk0 : k = 0
    · subst hk0
      clear hst hown hB HM
      go_wp2
      go_end0
      exact ⟨rfl, _, M, HW, rfl⟩
    · obtain ⟨k', rfl⟩ : ∃ k', k = k' + 1 := ⟨k - 1, by omega⟩
      obtain ⟨Q', p, rfl⟩ : ∃ Q' p, Q = Q' ++ [p] := ⟨Q.dropLast, Q.getLast (by rintro rfl; simp at hQ), (List.dropLast_concat_getLast _).symm⟩
      have hQ' : Q'.length = k' := by simpa using hQ
      obtain ⟨hkc, cur, hcur⟩ := owns_tag hown
      have hob := owns_block hown
      obtain ⟨l0, l1⟩ := pcells_last Q' p
      have c0 : wr.cell? ⟨g, k' * 2, none⟩ = some (.pointer (some ⟨p.1, 0, none⟩)) := by
        rw [owns_at hown (k' * 2) (by omega), ← hQ']
        exact l0
      have c1 : wr.cell? ⟨g, k' * 2 + 1, none⟩ = some (.pointer (some ⟨p.2, 0, none⟩)) := by
        rw [owns_at hown (k' * 2 + 1) (by omega), ← hQ']
        exact l1
      have ht := owns_take hown k' (by omega)
      rw [← hQ', pcells_take, hQ'] at ht
      obtain ⟨x, y⟩ := p
      simp only at c0 c1
      have hXx : X x := (hQX (x, y) (by simp)).1
      have hXy : X y := (hQX (x, y) (by simp)).2
      have hQX' : ∀ p ∈ Q', X p.1 ∧ X p.2 := fun p hp => hQX p (by simp [hp])
      have hwA : Below wr.heap.size wr (wr.alloc (.cells #[.pointer (some ⟨x, 0, none⟩), .pointer (some ⟨y, 0, none⟩)] 98)).drew := ((Below.refl _ wr).alloc (Nat.le_refl _) _).drew
      have hwB : But X wr (wr.alloc (.cells #[.pointer (some ⟨x, 0, none⟩), .pointer (some ⟨y, 0, none⟩)] 98)).drew := But.ofBelow hwA
      have hwF : But (fun _ => False) wr (wr.alloc (.cells #[.pointer (some ⟨x, 0, none⟩), .pointer (some ⟨y, 0, none⟩)] 98)).drew := But.ofBelow hwA
      have HCALL : Hid (Calls Tryz.prog 47 #[.agg #[.pointer (some ⟨x, 0, none⟩), .pointer (some ⟨y, 0, none⟩)], .pointer (some ⟨eb, 0, none⟩), .pointer (some ⟨sx, 0, none⟩)] (wr.alloc (.cells #[.pointer (some ⟨x, 0, none⟩), .pointer (some ⟨y, 0, none⟩)] 98)).drew fun e w' =>
          ∃ s1 s2 s3 P, e = .returned (.slice s1 s2 s3) ∧ (s1 = none → s2 = 0 ∧ s3 = 0) ∧ P.length = s2 ∧ s2 ≤ 20000 ∧ (∀ ad, s1 = some ad → ∀ j u, (pcells P)[j]? = some u → w'.cell? (ad.add j) = some u) ∧ After X f lk K eb sx sb t a b N M Q' P (wr.alloc (.cells #[.pointer (some ⟨x, 0, none⟩), .pointer (some ⟨y, 0, none⟩)] 98)).drew w') := by
        rcases hst with ⟨hBx, f', lk', d', rt', hS, hn, hN', hroots, hTi, hθ⟩ | ⟨hn, ⟨v, hBx⟩, ⟨f', lk', d', hS, hTi⟩, hno⟩
        · have hS' := hS.short (hS.cells.but hwF (fun _ _ h => h)) hS.acyc hwB
          refine (equate1_any X f' lk' d' K _ x y rt' hS' hroots hXx hXy eb sx sb t (hBx.but hwB)).mono ?_
          rintro e w' ⟨hB', hres⟩
          rcases hres with ⟨⟨s1, s2, s3⟩, P, rfl, ⟨hp1, hp2⟩, hPX, hBx', f2, lk2, d2, rt2, hS2, hrt2, hroots2, hTi2, hθ2⟩ | ⟨⟨v, rfl, hBx'⟩, ⟨f2, lk2, d2, hS2, hTi2⟩, hno⟩
          · have hs : P.length = s2 ∧ (s1 = none → s2 = 0 ∧ s3 = 0) ∧ (∀ ad, s1 = some ad → ∀ j u, (pcells P)[j]? = some u → w'.cell? (ad.add j) = some u) := by
              rcases hp2 with ⟨e1, rfl⟩ | ⟨g9, c9, e1, h9⟩
              · simp only [Prod.mk.injEq] at e1
                obtain ⟨rfl, rfl, rfl⟩ := e1
                exact ⟨rfl, fun _ => ⟨rfl, rfl⟩, (fun ad h => by cases h)⟩
              · simp only [Prod.mk.injEq] at e1
                obtain ⟨rfl, rfl, rfl⟩ := e1
                exact ⟨rfl, (fun h => by cases h), (fun ad h => by cases h; exact h9)⟩
            refine ⟨s1, s2, s3, P, rfl, hs.2.1, hs.1, by rw [← hs.1]; exact hp1, hs.2.2, hB', hPX, ?_, .inl ⟨hBx', f2, lk2, d2, rt2, hS2, ?_, ?_, hroots2, hTi.trans hTi2, fun θ => ?_⟩⟩
            · rcases hrt2 with h9 | ⟨rfl, h9⟩
              · have : (rt2.length + 1) * 20000 ≤ rt'.length * 20000 := Nat.mul_le_mul_right _ h9
                omega
              · simp only [List.length_nil]; omega
            · rcases hrt2 with h9 | ⟨rfl, h9⟩
              · have : (rt2.length + 1) * 20001 ≤ rt'.length * 20001 := Nat.mul_le_mul_right _ h9
                omega
              · have : rt2.length * 20001 ≤ rt'.length * 20001 := Nat.mul_le_mul_right _ h9
                simp only [List.length_nil]; omega
            · rcases hrt2 with h9 | ⟨rfl, h9⟩
              · have : (rt2.length + 1) * 20000 ≤ rt'.length * 20000 := Nat.mul_le_mul_right _ h9
                omega
              · have : rt2.length * 20000 ≤ rt'.length * 20000 := Nat.mul_le_mul_right _ h9
                simp only [List.length_nil]; omega
            · rw [← hθ θ]
              have h8 := hθ2 θ
              constructor
              · rintro ⟨h1, h2⟩
                obtain ⟨h3, h4⟩ := h8.1 ⟨h1, fun p hp => h2 p (by simp [hp])⟩
                refine ⟨h3, fun p hp => ?_⟩
                rcases List.mem_append.1 hp with hp | hp
                · exact h2 p (by simp [hp])
                · simp only [List.mem_cons, List.not_mem_nil, or_false] at hp
                  subst hp
                  exact h4
              · rintro ⟨h1, h2⟩
                obtain ⟨h3, h4⟩ := h8.2 ⟨h1, h2 (x, y) (by simp)⟩
                refine ⟨h3, fun p hp => ?_⟩
                rcases List.mem_append.1 hp with hp | hp
                · exact h2 p (by simp [hp])
                · exact h4 p hp
          · refine ⟨none, 0, 0, [], rfl, fun _ => ⟨rfl, rfl⟩, rfl, by omega, (fun ad h => by cases h), hB', by simp, by simp only [List.length_nil]; omega, .inr ⟨by simp only [List.length_nil]; omega, ⟨v, hBx'⟩, ⟨f2, lk2, d2, hS2, hTi.trans hTi2⟩, fun θ h1 h2 => ?_⟩⟩
            obtain ⟨h3, h4⟩ := (hθ θ).2 ⟨h1, h2⟩
            exact hno θ h3 (h4 (x, y) (by simp))
        · refine (equate1_bad X _ x y eb sx sb t _ _ (hBx.but hwB)).mono ?_
          rintro e w' ⟨rfl, hb'⟩
          have hS' := hS.short (hS.cells.but hwF (fun _ _ h => h)) hS.acyc hwB
          have hb9 : But (fun _ => False) _ w' := But.ofBelow hb'
          exact ⟨none, 0, 0, [], rfl, fun _ => ⟨rfl, rfl⟩, rfl, by omega, (fun ad h => by cases h), But.ofBelow hb', by simp, by simp only [List.length_nil]; omega, .inr ⟨by simp only [List.length_nil]; omega, ⟨v, (hBx.but hwB).but (But.ofBelow hb')⟩, ⟨f', lk', d', hS'.short (hS'.cells.but hb9 (fun _ _ h => h)) hS'.acyc (hb9.mono (fun _ h => h.elim)), hTi⟩, hno⟩⟩
      have hgX : ¬ X g := fun h => by have := hXB g h; omega
      have hge : g ≠ eb := by omega
      have HOWN : Hid (∀ w' : World, But (fun i => X i ∨ i = eb) (wr.alloc (.cells #[.pointer (some ⟨x, 0, none⟩), .pointer (some ⟨y, 0, none⟩)] 98)).drew w' → w'.ownsRow B 98 2 (.slice (some ⟨g, 0, none⟩) k' c) k' (pcells Q') ∧ B ≤ w'.heap.size) := by
        intro w' hb'
        have h1 := owns_but ht hwF (fun h => h)
        have h2 := owns_but h1 hb' (by rintro (h | h); exact hgX h; exact hge h)
        have h3 := hb'.size
        have h4 := hwF.size
        exact ⟨h2, by omega⟩
      have HWB : Hid (But X wr (wr.alloc (.cells #[.pointer (some ⟨x, 0, none⟩), .pointer (some ⟨y, 0, none⟩)] 98)).drew) := hwB
      have HBW : Hid (But (fun i => X i ∨ i = eb ∨ B ≤ i) w wr) := hB
      have hgl : g < wr.heap.size := hob.2
      have HQX : Hid (∀ p ∈ Q', X p.1 ∧ X p.2) := hQX'
      have HXB : Hid (∀ i, X i → i < B) := hXB
      have hkk : k' + 1 ≤ N := hk
      have hkc2 : k' ≤ c := by omega
      have HQL : Hid (Q'.length = k') := hQ'
      clear hst hown hB hQX hQX' hwA hwB hwF l0 l1 ht hcur HW hQ hQ' hXB
      go_wp2_with fail
      go_region_law (first
        | (go_simp; refine HCALL.out.mono ?_; rintro e w4 ⟨s1, s2, s3, P, rfl, hs1, hs2, hs3, hs4, haf⟩; obtain ⟨how4, hsz4⟩ := HOWN.out w4 haf.1; have hkN : Q'.length + P.length ≤ N := haf.2.2.1; rw [HQL.out, hs2] at hkN)
        | (refine step_appendO _ rfl (.tmp 18) (.tmp 21) 99 rfl B 98 i0 _ 2 16 Tryz.underlying99 hi hz0 hz1 hz2 rfl (by decide) g k' c _ rfl how4 s1 s2 s3 (pcells P) rfl ?_ hs1 hs4 (pcells_one _) ?_ ?_ hsz4 ?_; (rw [pcells_length, hs2]); (unfold maxLen; omega); omega; intro g5 c5 w5 hown5 hgrow5))
      all_goals
        have HNEXT : Hid (∃ n', n' < M ∧ Work X f lk K eb sx sb t a b B N w (.slice (some ⟨g5, 0, none⟩) (k' + s2) c5) w5 n') := by
          obtain ⟨hB4, hPX, hkN', hres⟩ := haf
          have hb5 := but_grownP hgrow5
          obtain ⟨_, cur4, hcur4⟩ := owns_tag how4
          have hown6 : w5.ownsRow B 98 2 (.slice (some ⟨g5, 0, none⟩) (k' + s2) c5) (k' + s2) (pcells (Q' ++ P)) := by
            rw [pcells_append]
            exact hown5
          have hlen : (Q' ++ P).length = k' + s2 := by rw [List.length_append, HQL.out, hs2]
          have hBB : But (fun i => X i ∨ i = eb ∨ B ≤ i) w w5 := by
            refine HBW.out.trans ((HWB.out.mono (fun _ h => .inl h)).trans ((hB4.mono ?_).trans (hb5.mono ?_)))
            · rintro i (h | h)
              · exact .inl h
              · exact .inr (.inl h)
            · rintro i rfl
              exact .inr (.inr hob.1)
          have hPX2 : ∀ p ∈ Q' ++ P, X p.1 ∧ X p.2 := fun p hp => (List.mem_append.1 hp).elim (HQX.out p) (hPX p)
          rw [HQL.out, hs2] at hres
          rcases hres with ⟨hBx, f2, lk2, d2, rt2, hS2, hn2, hN2, hroots2, hTi2, hθ2⟩ | ⟨hn2, ⟨v, hBx⟩, ⟨f2, lk2, d2, hS2, hTi2⟩, hno⟩
          · refine ⟨rt2.length * 20001 + (k' + s2), hn2, k' + s2, g5, c5, Q' ++ P, rfl, hkN, hown6, hlen, hBB, hPX2, .inl ⟨hBx.aside hb5 (by omega) (by omega) (by omega), f2, lk2, d2, rt2, hS2.aside hb5 hgX (fun cur h => ?_), rfl, hN2, hroots2, hTi2, hθ2⟩⟩
            rw [hcur4] at h
            simp at h
          · refine ⟨k' + s2, hn2, k' + s2, g5, c5, Q' ++ P, rfl, hkN, hown6, hlen, hBB, hPX2, .inr ⟨rfl, ⟨v, hBx.aside hb5 (by omega) (by omega) (by omega)⟩, ⟨f2, lk2, d2, hS2.aside hb5 hgX (fun cur h => ?_), hTi2⟩, hno⟩⟩
            rw [hcur4] at h
            simp at h
        clear haf how4 hown5 hgrow5 hs4 HOWN HCALL HBW HWB
        simp only [Act.put, List.getElem_toArray, List.getElem_cons_succ, List.getElem_cons_zero, List.setIfInBounds_toArray, List.set_cons_zero]
        obtain ⟨n', hn', hW'⟩ := HNEXT.out
        go_wp2
        go_roundw
        case rel => exact ⟨n', hW'⟩
        case measure =>
          have h1 := (hmu (fun n => Work X f lk K eb sx sb t a b B N w (.slice (some ⟨g5, 0, none⟩) (k' + s2) c5) w5 n) n' hW').2
          have h2 := HM.out
          show mu (fun n => Work X f lk K eb sx sb t a b B N w (.slice (some ⟨g5, 0, none⟩) (k' + s2) c5) w5 n) < mu (fun n => Work X f lk K eb sx sb t a b B N w (.slice (some ⟨g, 0, none⟩) (k' + 1) c) wr n)
          rw [h2]
          omega

end Go.Proofs.YthioecjcnajmgaaGreatDoor
