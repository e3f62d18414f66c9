
import Derived.Test.YtocidoamfofefaaSLev
import Derived.Test.YtocidoamfofefaaYAG
import Derived.Maps.OwnSet
import Derived.Maps.OwnOps
import Derived.Maps.OwnIn
namespace Go.Proofs.Ytocidoamfofefaa
open Go.RowKit Go.Shelf Go.Maps
attribute [local go_sem] Oper.semAt_some

/-- The level of a number; 0 where it has none. -/
def sgAt (met : List Int) (x : Int) : Int := if lastTo met x met.length = -1 then 0 else -1 - lastTo met x met.length

theorem lastTo_pre (met : List Int) (y x : Int) (k : Nat) (hk : k ≤ met.length) : lastTo (met ++ [y]) x k = lastTo met x k := by
  induction k with
  | zero => rfl
  | succ k ih =>
    unfold lastTo
    rw [ih (by omega), List.getElem?_append_left (by omega)]

theorem lastTo_snoc (met : List Int) (y x : Int) : lastTo (met ++ [y]) x (met ++ [y]).length = if y = x then (met.length : Int) else lastTo met x met.length := by
  have e : (met ++ [y]).length = met.length + 1 := by simp
  rw [e]
  show (if (met ++ [y])[met.length]? = some x then (met.length : Int) else lastTo (met ++ [y]) x met.length) = _
  rw [lastTo_pre met y x met.length (Nat.le_refl _)]
  simp

/-- The map of levels, as a datum. -/
def SgD (met : List Int) (D : DataW Unit) : Prop :=
  Tidy D ∧ Maps.size D = met.length ∧ ∀ x : Int, Maps.has D (.int .i64 x) = !(lastTo met x met.length == -1) ∧ D.atKey (.int .i64 x) (.lit (.int .i32 0)) = .lit (.int .i32 (sgAt met x))

theorem SgD.start : SgD [] (.map []) := ⟨tidy_empty, rfl, fun _ => ⟨rfl, rfl⟩⟩

theorem SgD.store {met : List Int} {D : DataW Unit} (h : SgD met D) (x : Int) (hx : lastTo met x met.length = -1) :
    SgD (met ++ [x]) (D.put (.int .i64 x) (.lit (.int .i32 (-1 - (met.length : Int))))) := by
  obtain ⟨h1, h2, h3⟩ := h
  have hkl : ∀ z : Int, WideAt.IsKeyLit (.int .i64 z) := fun _ => trivial
  refine ⟨h1.put (hkl x) _, ?_, ?_⟩
  · rw [size_put h1, (h3 x).1, hx]
    simp [h2]
  · intro y
    by_cases hy : y = x
    · subst hy
      refine ⟨?_, ?_⟩
      · rw [has_put_same h1.isMap (hkl y), lastTo_snoc, if_pos rfl]
        simp
      · rw [atKey_put_same h1.isMap (hkl y)]
        unfold sgAt
        rw [lastTo_snoc, if_pos rfl, if_neg (by omega)]
    · have hne : (Lit.int .i64 y) ≠ (Lit.int .i64 x) := fun h => hy (by simpa using h)
      have hxy : ¬ x = y := fun e => hy e.symm
      refine ⟨?_, ?_⟩
      · rw [has_put_other hne, (h3 y).1, lastTo_snoc, if_neg hxy]
      · rw [atKey_put_other hne, (h3 y).2]
        unfold sgAt
        rw [lastTo_snoc, if_neg hxy]

theorem Try.law2S : Keyed Try.prog 2 := int_keyed Try.underlying2
theorem Try.zeroS (w : World) : (zeroValue 58).run Try.prog w = .ok (.int .i32 0) w := by kernel_rfl

theorem ownsS_same {P : Program} {k : TypeId} {H : Type} {R : Value → Option (DataW H × List MemPlace)} {w w' : World} {b n : Nat} {D : DataW H} (h : w.ownsMap P k R b n D) (e : w'.heap[b]? = w.heap[b]?) : w'.ownsMap P k R b n D := by
  obtain ⟨es, clock, hb, F, hs, hD⟩ := h
  exact ⟨es, clock, e.trans hb, F, hs, hD⟩

theorem butB {B : Nat} {a b : World} (h : Below B a b) : But (B ≤ ·) a b := ⟨h.os, h.tape, h.output, h.size, fun i _ hn => h.block i (by omega)⟩

def encPN (x : Nat × Nd) : Array Value := #[.int .i64 (x.1 : Int), .agg #[.int .i64 x.2.kind, .int .i64 x.2.num, .string x.2.text, .int .i64 x.2.kids, .int .i64 x.2.place]]

/-- What Backward reads of its caller's memory in each round. -/
def ReadsN (q : Nat) (ao : Option Addr) (cap Bb : Nat) (t : List Nd) (A : World) : Prop := A.heap[Bb]? = some (.cells #[.slice ao q cap] 25 (0, 0)) ∧ Nodes A ao t

set_option maxRecDepth 100000 in
set_option maxHeartbeats 2000000 in
theorem backwardN1_any (q : Nat) (hq : q ≤ 1048576) (ao : Option Addr) (cap Bb : Nat) (t : List Nd) (HP : Hid (t.length = q)) (n₀ n : Nat) (w : World) :
    Iter Fence.wide n Try.prog 82 #[.pointer (some ⟨Bb, 0, none⟩)] encPN (fun xs => xs.length = q) (fun _ => True) (fun pre x => x.1 + 1 + pre.length = q ∧ t[x.1]? = some x.2) (ReadsN q ao cap Bb t) q n₀ w := by
  intro J Jx hJ hRd hY W hW hWs h0
  obtain ⟨hbx, _⟩ := hRd _ _ h0
  have hc : W.cell? ⟨Bb, 0, none⟩ = some (.slice ao q cap) := by rw [cell_of_row _ _ _ _ _ _ hbx]; rfl
  refine callsIn_of_wp Try.func82 rfl trivial ?_
  simp only [Try.ntmps82, List.size_toArray, List.length_cons, List.length_nil, Nat.reduceAdd, Nat.reduceSub, Array.replicate_succ, Array.replicate_zero, List.push_toArray, List.append_toArray, List.nil_append, List.cons_append]
  gi_wp2
  clear hbx hc
  gi_loopw [3] (fun p wr => ∃ (r : Nat) (pre : List (Nat × Nd)), p = .int .i64 ((r : Int) - 1) ∧ r + pre.length = q ∧ J pre wr) (fun p _ => (intOf p + 1).toNat)
  case atStart => exact ⟨q, [], rfl, by simp, h0⟩
  case round =>
    obtain ⟨r, pre, rfl, hr, hj⟩ := hrel
    by_cases hr0 : 0 < r
    · obtain ⟨r', rfl⟩ : ∃ r', r = r' + 1 := ⟨r - 1, by omega⟩
      obtain ⟨hbx, hsp⟩ := hRd _ _ hj
      have hc : wr.cell? ⟨Bb, 0, none⟩ = some (.slice ao q cap) := by rw [cell_of_row _ _ _ _ _ _ hbx]; rfl
      have hlt : r' < t.length := by have := HP.out; omega
      obtain ⟨b, o, rfl, c0, c1, c2, c3, c4⟩ := hsp r' hlt
      have hps : t[r']? = some t[r'] := List.getElem?_eq_getElem hlt
      obtain ⟨⟨kd, nm, tx, ks, pl⟩, hs⟩ : ∃ p, t[r'] = p := ⟨_, rfl⟩
      rw [hs] at c0 c1 c2 c3 c4 hps
      simp only at c0 c1 c2 c3 c4
      obtain ⟨fn, tmps, assign, body, hy, hR⟩ := hY pre (r', ⟨kd, nm, tx, ks, pl⟩) _ hj (by omega) ⟨by show r' + 1 + pre.length = q; omega, hps⟩
      simp only [encPN] at hy
      have e1 : (((r' + 1 : Nat) : Int) - 1) = (r' : Int) := by omega
      rw [e1]
      have hrq : r' < q := by omega
      clear hsp hs hlt h0 hps hbx
      gi_wp2_with fail
      refine ⟨fun h => (by cases h), hR.mono ?_⟩
      rintro e W3 (⟨rfl, hJ3, hk3⟩ | ⟨rfl, hJx3⟩)
      · gi_wp2
        go_roundw
        case rel => exact ⟨r', pre ++ [(r', ⟨kd, nm, tx, ks, pl⟩)], by go_num, by simp; omega, hJ3⟩
        case measure => simp [intOf]
      · gi_wp2
        refine bodyPost_ret (results_none rfl _ _ _) rfl ?_
        exact ⟨⟨_, rfl⟩, .inr ⟨pre ++ [(r', ⟨kd, nm, tx, ks, pl⟩)], trivial, hJx3⟩⟩
    · have hr00 : r = 0 := by omega
      subst hr00
      gi_wp2
      go_end0
      exact ⟨⟨_, rfl⟩, .inl ⟨pre, by omega, hj⟩⟩

theorem backwardN_any (ao : Option Addr) (q cap : Nat) (w : World) :
    Calls Try.prog 69 #[.slice ao q cap] w fun e w' => e = .returned (.func (.func 82) #[] #[.pointer (some ⟨w.heap.size, 0, none⟩)]) ∧ w' = w.alloc (.cells #[.slice ao q cap] 25) := by
  go_enter Try.func69, Try.ntmps69
  go_wp2
  go_ret
  exact ⟨rfl, rfl⟩

end Go.Proofs.Ytocidoamfofefaa
