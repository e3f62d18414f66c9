
import Derived.Test.YtkmlfpfgiblcdabLeafSame
import Derived.Test.YtkmlfpfgiblcdabSUnk
import Derived.Test.YtkmlfpfgiblcdabSPut
import Derived.Test.YtkmlfpfgiblcdabBR
namespace Go.Proofs.Ytkmlfpfgiblcdab
open Go.RowKit

def Nd.bare (n : Nd) : Nd := ⟨n.kind, n.num, n.text, n.kids, 0⟩

theorem clean_same {t : List Nd} (h : typeb t = true) : t.map Nd.bare = t := by
  have h9 : t.all Nd.plainb = true := by simp only [typeb, Bool.and_eq_true] at h; exact h.2
  conv => rhs; rw [← List.map_id t]
  apply List.map_congr_left
  intro n hn
  have h8 := List.all_eq_true.1 h9 n hn
  simp only [Nd.plainb, Bool.and_eq_true, beq_iff_eq] at h8
  obtain ⟨kd, nm, tx, ks, pl⟩ := n
  simp only at h8
  simp [Nd.bare, h8.1]

set_option maxHeartbeats 1000000 in
theorem clean_any (xs : List Nd) (m : Nat) (HM : Hid (xs.length = m)) (hm : m ≤ 1048576) (ao : Option Addr) (cap : Nat) (w : World) (hx : Nodes w ao xs) :
    Calls Try.prog 59 #[.slice ao m cap] w fun e w' => ∃ g c, e = .returned (.slice (some ⟨g, 0, none⟩) m c) ∧ w.heap.size ≤ g ∧ Row w' g (xs.map Nd.bare) ∧ Below w.heap.size w w' := by
  obtain ⟨i0, hi, hz0, hz1, hz2⟩ := info_parts Try.infoN
  go_enter Try.func59, Try.ntmps59
  go_wp2
  go_loopw [3, 4] (fun v p wr => ∃ (k g c : Nat), k ≤ m ∧ p = .int .i64 k ∧ v = .slice (some ⟨g, 0, none⟩) k c ∧ OwnN wr w.heap.size g c k ((xs.map Nd.bare).take k) ∧ Below w.heap.size w wr) (fun _ p _ => m - (intOf p).toNat)
  case atStart => exact ⟨0, w.heap.size, 0, Nat.zero_le _, rfl, rfl, OwnN.empty (Nat.le_refl _), (Below.refl _ w).alloc (Nat.le_refl _) _⟩
  case round =>
    obtain ⟨k, g, c, hk, rfl, rfl, hown, hb⟩ := hrel
    by_cases hlt : k < m
    · have hltk : k < xs.length := by have := HM.out; omega
      obtain ⟨b, o, rfl, hn⟩ := hx.below hb k hltk
      obtain ⟨x, hxk⟩ : ∃ x, xs[k] = x := ⟨_, rfl⟩
      rw [hxk] at hn
      obtain ⟨c0, c1, c2, c3, c4⟩ := hn
      have HT : Hid ((xs.map Nd.bare).take (k + 1) = (xs.map Nd.bare).take k ++ [x.bare]) := by show (xs.map Nd.bare).take (k + 1) = _; rw [List.take_succ_eq_append_getElem (by simpa using hltk), List.getElem_map, hxk]
      have hlb : b < wr.heap.size := lt_of_cell c0
      clear hx hxk
      go_wp2_with fail
      refine (bare_any x wr).mono ?_
      rintro e w1 ⟨rfl, hb1⟩
      have hown1 := hown.below hb1
      have hbb1 := Below.step hb hb1
      have hob := owns_block hown1.2
      clear hown hb hb1 c0 c1 c2 c3 c4
      go_wp2_with (at_builtin; refine wpList_append2 _ rfl (.tmp 12) (.tmp 18) 25 rfl w.heap.size 53 i0 _ 5 48 Try.underlying25 hi hz0 hz1 hz2 rfl (by decide) g k c _ rfl (hown1.alloc _).2 ⟨_, 0, none⟩ 1 1 x.bare.row rfl rfl (nd_new_cells _ x.bare) (nd_row_one x.bare) ?a3 ?a4 ?a5 ?_)
      case a3 => unfold maxLen; omega
      case a4 => omega
      case a5 => have := hbb1.size; simp; omega
      intro g2 c2' w2 hown2 hgrow2 hwh
      have hO := OwnN.push hown2 hown1.1 rfl
      rw [← HT.out] at hO
      have hbb : Below w.heap.size w w2 := (hbb1.alloc hbb1.size _).grown hgrow2 (by have := hbb1.size; simp; omega) (fun q hq => by cases hq; exact hob.1)
      clear hown2 hgrow2 hwh hown1 hbb1
      go_wp2
      go_roundw
      case rel => exact ⟨k + 1, g2, c2', by omega, by go_num, rfl, hO, hbb⟩
      case measure => simp [intOf]; omega
    · have hke : k = m := by omega
      subst hke
      rw [List.take_of_length_le (by have := HM.out; simp; omega)] at hown
      obtain ⟨hg, hr⟩ := hown.row
      clear hx hown
      go_wp2
      go_ret
      exact ⟨_, _, rfl, hg, hr, hb⟩

/-- A slice of Binds of the call's own, to be appended to. -/
def OwnBs (w : World) (B g c l : Nat) (ps : List (Value × Value)) : Prop := ps.length = l ∧ w.ownsRow B 71 2 (.slice (some ⟨g, 0, none⟩) l c) l (cells2 ps)

theorem OwnBs.row {w : World} {B g c l : Nat} {ps : List (Value × Value)} (h : OwnBs w B g c l ps) : B ≤ g ∧ OwnB w g ps := by
  obtain ⟨hl, ho⟩ := h
  rcases ho.2 with ⟨h', _⟩ | ⟨g2, cap2, cur, he, hb, hh, _, _, _, htake⟩
  · cases h'
  · simp only [Value.slice.injEq, Option.some.injEq, Addr.mk.injEq, and_true, true_and] at he
    obtain ⟨rfl, rfl⟩ := he
    exact ⟨hb, cur, cur.toList.drop (l * 2), hh, by rw [← htake, List.take_append_drop]⟩

theorem OwnBs.empty {w : World} {B : Nat} (hB : B ≤ w.heap.size) : OwnBs (w.alloc (.cells #[] 71)) B w.heap.size 0 0 [] :=
  ⟨rfl, rfl, Or.inr ⟨_, 0, #[], rfl, hB, heap_alloc_new _ _, Nat.le_refl _, by simp [maxLen], rfl, rfl⟩⟩

theorem OwnBs.alloc {w : World} {B g c l : Nat} {ps : List (Value × Value)} (h : OwnBs w B g c l ps) (o : Obj) : OwnBs (w.alloc o) B g c l ps := ⟨h.1, h.2.alloc o⟩

theorem OwnBs.but {S : Nat → Prop} {w w' : World} {B g c l : Nat} {ps : List (Value × Value)} (h : OwnBs w B g c l ps) (hb : But S w w') (hn : ¬ S g) : OwnBs w' B g c l ps := ⟨h.1, owns_but h.2 hb hn⟩

theorem OwnBs.below {w w' : World} {B g c l : Nat} {ps : List (Value × Value)} (h : OwnBs w B g c l ps) (hb : Below w.heap.size w w') : OwnBs w' B g c l ps := h.but (S := fun _ => False) (But.ofBelow hb) (fun h => h)

theorem OwnBs.kept {w w' : World} {B g c l k : Nat} {ps : List (Value × Value)} (h : OwnBs w B g c l ps) (hg : w.grownBy w' (some k)) (hne : g ≠ k) : OwnBs w' B g c l ps := ⟨h.1, owns_kept h.2 hg hne⟩

theorem OwnBs.push {w : World} {B g c l m : Nat} {ps : List (Value × Value)} {x : Value × Value} (h : w.ownsRow B 71 2 (.slice (some ⟨g, 0, none⟩) m c) m (cells2 ps ++ [x.1, x.2])) (hl : ps.length = l) (hm : m = l + 1) : OwnBs w B g c (l + 1) (ps ++ [x]) := by
  subst hm
  refine ⟨by simp [hl], ?_⟩
  rw [cells2_append]
  exact h

theorem bind_cells (w : World) (a : Int) (v : Value) : ∀ j u, [Value.int .i64 a, v][j]? = some u → (w.alloc (.cells #[.int .i64 a, v] 71)).cell? (Addr.add ⟨w.heap.size, 0, none⟩ j) = some u := by
  intro j u hj
  have ad : Addr.add ⟨w.heap.size, 0, none⟩ j = ⟨w.heap.size, j, none⟩ := by
    unfold Addr.add
    split
    · simp_all
    · simp
  rw [ad, cell_of_row _ w.heap.size j _ 71 (0, 0) (heap_alloc_new _ _), ← hj]
  simp

theorem bind_one (a : Int) (ao : Option Addr) (l c : Nat) : ∀ u ∈ [Value.int .i64 a, .slice ao l c], u.oneCell' = true := by
  intro u hu
  simp at hu
  rcases hu with rfl | rfl <;> rfl

/-- One Bind more of Compose: its number, if it is new. -/
def numStep (ms : List (Int × Int)) (b : Int × List Nd) : List (Int × Int) := if knownIn ms b.1 < 0 then ms ++ [(b.1, 0)] else ms

def numTo (bs : List (Int × List Nd)) (k : Nat) : List (Int × Int) := (bs.take k).foldl numStep []

theorem numTo_succ (bs : List (Int × List Nd)) (k : Nat) (h : k < bs.length) : numTo bs (k + 1) = numStep (numTo bs k) bs[k] := by
  unfold numTo
  rw [List.take_succ_eq_append_getElem h, List.foldl_append]
  rfl

theorem numTo_len (bs : List (Int × List Nd)) (k : Nat) (h : k ≤ bs.length) : (numTo bs k).length ≤ k := by
  induction k with
  | zero => simp [numTo]
  | succ k ih =>
    have h1 := ih (by omega)
    rw [numTo_succ bs k (by omega)]
    unfold numStep
    split
    · simp; omega
    · omega

/-- The type that Compose has for a number. -/
def compTy (fs ts : List (Int × List Nd)) (x : Int) : List Nd := match fs[placeIn (fs.map Prod.fst) x]? with
  | some b => putOf ts b.2
  | none => ((ts[placeIn (ts.map Prod.fst) x]?).map Prod.snd).getD []

/-- The numbers of Compose, rising. -/
def compNums (fs ts : List (Int × List Nd)) : List Int := (sortedM (numTo (fs ++ ts) (fs ++ ts).length)).map Prod.fst

/-- What Compose answers. -/
def compOf (fs ts : List (Int × List Nd)) : List (Int × List Nd) :=
  if fs.length + ts.length ≤ 1000 ∧ (∀ b ∈ fs ++ ts, typeb b.2 = true) ∧ (∀ x ∈ compNums fs ts, compTy fs ts x ≠ []) then (compNums fs ts).map fun x => (x, compTy fs ts x) else []

theorem Row.kept {w w' : World} {g k : Nat} {ys : List Nd} (h : Row w g ys) (hg : w.grownBy w' (some k)) (hne : g ≠ k) : Row w' g ys := by
  have hlt := h.lt
  obtain ⟨cur, rest, hc, he⟩ := h
  exact ⟨cur, rest, (hg.block g hlt (by simpa using hne)).trans hc, he⟩

theorem TwoR.snoc {w w' : World} {g g' gp cp : Nat} {rs : List (Nat × Nat)} {bs : List (Int × List Nd)} {x : Int} {Y : List Nd} (h : TwoR w g rs bs) (ho : OwnB w' g' (leadR rs bs ++ [(.int .i64 x, .slice (some ⟨gp, 0, none⟩) Y.length cp)]))
    (hr : ∀ i (h : i < rs.length) (h' : i < bs.length), Row w' rs[i].1 bs[i].2) (hy : Row w' gp Y) (hne : ∀ r ∈ rs, r.1 ≠ gp) : TwoR w' g' (rs ++ [(gp, cp)]) (bs ++ [(x, Y)]) := by
  refine ⟨by simp [h.len], ?_, ?_, ?_⟩
  · have e : leadR (rs ++ [(gp, cp)]) (bs ++ [(x, Y)]) = leadR rs bs ++ [(.int .i64 x, .slice (some ⟨gp, 0, none⟩) Y.length cp)] := by
      unfold leadR
      rw [List.zipWith_append h.len]
      rfl
    rw [e]
    exact ho
  · intro i h1 h2
    by_cases hi : i < rs.length
    · have hi' : i < bs.length := by have := h.len; omega
      rw [List.getElem_append_left hi, List.getElem_append_left hi']
      exact hr i hi hi'
    · have hl := h.len
      have e : i = rs.length := by simp at h1; omega
      subst e
      rw [List.getElem_append_right (Nat.le_refl _), List.getElem_append_right (by omega)]
      simpa using hy
  · rw [List.map_append, List.nodup_append]
    refine ⟨h.nodup, by simp, ?_⟩
    intro a ha b hb
    simp at hb
    subst hb
    obtain ⟨r, hr1, rfl⟩ := List.mem_map.1 ha
    exact hne r hr1

theorem insM_mem' (out : List (Int × Int)) (x z : Int × Int) : z ∈ insM out x → z = x ∨ z ∈ out := by
  have hR : ∀ l : List (Int × Int), z ∈ insR x l → z = x ∨ z ∈ l := by
    intro l
    induction l with
    | nil => simp [insR]
    | cons y ys ih =>
      unfold insR
      split
      · intro h
        rcases List.mem_cons.1 h with h | h
        · exact Or.inr (by simp [h])
        · rcases ih h with h | h
          · exact Or.inl h
          · exact Or.inr (List.mem_cons_of_mem _ h)
      · intro h
        rcases List.mem_cons.1 h with h | h
        · exact Or.inl h
        · exact Or.inr h
  intro h
  rcases hR _ (List.mem_reverse.1 h) with h | h
  · exact Or.inl h
  · exact Or.inr (List.mem_reverse.1 h)

theorem sortedM_mem (ms : List (Int × Int)) (z : Int × Int) : z ∈ sortedM ms → z ∈ ms := by
  have : ∀ out, z ∈ ms.foldl insM out → z ∈ out ∨ z ∈ ms := by
    induction ms with
    | nil => intro out h; exact Or.inl h
    | cons m ms ih =>
      intro out h
      rw [List.foldl_cons] at h
      rcases ih _ h with h | h
      · rcases insM_mem' _ _ _ h with h | h
        · exact Or.inr (by simp [h])
        · exact Or.inl h
      · exact Or.inr (List.mem_cons_of_mem _ h)
  intro h
  rcases this [] h with h | h
  · simp at h
  · exact h

theorem numTo_mem (bs : List (Int × List Nd)) (k : Nat) (h : k ≤ bs.length) : ∀ p ∈ numTo bs k, ∃ b ∈ bs, b.1 = p.1 := by
  induction k with
  | zero => simp [numTo]
  | succ k ih =>
    rw [numTo_succ bs k (by omega)]
    intro p hp
    unfold numStep at hp
    split at hp
    · rcases List.mem_append.1 hp with hp | hp
      · exact ih (by omega) p hp
      · simp at hp
        exact ⟨bs[k], List.getElem_mem _, by rw [hp]⟩
    · exact ih (by omega) p hp

theorem placeIn_mem {xs : List Int} {x : Int} (h : x ∈ xs) : placeIn xs x < xs.length := by
  unfold placeIn
  exact List.findIdx_lt_length_of_exists ⟨x, h, by simp⟩

/-- The first Binds of the answer. -/
def compTo (fs ts : List (Int × List Nd)) (nums : List Int) (j : Nat) : List (Int × List Nd) := (nums.take j).map fun x => (x, compTy fs ts x)

set_option maxRecDepth 100000 in
set_option maxHeartbeats 2000000 in
theorem specCompose_any (fs ts : List (Int × List Nd)) (n m : Nat) (HF : Hid (fs.length = n)) (HS : Hid (ts.length = m)) (hn : n ≤ 1048576) (hm : m ≤ 1048576) (hfl : ∀ b ∈ fs, b.2.length ≤ 1048576) (htl : ∀ b ∈ ts, b.2.length ≤ 1048576) (ao bo : Option Addr) (ca cb : Nat) (w : World) (hfs : Binds w ao fs) (hts : Binds w bo ts) :
    Calls Try.prog 29 #[.slice ao n ca, .slice bo m cb] w fun e w' => ∃ ag c l, e = .returned (.slice ag l c) ∧ (compOf fs ts).length = l ∧ BAns w' w.heap.size ag (compOf fs ts) ∧ Below w.heap.size w w' := by
  obtain ⟨i0, hi, hz0, hz1, hz2⟩ := info_parts Try.infoM
  obtain ⟨i1, hj1, hy0, hy1, hy2⟩ := info_parts Try.infoB
  go_enter Try.func29, Try.ntmps29
  have hA : Below w.heap.size w (w.alloc (.cells #[] 71)) := (Below.refl _ w).alloc (Nat.le_refl _) _
  by_cases h1000 : n + m ≤ 1000
  · have t1 : decide (((n : Int) + (m : Int)) > 1000) = false := decide_eq_false (by omega)
    have hM0 := OwnM.empty (w := w.alloc (.cells #[] 71)) (B := w.heap.size) hA.size
    rw [World.size_alloc] at hM0
    have hA2 := hA.alloc hA.size (.cells #[] 63)
    go_wp2
    go_loopw [6, 7] (fun v p wr => ∃ (k g c l : Nat), k ≤ n + m ∧ p = .int .i64 k ∧ v = .slice (some ⟨g, 0, none⟩) l c ∧ OwnM wr w.heap.size g c l (numTo (fs ++ ts) k) ∧ (∀ b ∈ (fs ++ ts).take k, typeb b.2 = true) ∧ Below w.heap.size w wr) (fun _ p _ => n + m - (intOf p).toNat)
    case atStart => exact ⟨0, _, 0, 0, Nat.zero_le _, rfl, rfl, hM0, by simp, hA2⟩
    case round =>
      clear hM0 hA2 hA
      obtain ⟨k, g, c, l, hk, rfl, rfl, hown, hall, hb⟩ := hrel
      by_cases hlt : k < n + m
      · have hltc : k < (fs ++ ts).length := by have := HF.out; have := HS.out; simp; omega
        have HN : Hid (numTo (fs ++ ts) (k + 1) = numStep (numTo (fs ++ ts) k) (fs ++ ts)[k]) := numTo_succ _ _ hltc
        have HAL : Hid (typeb ((fs ++ ts)[k]).2 = true → ∀ b ∈ (fs ++ ts).take (k + 1), typeb b.2 = true) := by
          intro h9 b hb9
          rw [List.take_succ_eq_append_getElem hltc] at hb9
          rcases List.mem_append.1 hb9 with h8 | h8
          · exact hall b h8
          · simp at h8
            subst h8
            exact h9
        have HBAD : Hid (typeb ((fs ++ ts)[k]).2 = false → compOf fs ts = []) := by
          intro h9
          unfold compOf
          rw [if_neg (fun h => by have := h.2.1 _ (List.getElem_mem hltc); rw [h9] at this; exact absurd this (by decide))]
        have hll : l ≤ k := by have := numTo_len (fs ++ ts) k (by omega); have := hown.1; omega
        generalize numTo (fs ++ ts) k = met at *
        by_cases hkn : k < n
        · have hlf : k < fs.length := by have := HF.out; omega
          have hge : (fs ++ ts)[k] = fs[k] := List.getElem_append_left hlf
          obtain ⟨b, o, ai, ci, rfl, hc0, hc, hnd⟩ := hfs.below hb k hlf
          have hml := hfl fs[k] (List.getElem_mem hlf)
          rw [hge] at HN HAL HBAD
          obtain ⟨⟨bn, ks⟩, hbk⟩ : ∃ p, fs[k] = p := ⟨_, rfl⟩
          rw [hbk] at hc0 hc hnd hml HN HAL HBAD
          simp only at hc0 hc hnd hml HN HAL HBAD
          obtain ⟨q, hq⟩ : ∃ q, ks.length = q := ⟨_, rfl⟩
          have HQ : Hid (ks.length = q) := hq
          rw [hq] at hc hml
          have hlb : b < wr.heap.size := lt_of_cell hc
          have hob := owns_block hown.2
          clear hfs hts hfl htl hge hbk hq hall
          go_wp2_with fail
          have hW : Below wr.heap.size wr (wr.alloc (.cells #[.int .i64 bn, .slice ai q ci] 71)) := (Below.refl _ wr).alloc (Nat.le_refl _) _
          have hox : OwnT 71 (wr.alloc (.cells #[.int .i64 bn, .slice ai q ci] 71)) wr.heap.size [.int .i64 bn, .slice ai q ci] := ⟨#[.int .i64 bn, .slice ai q ci], [], heap_alloc_new _ _, rfl⟩
          refine (isType_any ks q HQ hml ai ci _ (hnd.below hW)).mono ?_
          rintro e w2 ⟨rfl, hb2⟩
          have hox2 := hox.below hb2
          have hb2w := Below.step hW hb2
          have hown2 := hown.below hb2w
          have hbb2 := Below.step hb hb2w
          have d0 := hox2.at 0 (by simp)
          have hzl := hox2.lt
          simp only [List.getElem?_cons_zero] at d0
          obtain ⟨z, hz⟩ : ∃ z, wr.heap.size = z := ⟨_, rfl⟩
          rw [hz] at d0 hzl hox2 ⊢
          clear hW hox hb2 hb2w hown hb hc hc0 hnd hob hlb hz
          cases hty : typeb ks
          · have HV : Hid (compOf fs ts = []) := HBAD.out hty
            clear hown2 hox2
            go_wp2
            go_ret
            exact ⟨_, _, _, rfl, by rw [HV.out]; rfl, by rw [HV.out]; exact Or.inl rfl, hbb2⟩
          · have HA2 : Hid (∀ b ∈ (fs ++ ts).take (k + 1), typeb b.2 = true) := HAL.out hty
            clear hty
            go_wp2_with fail
            refine (known_any met l hown2.1 (by omega) bn g c w2 hown2.row.2).mono ?_
            rintro e w3 ⟨rfl, hb3⟩
            have hown3 := hown2.below hb3
            have hbb3 := Below.step hbb2 hb3
            have d1 := (hb3.cell (p := ⟨z, 0, none⟩) hzl).trans d0
            have hob3 := owns_block hown3.2
            obtain ⟨u, hu⟩ : ∃ u, knownIn met bn = u := ⟨_, rfl⟩
            have HU : Hid (knownIn met bn = u) := hu
            rw [hu]
            clear hown2 hox2 hbb2 hb3 d0 hu
            by_cases hu0 : u < 0
            · have tu : decide (u < 0) = true := decide_eq_true hu0
              have HT : Hid (numTo (fs ++ ts) (k + 1) = met ++ [(bn, 0)]) := by
                show numTo (fs ++ ts) (k + 1) = _
                rw [HN.out]
                simp only [numStep, HU.out]
                rw [if_pos hu0]
              go_wp2_with (at_builtin; refine wpList_append2 _ rfl (.tmp 59) (.tmp 63) 60 rfl w.heap.size 63 i0 _ 2 16 Try.underlying60 hi hz0 hz1 hz2 rfl (by decide) g l c _ rfl (hown3.alloc _).2 ⟨_, 0, none⟩ 1 1 [.int .i64 bn, .int .i64 0] rfl rfl (two_cells _ bn 0) (two_one _ _) ?a3 ?a4 ?a5 ?_)
              case a3 => unfold maxLen; omega
              case a4 => omega
              case a5 => have := hbb3.size; simp; omega
              intro g5 c5 w5 hown5 hgrow5 hwh5
              have hO := OwnM.push (x := (bn, 0)) hown5 hown3.1 rfl
              have hb5 : Below w.heap.size w w5 := (hbb3.alloc hbb3.size _).grown hgrow5 (by have := hbb3.size; simp; omega) (fun q hq => by cases hq; exact hob3.1)
              clear hown5 hgrow5 hwh5 hown3 hbb3 d1
              go_wp2
              go_roundw
              case rel => exact ⟨k + 1, g5, c5, l + 1, by omega, by go_num, rfl, by rw [HT.out]; exact hO, HA2.out, hb5⟩
              case measure => simp [intOf]; omega
            · have tu : decide (u < 0) = false := decide_eq_false hu0
              have HT : Hid (numTo (fs ++ ts) (k + 1) = met) := by
                show numTo (fs ++ ts) (k + 1) = _
                rw [HN.out]
                simp only [numStep, HU.out]
                rw [if_neg hu0]
              go_wp2
              go_roundw
              case rel => exact ⟨k + 1, g, c, l, by omega, by go_num, rfl, by rw [HT.out]; exact hown3, HA2.out, hbb3⟩
              case measure => simp [intOf]; omega
        · have hlf : k - n < ts.length := by have := HS.out; omega
          have hge : (fs ++ ts)[k] = ts[k - n] := by
            rw [List.getElem_append_right (by have := HF.out; omega)]
            congr 1
            have := HF.out
            omega
          obtain ⟨b, o, ai, ci, rfl, hc0, hc, hnd⟩ := hts.below hb (k - n) hlf
          have hml := htl ts[k - n] (List.getElem_mem hlf)
          rw [hge] at HN HAL HBAD
          obtain ⟨⟨bn, ks⟩, hbk⟩ : ∃ p, ts[k - n] = p := ⟨_, rfl⟩
          rw [hbk] at hc0 hc hnd hml HN HAL HBAD
          simp only at hc0 hc hnd hml HN HAL HBAD
          obtain ⟨q, hq⟩ : ∃ q, ks.length = q := ⟨_, rfl⟩
          have HQ : Hid (ks.length = q) := hq
          rw [hq] at hc hml
          have hlb : b < wr.heap.size := lt_of_cell hc
          have hob := owns_block hown.2
          have hkm : k - n < m := by omega
          have ek : ((k : Int) - (n : Int)) = ((k - n : Nat) : Int) := by omega
          clear hfs hts hfl htl hge hbk hq hall
          go_wp2_with fail
          have hW : Below wr.heap.size wr (wr.alloc (.cells #[.int .i64 bn, .slice ai q ci] 71)) := (Below.refl _ wr).alloc (Nat.le_refl _) _
          have hox : OwnT 71 (wr.alloc (.cells #[.int .i64 bn, .slice ai q ci] 71)) wr.heap.size [.int .i64 bn, .slice ai q ci] := ⟨#[.int .i64 bn, .slice ai q ci], [], heap_alloc_new _ _, rfl⟩
          refine (isType_any ks q HQ hml ai ci _ (hnd.below hW)).mono ?_
          rintro e w2 ⟨rfl, hb2⟩
          have hox2 := hox.below hb2
          have hb2w := Below.step hW hb2
          have hown2 := hown.below hb2w
          have hbb2 := Below.step hb hb2w
          have d0 := hox2.at 0 (by simp)
          have hzl := hox2.lt
          simp only [List.getElem?_cons_zero] at d0
          obtain ⟨z, hz⟩ : ∃ z, wr.heap.size = z := ⟨_, rfl⟩
          rw [hz] at d0 hzl hox2 ⊢
          clear hW hox hb2 hb2w hown hb hc hc0 hnd hob hlb hz
          cases hty : typeb ks
          · have HV : Hid (compOf fs ts = []) := HBAD.out hty
            clear hown2 hox2
            go_wp2
            go_ret
            exact ⟨_, _, _, rfl, by rw [HV.out]; rfl, by rw [HV.out]; exact Or.inl rfl, hbb2⟩
          · have HA2 : Hid (∀ b ∈ (fs ++ ts).take (k + 1), typeb b.2 = true) := HAL.out hty
            clear hty
            go_wp2_with fail
            refine (known_any met l hown2.1 (by omega) bn g c w2 hown2.row.2).mono ?_
            rintro e w3 ⟨rfl, hb3⟩
            have hown3 := hown2.below hb3
            have hbb3 := Below.step hbb2 hb3
            have d1 := (hb3.cell (p := ⟨z, 0, none⟩) hzl).trans d0
            have hob3 := owns_block hown3.2
            obtain ⟨u, hu⟩ : ∃ u, knownIn met bn = u := ⟨_, rfl⟩
            have HU : Hid (knownIn met bn = u) := hu
            rw [hu]
            clear hown2 hox2 hbb2 hb3 d0 hu
            by_cases hu0 : u < 0
            · have tu : decide (u < 0) = true := decide_eq_true hu0
              have HT : Hid (numTo (fs ++ ts) (k + 1) = met ++ [(bn, 0)]) := by
                show numTo (fs ++ ts) (k + 1) = _
                rw [HN.out]
                simp only [numStep, HU.out]
                rw [if_pos hu0]
              go_wp2_with (at_builtin; refine wpList_append2 _ rfl (.tmp 59) (.tmp 63) 60 rfl w.heap.size 63 i0 _ 2 16 Try.underlying60 hi hz0 hz1 hz2 rfl (by decide) g l c _ rfl (hown3.alloc _).2 ⟨_, 0, none⟩ 1 1 [.int .i64 bn, .int .i64 0] rfl rfl (two_cells _ bn 0) (two_one _ _) ?a3 ?a4 ?a5 ?_)
              case a3 => unfold maxLen; omega
              case a4 => omega
              case a5 => have := hbb3.size; simp; omega
              intro g5 c5 w5 hown5 hgrow5 hwh5
              have hO := OwnM.push (x := (bn, 0)) hown5 hown3.1 rfl
              have hb5 : Below w.heap.size w w5 := (hbb3.alloc hbb3.size _).grown hgrow5 (by have := hbb3.size; simp; omega) (fun q hq => by cases hq; exact hob3.1)
              clear hown5 hgrow5 hwh5 hown3 hbb3 d1
              go_wp2
              go_roundw
              case rel => exact ⟨k + 1, g5, c5, l + 1, by omega, by go_num, rfl, by rw [HT.out]; exact hO, HA2.out, hb5⟩
              case measure => simp [intOf]; omega
            · have tu : decide (u < 0) = false := decide_eq_false hu0
              have HT : Hid (numTo (fs ++ ts) (k + 1) = met) := by
                show numTo (fs ++ ts) (k + 1) = _
                rw [HN.out]
                simp only [numStep, HU.out]
                rw [if_neg hu0]
              go_wp2
              go_roundw
              case rel => exact ⟨k + 1, g, c, l, by omega, by go_num, rfl, by rw [HT.out]; exact hown3, HA2.out, hbb3⟩
              case measure => simp [intOf]; omega
      · have hke : k = n + m := by omega
        subst hke
        have hfl2 : (fs ++ ts).length = n + m := by have := HF.out; have := HS.out; simp; omega
        have HALL : Hid (∀ b ∈ fs ++ ts, typeb b.2 = true) := by
          have h9 := hall
          rw [List.take_of_length_le (by omega)] at h9
          exact h9
        have hlk : l ≤ n + m := by have := numTo_len (fs ++ ts) (n + m) (by omega); have := hown.1; omega
        have HNU : Hid (compNums fs ts = (sortedM (numTo (fs ++ ts) (n + m))).map Prod.fst) := by
          show compNums fs ts = _
          unfold compNums
          rw [hfl2]
        have HM1 : Hid (∀ p ∈ numTo (fs ++ ts) (n + m), ∃ b ∈ fs ++ ts, b.1 = p.1) := numTo_mem _ _ (by omega)
        generalize numTo (fs ++ ts) (n + m) = met at *
        clear hall
        go_wp2_with fail
        refine (sorted_any met l hown.1 (by omega) g c wr hown.row.2).mono ?_
        rintro e w2 ⟨gs, cs, rfl, hgs, hrs, hb2⟩
        have hbb := Below.step hb hb2
        have hsl : (sortedM met).length = l := by rw [sortedM_length, hown.1]
        have hws : w.heap.size ≤ gs := by have := hb.size; omega
        clear hown hb hb2
        have HM2 : Hid (∀ p ∈ sortedM met, ∃ b ∈ fs ++ ts, b.1 = p.1) := fun p hp => HM1.out p (sortedM_mem _ _ hp)
        generalize sortedM met = srt at *
        have hO0 := OwnBs.empty (w := w2) (B := w.heap.size) hbb.size
        have hrs2 := hrs.below ((Below.refl _ w2).alloc (Nat.le_refl _) (.cells #[] 71))
        have hb3 := hbb.alloc hbb.size (.cells #[] 71)
        have hgl := hrs.lt
        clear hrs hbb
        obtain ⟨nums, hnu⟩ : ∃ nums, srt.map Prod.fst = nums := ⟨_, rfl⟩
        have hnl : nums.length = l := by rw [← hnu]; simpa using hsl
        rw [hnu] at HNU
        go_wp2
        go_loopw [10, 11] (fun v p wq => ∃ (j go co : Nat) (rs : List (Nat × Nat)), j ≤ l ∧ p = .int .i64 j ∧ v = .slice (some ⟨go, 0, none⟩) j co ∧ OwnBs wq w.heap.size go co j (leadR rs (compTo fs ts nums j)) ∧ TwoR wq go rs (compTo fs ts nums j) ∧ (∀ r ∈ rs, w.heap.size ≤ r.1) ∧ MRow wq gs srt ∧ go ≠ gs ∧ (∀ x ∈ nums.take j, compTy fs ts x ≠ []) ∧ Below w.heap.size w wq) (fun _ p _ => l - (intOf p).toNat)
        case atStart => exact ⟨0, _, 0, [], Nat.zero_le _, rfl, rfl, by simpa [leadR, compTo] using hO0, ⟨by simp [compTo], by simpa [leadR, compTo] using hO0.row.2, by simp [compTo], by simp⟩, by simp, hrs2, by omega, by simp, hb3⟩
        case round =>
          clear hO0 hrs2 hb3
          obtain ⟨j, go, co, rs, hj, rfl, rfl, hown, htw, hrb, hms, hgn, hne, hb⟩ := hrel
          by_cases hjl : j < l
          · have hjs : j < srt.length := by omega
            have hjn : j < nums.length := by omega
            obtain ⟨e0, _⟩ := hms.at j hjs
            obtain ⟨x, hx⟩ : ∃ x, nums[j] = x := ⟨_, rfl⟩
            have hsx : srt[j].1 = x := by rw [← hx]; simp [← hnu]
            rw [hsx] at e0
            have HCT : Hid (compTo fs ts nums (j + 1) = compTo fs ts nums j ++ [(x, compTy fs ts x)]) := by
              show compTo fs ts nums (j + 1) = _
              unfold compTo
              rw [List.take_succ_eq_append_getElem hjn, List.map_append, List.map_cons, List.map_nil, hx]
            have HNE : Hid (compTy fs ts x ≠ [] → ∀ y ∈ nums.take (j + 1), compTy fs ts y ≠ []) := by
              intro h9 y hy
              rw [List.take_succ_eq_append_getElem hjn, hx] at hy
              rcases List.mem_append.1 hy with h8 | h8
              · exact hne y h8
              · simp at h8
                subst h8
                exact h9
            have HBAD : Hid (compTy fs ts x = [] → compOf fs ts = []) := by
              intro h9
              unfold compOf
              rw [if_neg (fun h => h.2.2 x (by rw [HNU.out, ← hx]; exact List.getElem_mem hjn) h9)]
            have HXM : Hid (∃ b ∈ fs ++ ts, b.1 = x) := by
              obtain ⟨b, hb9, e9⟩ := HM2.out srt[j] (List.getElem_mem hjs)
              exact ⟨b, hb9, e9.trans hsx⟩
            have hsl2 := hms.lt
            clear hne hx hsx
            go_wp2_with fail
            refine (bound_any fs n HF hn x ao ca wr (hfs.below hb)).mono ?_
            rintro e w5 ⟨rfl, hb5⟩
            have hown5 := hown.below hb5
            have htw5 := htw.below hb5
            have hms5 := hms.below hb5
            have hbb5 := Below.step hb hb5
            clear hown htw hms hb hb5 e0
            by_cases hpl : placeIn (fs.map Prod.fst) x < fs.length
            · obtain ⟨i, hie⟩ : ∃ i, placeIn (fs.map Prod.fst) x = i := ⟨_, rfl⟩
              rw [hie] at hpl
              have HBI : Hid (boundIn fs x = (i : Int)) := by
                show boundIn fs x = _
                unfold boundIn
                rw [hie, if_pos hpl]
              have HTY : Hid (compTy fs ts x = putOf ts fs[i].2) := by
                show compTy fs ts x = _
                unfold compTy
                rw [hie, List.getElem?_eq_getElem hpl]
              have hmf := hfl fs[i] (List.getElem_mem hpl)
              obtain ⟨b9, o9, ai, ci, rfl, _, hcc, hnn⟩ := hfs.below hbb5 i hpl
              obtain ⟨ys, hys⟩ : ∃ ys, fs[i].2 = ys := ⟨_, rfl⟩
              rw [hys] at hcc hnn HTY hmf
              obtain ⟨q, hq⟩ : ∃ q, ys.length = q := ⟨_, rfl⟩
              have HQ : Hid (ys.length = q) := hq
              rw [hq] at hcc hmf
              have hin : i < n := by have := HF.out; omega
              have hl9 : b9 < w5.heap.size := lt_of_cell hcc
              rw [HBI.out]
              clear hie hys hq
              go_wp2_with fail
              have hal5 : Below w5.heap.size w5 (w5.alloc (.cells #[] 53)) := (Below.refl _ w5).alloc (Nat.le_refl _) _
              have hb5a := Below.step hbb5 hal5
              refine (specPut_any ts m HS hm htl ys q HQ hmf bo ai cb ci _ (hts.below hb5a) (hnn.below hal5)).mono ?_
              rintro e w6 ⟨gp, cp, lp, rfl, hgp0, hlp9, hrow, hb6⟩
              obtain ⟨Y, hY⟩ : ∃ Y, putOf ts ys = Y := ⟨_, rfl⟩
              have HY : Hid (compTy fs ts x = Y) := HTY.out.trans hY
              rw [hY] at hlp9 hrow
              have HLP : Hid (Y.length = lp) := hlp9
              have hgp : w5.heap.size ≤ gp := by simp at hgp0; omega
              have hb56 := Below.step hal5 hb6
              have hown6 := hown5.below hb56
              have htw6 := htw5.below hb56
              have hms6 := hms5.below hb56
              have hb6 := Below.step hbb5 hb56
              have hgw5 : go < w5.heap.size := (owns_block hown5.2).2
              clear hal5 hb5a hb56 hY hlp9 hcc hnn hl9 hgp0
              have hsw5 := hbb5.size
              have hsw6 := hb6.size
              have hrl := hrow.lt
              have hmm := htw6.mem_lt
              by_cases hlp : lp = 0
              · subst hlp
                have HV : Hid (compOf fs ts = []) := HBAD.out (by rw [HY.out]; exact List.eq_nil_of_length_eq_zero HLP.out)
                clear hown6 htw6 hms6 hrow hrb hfs hts hfl htl hmm
                go_wp2
                go_ret
                exact ⟨_, _, _, rfl, by rw [HV.out]; rfl, by rw [HV.out]; exact Or.inl rfl, hb6⟩
              · have tl : ((lp : Int) == 0) = false := by simpa using hlp
                have HN2 : Hid (∀ y ∈ nums.take (j + 1), compTy fs ts y ≠ []) := HNE.out (by rw [HY.out]; intro e; have := HLP.out; rw [e] at this; exact hlp this.symm)
                have HCT2 : Hid (compTo fs ts nums (j + 1) = compTo fs ts nums j ++ [(x, Y)]) := by
                  show compTo fs ts nums (j + 1) = _
                  rw [HCT.out, HY.out]
                have hob6 := owns_block hown6.2
                have HRB : Hid (∀ r ∈ rs, w.heap.size ≤ r.1) := hrb
                have HMM : Hid (∀ r ∈ rs, r.1 < w6.heap.size ∧ r.1 ≠ go) := hmm
                have HFR : Hid (∀ r ∈ rs, r.1 < w5.heap.size) := fun r hr => (htw5.mem_lt r hr).1
                clear hrb hmm htw5 hown5 hms5
                go_wp2_with (at_builtin; refine wpList_append2 _ rfl (.tmp 104) (.tmp 108) 38 rfl w.heap.size 71 i1 _ 2 32 Try.underlying38 hj1 hy0 hy1 hy2 rfl (by decide) go j co _ rfl (hown6.alloc _).2 ⟨_, 0, none⟩ 1 1 [.int .i64 x, .slice (some ⟨gp, 0, none⟩) lp cp] rfl rfl (bind_cells _ x _) (bind_one _ _ _ _) ?a3 ?a4 ?a5 ?_)
                case a3 => unfold maxLen; omega
                case a4 => omega
                case a5 => simp; omega
                intro go2 co2 w7 hown7 hgrow7 hwh7
                have hO := OwnBs.push (x := (.int .i64 x, .slice (some ⟨gp, 0, none⟩) lp cp)) hown7 hown6.1 rfl
                have hb7 : Below w.heap.size w w7 := (hb6.alloc hb6.size _).grown hgrow7 (by simp; omega) (fun q hq => by cases hq; exact hob6.1)
                have hal : Below w6.heap.size w6 (w6.alloc (.cells #[.int .i64 x, .slice (some ⟨gp, 0, none⟩) lp cp] 71)) := (Below.refl _ w6).alloc (Nat.le_refl _) _
                have hms7 := (hms6.below hal).kept hgrow7 (Ne.symm hgn)
                have hgo2 : go2 ≠ gs := by have := hms6.lt; rcases hwh7 with h | h <;> (try simp at h) <;> omega
                have hgpo : gp ≠ go := by omega
                have hrow7 := (hrow.below hal).kept hgrow7 hgpo
                have hT7 : TwoR w7 go2 (rs ++ [(gp, cp)]) (compTo fs ts nums j ++ [(x, Y)]) := by
                  refine TwoR.snoc htw6 (by rw [HLP.out]; exact hO.row.2) ?_ hrow7 ?_
                  · intro i h1 h2
                    exact ((htw6.rows i h1 h2).below hal).kept hgrow7 (HMM.out _ (List.getElem_mem h1)).2
                  · intro r hr
                    have := HFR.out r hr
                    omega
                have HR2 : Hid (∀ r ∈ rs ++ [(gp, cp)], w.heap.size ≤ r.1) := by
                  intro r hr
                  rcases List.mem_append.1 hr with h | h
                  · exact HRB.out r h
                  · simp at h
                    subst h
                    show w.heap.size ≤ gp
                    omega
                have hO2 : OwnBs w7 w.heap.size go2 co2 (j + 1) (leadR (rs ++ [(gp, cp)]) (compTo fs ts nums j ++ [(x, Y)])) := by
                  have e : leadR (rs ++ [(gp, cp)]) (compTo fs ts nums j ++ [(x, Y)]) = leadR rs (compTo fs ts nums j) ++ [(.int .i64 x, .slice (some ⟨gp, 0, none⟩) lp cp)] := by
                    unfold leadR
                    rw [List.zipWith_append htw6.len, ← HLP.out]
                    rfl
                  rw [e]
                  exact hO
                rw [← HCT2.out] at hO2 hT7
                clear hown7 hgrow7 hwh7 hown6 htw6 hms6 hrow hb6 hal hO hrow7
                go_wp2
                go_roundw
                case rel => exact ⟨j + 1, go2, co2, rs ++ [(gp, cp)], by omega, by go_num, rfl, hO2, hT7, HR2.out, hms7, hgo2, HN2.out, hb7⟩
                case measure => simp [intOf]; omega
            · have HBI : Hid (boundIn fs x = -1) := by
                show boundIn fs x = _
                unfold boundIn
                rw [if_neg hpl]
              rw [HBI.out]
              go_wp2_with fail
              have hal5 : Below w5.heap.size w5 (w5.alloc (.cells #[] 53)) := (Below.refl _ w5).alloc (Nat.le_refl _) _
              have hb5a := Below.step hbb5 hal5
              refine (bound_any ts m HS hm x bo cb _ (hts.below hb5a)).mono ?_
              rintro e w5' ⟨rfl, hb5'⟩
              have hpt : placeIn (ts.map Prod.fst) x < ts.length := by
                obtain ⟨b, hb9, e9⟩ := HXM.out
                rcases List.mem_append.1 hb9 with h | h
                · have h8 := placeIn_mem (xs := fs.map Prod.fst) (x := x) (by rw [← e9]; exact List.mem_map_of_mem h)
                  rw [List.length_map] at h8
                  exact absurd h8 hpl
                · have h8 := placeIn_mem (xs := ts.map Prod.fst) (x := x) (by rw [← e9]; exact List.mem_map_of_mem h)
                  rw [List.length_map] at h8
                  exact h8
              obtain ⟨i, hie⟩ : ∃ i, placeIn (ts.map Prod.fst) x = i := ⟨_, rfl⟩
              rw [hie] at hpt
              have HBT : Hid (boundIn ts x = (i : Int)) := by
                show boundIn ts x = _
                unfold boundIn
                rw [hie, if_pos hpt]
              have HTY : Hid (compTy fs ts x = ts[i].2) := by
                show compTy fs ts x = _
                unfold compTy
                rw [List.getElem?_eq_none (by omega), hie, List.getElem?_eq_getElem hpt]
                rfl
              have hti := HALL.out ts[i] (List.mem_append_right _ (List.getElem_mem hpt))
              have hmf := htl ts[i] (List.getElem_mem hpt)
              have hb5b := Below.step hb5a hb5'
              obtain ⟨b9, o9, ai, ci, rfl, _, hcc, hnn⟩ := hts.below hb5b i hpt
              obtain ⟨ys, hys⟩ : ∃ ys, ts[i].2 = ys := ⟨_, rfl⟩
              rw [hys] at hcc hnn HTY hmf hti
              obtain ⟨q, hq⟩ : ∃ q, ys.length = q := ⟨_, rfl⟩
              have HQ : Hid (ys.length = q) := hq
              rw [hq] at hcc hmf
              have him : i < m := by have := HS.out; omega
              have hl9 : b9 < w5'.heap.size := lt_of_cell hcc
              have hb55 := Below.step hal5 hb5'
              rw [HBT.out]
              clear hie hys hq hpl
              go_wp2_with fail
              refine (clean_any ys q HQ hmf ai ci w5' hnn).mono ?_
              rintro e w6 ⟨gp, cp, rfl, hgp0, hrow, hb6⟩
              rw [clean_same hti] at hrow
              obtain ⟨lp, hlpe⟩ : ∃ lp, q = lp := ⟨_, rfl⟩
              obtain ⟨Y, hY⟩ : ∃ Y, ys = Y := ⟨_, rfl⟩
              have HY : Hid (compTy fs ts x = Y) := HTY.out.trans hY
              rw [hY] at hrow
              have HLP : Hid (Y.length = lp) := by rw [← hY, ← hlpe]; exact HQ.out
              rw [hlpe]
              have hgp : w5.heap.size ≤ gp := by have := hb55.size; omega
              have hb56 := Below.step hb55 hb6
              have hown6 := hown5.below hb56
              have htw6 := htw5.below hb56
              have hms6 := hms5.below hb56
              have hb6 := Below.step hbb5 hb56
              have hgw5 : go < w5.heap.size := (owns_block hown5.2).2
              have hlp3 : lp ≤ 300 := by have := typeb_len hti; have := HQ.out; omega
              clear hal5 hb5a hb56 hY hcc hnn hl9 hgp0 hb5b hb55 hb5' hlpe hti
              have hsw5 := hbb5.size
              have hsw6 := hb6.size
              have hrl := hrow.lt
              have hmm := htw6.mem_lt
              by_cases hlp : lp = 0
              · subst hlp
                have HV : Hid (compOf fs ts = []) := HBAD.out (by rw [HY.out]; exact List.eq_nil_of_length_eq_zero HLP.out)
                clear hown6 htw6 hms6 hrow hrb hfs hts hfl htl hmm
                go_wp2
                go_ret
                exact ⟨_, _, _, rfl, by rw [HV.out]; rfl, by rw [HV.out]; exact Or.inl rfl, hb6⟩
              · have tl : ((lp : Int) == 0) = false := by simpa using hlp
                have HN2 : Hid (∀ y ∈ nums.take (j + 1), compTy fs ts y ≠ []) := HNE.out (by rw [HY.out]; intro e; have := HLP.out; rw [e] at this; exact hlp this.symm)
                have HCT2 : Hid (compTo fs ts nums (j + 1) = compTo fs ts nums j ++ [(x, Y)]) := by
                  show compTo fs ts nums (j + 1) = _
                  rw [HCT.out, HY.out]
                have hob6 := owns_block hown6.2
                have HRB : Hid (∀ r ∈ rs, w.heap.size ≤ r.1) := hrb
                have HMM : Hid (∀ r ∈ rs, r.1 < w6.heap.size ∧ r.1 ≠ go) := hmm
                have HFR : Hid (∀ r ∈ rs, r.1 < w5.heap.size) := fun r hr => (htw5.mem_lt r hr).1
                clear hrb hmm htw5 hown5 hms5
                go_wp2_with (at_builtin; refine wpList_append2 _ rfl (.tmp 104) (.tmp 108) 38 rfl w.heap.size 71 i1 _ 2 32 Try.underlying38 hj1 hy0 hy1 hy2 rfl (by decide) go j co _ rfl (hown6.alloc _).2 ⟨_, 0, none⟩ 1 1 [.int .i64 x, .slice (some ⟨gp, 0, none⟩) lp cp] rfl rfl (bind_cells _ x _) (bind_one _ _ _ _) ?a3 ?a4 ?a5 ?_)
                case a3 => unfold maxLen; omega
                case a4 => omega
                case a5 => simp; omega
                intro go2 co2 w7 hown7 hgrow7 hwh7
                have hO := OwnBs.push (x := (.int .i64 x, .slice (some ⟨gp, 0, none⟩) lp cp)) hown7 hown6.1 rfl
                have hb7 : Below w.heap.size w w7 := (hb6.alloc hb6.size _).grown hgrow7 (by simp; omega) (fun q hq => by cases hq; exact hob6.1)
                have hal : Below w6.heap.size w6 (w6.alloc (.cells #[.int .i64 x, .slice (some ⟨gp, 0, none⟩) lp cp] 71)) := (Below.refl _ w6).alloc (Nat.le_refl _) _
                have hms7 := (hms6.below hal).kept hgrow7 (Ne.symm hgn)
                have hgo2 : go2 ≠ gs := by have := hms6.lt; rcases hwh7 with h | h <;> (try simp at h) <;> omega
                have hgpo : gp ≠ go := by omega
                have hrow7 := (hrow.below hal).kept hgrow7 hgpo
                have hT7 : TwoR w7 go2 (rs ++ [(gp, cp)]) (compTo fs ts nums j ++ [(x, Y)]) := by
                  refine TwoR.snoc htw6 (by rw [HLP.out]; exact hO.row.2) ?_ hrow7 ?_
                  · intro i h1 h2
                    exact ((htw6.rows i h1 h2).below hal).kept hgrow7 (HMM.out _ (List.getElem_mem h1)).2
                  · intro r hr
                    have := HFR.out r hr
                    omega
                have HR2 : Hid (∀ r ∈ rs ++ [(gp, cp)], w.heap.size ≤ r.1) := by
                  intro r hr
                  rcases List.mem_append.1 hr with h | h
                  · exact HRB.out r h
                  · simp at h
                    subst h
                    show w.heap.size ≤ gp
                    omega
                have hO2 : OwnBs w7 w.heap.size go2 co2 (j + 1) (leadR (rs ++ [(gp, cp)]) (compTo fs ts nums j ++ [(x, Y)])) := by
                  have e : leadR (rs ++ [(gp, cp)]) (compTo fs ts nums j ++ [(x, Y)]) = leadR rs (compTo fs ts nums j) ++ [(.int .i64 x, .slice (some ⟨gp, 0, none⟩) lp cp)] := by
                    unfold leadR
                    rw [List.zipWith_append htw6.len, ← HLP.out]
                    rfl
                  rw [e]
                  exact hO
                rw [← HCT2.out] at hO2 hT7
                clear hown7 hgrow7 hwh7 hown6 htw6 hms6 hrow hb6 hal hO hrow7
                go_wp2
                go_roundw
                case rel => exact ⟨j + 1, go2, co2, rs ++ [(gp, cp)], by omega, by go_num, rfl, hO2, hT7, HR2.out, hms7, hgo2, HN2.out, hb7⟩
                case measure => simp [intOf]; omega
          · have hje : j = l := by omega
            subst hje
            have hNE : ∀ x ∈ nums, compTy fs ts x ≠ [] := by
              have h9 := hne
              rw [List.take_of_length_le (by omega)] at h9
              exact h9
            have HV : Hid (compOf fs ts = compTo fs ts nums j) := by
              show compOf fs ts = _
              unfold compOf compTo
              rw [if_pos ⟨by have := HF.out; have := HS.out; omega, HALL.out, by rw [HNU.out]; exact hNE⟩, HNU.out, List.take_of_length_le (by omega)]
            have HLn : Hid ((compTo fs ts nums j).length = j) := by
              show (compTo fs ts nums j).length = j
              simp [compTo, hnl]
            have hog := hown.row.1
            clear hne hNE hown hms hfs hts hfl htl
            go_wp2
            go_ret
            exact ⟨_, _, _, rfl, by rw [HV.out]; exact HLn.out, by rw [HV.out]; exact Or.inr ⟨go, rs, rfl, hog, hrb, htw⟩, hb⟩
  · have t1 : decide (((n : Int) + (m : Int)) > 1000) = true := decide_eq_true (by omega)
    have HV : Hid (compOf fs ts = []) := by
      show compOf fs ts = []
      unfold compOf
      rw [if_neg (fun h => by have := h.1; have := HF.out; have := HS.out; omega)]
    clear hfs hts hfl htl
    go_wp2
    go_ret
    exact ⟨_, _, _, rfl, by rw [HV.out]; rfl, by rw [HV.out]; exact Or.inl rfl, hA⟩

end Go.Proofs.Ytkmlfpfgiblcdab
