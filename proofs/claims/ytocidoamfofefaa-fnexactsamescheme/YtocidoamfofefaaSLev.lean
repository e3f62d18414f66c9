
import Derived.Test.YtocidoamfofefaaLongR
import Derived.Test.YtocidoamfofefaaYAI
import Derived.Deep.RegionWith
import Derived.BigQuiet
namespace Go.Proofs.Ytocidoamfofefaa
open Go.RowKit

/-- The numbers of the last A nodes, the last one first. -/
def bkL (t : List Nd) (A : Nat) : List Int := (List.range A).map fun j => (ndAt t (t.length - 1 - j)).num

theorem bkL_len (t : List Nd) (A : Nat) : (bkL t A).length = A := by simp [bkL]

theorem bkL_succ (t : List Nd) (A : Nat) : bkL t (A + 1) = bkL t A ++ [(ndAt t (t.length - 1 - A)).num] := by simp [bkL, List.range_succ]

/-- The last A nodes are TAlls, the one ahead of them is none. -/
structure AllsEnd (t : List Nd) (A : Nat) : Prop where
  lt : A < t.length
  all : ∀ j, j < A → (ndAt t (t.length - 1 - j)).kind = 62
  not : (ndAt t (t.length - 1 - A)).kind ≠ 62

/-- A node with a level for the number of a TAll. -/
def levN (bk : List Int) (x : Nd) : Nd := if x.kind = 60 ∨ x.kind = 62 then (if 0 ≤ lastTo bk x.num bk.length then { x with num := -1 - lastTo bk x.num bk.length } else x) else x

set_option maxHeartbeats 8000000 in
set_option maxRecDepth 100000 in
theorem l12Level_any (t : List Nd) (m : Nat) (HM : Hid (t.length = m)) (hm : m ≤ 60000) (A : Nat) (HE : Hid (AllsEnd t A)) (hA : A < m) (ao : Option Addr) (cap : Nat) (w : World) (hx : Nodes w ao t) :
    Calls Try.prog 38 #[.slice ao m cap] w fun e w' => ∃ (g c : Nat), e = .returned (.slice (some ⟨g, 0, none⟩) m c) ∧ OwnN w' w.heap.size g c m (t.map (levN (bkL t A))) ∧ Below w.heap.size w w' := by
  obtain ⟨i0, hi, hz0, hz1, hz2⟩ := info_parts Try.infoN
  obtain ⟨i1, hj1, hy0, hy1, hy2⟩ := info_parts Try.infoL12
  have nodeOf : Hid (∀ W, Below w.heap.size w W → ∀ k, k < m → ∃ b o, ao = some ⟨b, o, none⟩ ∧ NodeAt W b (o + k * 5) (ndAt t k)) := by
    intro W hW k hk
    have hkt : k < t.length := by have := HM.out; omega
    rw [ndAt_get hkt]
    exact hx.below hW k hkt
  clear hx
  obtain ⟨b0, o0, hbo, -⟩ := nodeOf.out w (Below.refl _ _) 0 (by omega)
  subst hbo
  have nodeAt : Hid (∀ W, Below w.heap.size w W → ∀ k, k < m → NodeAt W b0 (o0 + k * 5) (ndAt t k)) := by
    intro W hW k hk
    obtain ⟨b, o, e, h⟩ := nodeOf.out W hW k hk
    simp only [Option.some.injEq, Addr.mk.injEq, and_true] at e
    obtain ⟨rfl, rfl⟩ := e
    exact h
  clear nodeOf
  go_enter Try.func38, Try.ntmps38
  go_wp2
  go_loop [4] (fun vb => ∃ j : Nat, j ≤ A ∧ vb = .int .i64 ((m : Int) - 1 - (j : Int))) (fun vb => A - (m - 1 - (intOf vb)).toNat)
  case atStart => exact ⟨0, Nat.zero_le _, by simp⟩
  case round =>
    obtain ⟨j, hj, rfl⟩ := hrel
    have ej : (m : Int) - 1 - (j : Int) = ((m - 1 - j : Nat) : Int) := by omega
    obtain ⟨c0, -⟩ := nodeAt.out w (Below.refl _ _) (m - 1 - j) (by omega)
    have hlb : b0 < w.heap.size := lt_of_cell c0
    obtain ⟨p, hp⟩ : ∃ p : Nat, m - 1 - j = p := ⟨_, rfl⟩
    have HP : Hid (m - 1 - j = p) := hp
    rw [hp] at c0
    rw [ej, hp]
    have hpm : p < m := by omega
    clear ej hp
    by_cases hjA : j < A
    · have hk : (ndAt t p).kind = 62 := by rw [← HP.out, ← HM.out]; exact HE.out.all j hjA
      rw [hk] at c0
      clear hk
      go_wp2
      refine ⟨⟨j + 1, by omega, by have := HP.out; congr 1; omega⟩, ?_⟩
      have := HP.out
      simp [intOf]
      omega
    · obtain rfl : j = A := by omega
      have hk : ((ndAt t p).kind == 62) = false := by
        rw [← HP.out, ← HM.out]
        simpa using HE.out.not
      obtain ⟨kp, hkp⟩ : ∃ kp, (ndAt t p).kind = kp := ⟨_, rfl⟩
      rw [hkp] at c0 hk
      clear hkp
      have hL0 := LongsR.empty (w := w) (B := w.heap.size) (Nat.le_refl _)
      have hb0 := (Below.refl w.heap.size w).alloc (Nat.le_refl _) (.cells #[] 2)
      have HP2 : Hid ((m : Int) - 1 - (j : Int) = (p : Int)) := by show _ = _; have := HP.out; omega
      clear hj hjA
      go_wp2
      clear c0
      go_loopw [5, 6] (fun va vi wr => ∃ (l g c : Nat), l ≤ j ∧ vi = .int .i64 ((m : Int) - 1 - (l : Int)) ∧ va = .slice (some ⟨g, 0, none⟩) l c ∧ LongsR wr w.heap.size g c l (bkL t l) ∧ Below w.heap.size w wr) (fun _ vi _ => j - (m - 1 - (intOf vi)).toNat)
      case atStart => exact ⟨0, w.heap.size, 0, Nat.zero_le _, by simp, rfl, hL0, hb0⟩
      case round =>
        clear hL0 hb0
        obtain ⟨l, g, c, hl, rfl, rfl, hal, hbw⟩ := hrel
        have hob := hal.block
        by_cases hlA : l < j
        · have el : (m : Int) - 1 - (l : Int) = ((m - 1 - l : Nat) : Int) := by omega
          obtain ⟨q, hq⟩ : ∃ q : Nat, m - 1 - l = q := ⟨_, rfl⟩
          have HQ : Hid (m - 1 - l = q) := hq
          have hqm : q < m := by omega
          have hpq : p < q := by have := HP.out; omega
          have HS : Hid (bkL t (l + 1) = bkL t l ++ [(ndAt t q).num]) := by show _ = _; rw [bkL_succ, HM.out, HQ.out]
          obtain ⟨-, c1, -⟩ := nodeAt.out wr hbw q hqm
          have hlbr : b0 < wr.heap.size := lt_of_cell c1
          obtain ⟨nm, hnm⟩ : ∃ nm, (ndAt t q).num = nm := ⟨_, rfl⟩
          rw [hnm] at c1 HS
          rw [el, hq]
          have hs9 := hbw.size
          clear hnm hq el
          go_wp2_with (at_builtin; refine wpList_append2 _ rfl (.tmp 30) (.tmp 36) 75 rfl w.heap.size 2 i1 _ 1 8 Try.underlying75 hj1 hy0 hy1 hy2 rfl (by decide) g l c _ rfl (hal.alloc _).2 ⟨_, 0, none⟩ 1 1 [.int .i64 nm] rfl rfl (longR_cell _ _) (longR_one _) ?b3 ?b4 ?b5 ?_)
          case b3 => unfold maxLen; omega
          case b4 => omega
          case b5 => simp; omega
          intro g5 c5 w5 hown5 hgrow5 hwh5
          have hO : LongsR w5 w.heap.size g5 c5 (l + 1) (bkL t (l + 1)) := by rw [HS.out]; exact LongsR.push hown5 hal.1 rfl
          have hb5 : Below w.heap.size w w5 := (hbw.alloc hbw.size _).grown hgrow5 (by have := hbw.size; simp; omega) (fun q hq => by cases hq; exact hob.1)
          clear hown5 hgrow5 hwh5 hal hbw c1
          go_wp2
          go_roundw
          case rel => exact ⟨l + 1, g5, c5, by omega, by have := HQ.out; congr 1; omega, rfl, hO, hb5⟩
          case measure => have := HQ.out; simp [intOf]; omega
        · obtain rfl : l = j := by omega
          obtain ⟨wq, rfl⟩ : ∃ wq, wq = wr := ⟨_, rfl⟩
          have HAL : Hid (LongsR wq w.heap.size g c l (bkL t l)) := hal
          rw [HP2.out]
          have hO0 := OwnN.empty (w := wq) (B := w.heap.size) hbw.size
          have hal0 := hal.alloc (.cells #[] 39)
          have hbo := hbw.alloc hbw.size (.cells #[] 39)
          have hgr : g < wq.heap.size := hob.2
          clear hal hbw
          go_wp2
          clear HAL
          go_loopw [7, 8] (fun vo vi wr => ∃ (k go co : Nat), k ≤ m ∧ vi = .int .i64 (k : Int) ∧ vo = .slice (some ⟨go, 0, none⟩) k co ∧ OwnN wr w.heap.size go co k ((t.take k).map (levN (bkL t l))) ∧ LongsR wr w.heap.size g c l (bkL t l) ∧ Below w.heap.size w wr ∧ go ≠ g) (fun _ vi _ => m - (intOf vi).toNat)
          case atStart => exact ⟨0, wq.heap.size, 0, Nat.zero_le _, rfl, rfl, by simpa using hO0, hal0, hbo, by omega⟩
          case round =>
            clear hO0 hal0 hbo
            obtain ⟨k, go, co, hk, rfl, rfl, hown, hal, hbw, hgg⟩ := hrel
            by_cases hkm : k < m
            rotate_left
            · obtain rfl : k = m := by omega
              have HO : Hid (OwnN wr w.heap.size go co k (t.map (levN (bkL t l)))) := by
                show OwnN _ _ _ _ _ _
                rw [List.take_of_length_le (by have := HM.out; omega)] at hown
                exact hown
              clear hown hal
              go_wp2
              go_ret
              exact ⟨go, co, rfl, HO.out, hbw⟩
            have hkt : k < t.length := by have := HM.out; omega
            have HS : Hid ((t.take (k + 1)).map (levN (bkL t l)) = (t.take k).map (levN (bkL t l)) ++ [levN (bkL t l) (ndAt t k)]) := by
              show _ = _
              rw [List.take_succ_eq_append_getElem hkt, List.map_append, ndAt_get hkt]
              rfl
            obtain ⟨c0, c1, c2, c3, c4⟩ := nodeAt.out wr hbw k hkm
            have hlbr : b0 < wr.heap.size := lt_of_cell c0
            obtain ⟨x, hxk⟩ : ∃ x, ndAt t k = x := ⟨_, rfl⟩
            rw [hxk] at c0 c1 c2 c3 c4 HS
            clear hxk
            obtain ⟨kd, nm, tx, ks, pl⟩ := x
            simp only at c0 c1 c2 c3 c4
            obtain ⟨out, hout⟩ : ∃ out, (t.take k).map (levN (bkL t l)) = out := ⟨_, rfl⟩
            rw [hout] at hown HS
            clear hout
            have hob := owns_block hown.2
            have hgb := hal.block
            have hsz : (wr.alloc (.cells #[.int .i64 kd, .int .i64 nm, .string tx, .int .i64 ks, .int .i64 pl] 39)).heap.size = wr.heap.size + 1 := by simp
            have rW : Row (wr.alloc (.cells #[.int .i64 kd, .int .i64 nm, .string tx, .int .i64 ks, .int .i64 pl] 39)) wr.heap.size [⟨kd, nm, tx, ks, pl⟩] :=
              (show OwnN _ w.heap.size wr.heap.size 1 1 [⟨kd, nm, tx, ks, pl⟩] from ⟨rfl, rfl, Or.inr ⟨_, 1, _, rfl, hbw.size, heap_alloc_new _ _, Nat.le_refl _, by simp [maxLen], rfl, by simp [flat, Nd.row]⟩⟩).row.2
            have bW := (Below.refl wr.heap.size wr).alloc (Nat.le_refl _) (.cells #[.int .i64 kd, .int .i64 nm, .string tx, .int .i64 ks, .int .i64 pl] 39)
            have hoW := hown.below bW
            have haW := hal.below bW
            have b1W := Below.step hbw bW
            have hzb := hbw.size
            have hbk := bkL_len t l
            obtain ⟨bk, hbk2⟩ : ∃ bk, bkL t l = bk := ⟨_, rfl⟩
            rw [hbk2] at hbk hal haW HS ⊢
            have HBK : Hid (bk.length = l) := hbk
            have HB2 : Hid (bkL t l = bk) := hbk2
            clear hbk hbk2
            by_cases hkk : kd = 60 ∨ kd = 62
            rotate_left
            · have HL : Hid (levN bk ⟨kd, nm, tx, ks, pl⟩ = ⟨kd, nm, tx, ks, pl⟩) := by show _ = _; unfold levN; rw [if_neg hkk]
              have t60 : (kd == 60) = false := by simp; omega
              have t62 : (kd == 62) = false := by simp; omega
              clear hkk
              have hoX := hoW.alloc (.cells #[.int .i64 kd, .int .i64 nm, .string tx, .int .i64 ks, .int .i64 pl] 39)
              have haX := haW.alloc (.cells #[.int .i64 kd, .int .i64 nm, .string tx, .int .i64 ks, .int .i64 pl] 39)
              have bX := b1W.alloc b1W.size (.cells #[.int .i64 kd, .int .i64 nm, .string tx, .int .i64 ks, .int .i64 pl] 39)
              have hsW := b1W.size
              clear hown hal hbw bW
              have hcells := nd_new_cells (wr.alloc (.cells #[.int .i64 kd, .int .i64 nm, .string tx, .int .i64 ks, .int .i64 pl] 39)) ⟨kd, nm, tx, ks, pl⟩
              rw [hsz] at hcells
              go_wp2_with (at_builtin; refine wpList_append2 _ rfl (.tmp 66) (.tmp 68) 25 rfl w.heap.size 39 i0 _ 5 48 Try.underlying25 hi hz0 hz1 hz2 rfl (by decide) go k co _ rfl hoX.2 ⟨_, 0, none⟩ 1 1 (Nd.row ⟨kd, nm, tx, ks, pl⟩) rfl rfl hcells (nd_row_one _) ?a3 ?a4 ?a5 ?_)
              case a3 => unfold maxLen; omega
              case a4 => omega
              case a5 => first | omega | (simp; omega)
              intro g2 c2' w8 hown4 hgrow2 hwh
              have hO4 := OwnN.push hown4 hoX.1 rfl
              have hbb : Below w.heap.size w w8 := bX.grown hgrow2 (by first | omega | (simp; omega)) (fun q hq => by cases hq; exact hob.1)
              have ha8 := haX.kept hgrow2 (fun e => hgg e.symm)
              have hne2 : g2 ≠ g := by rcases hwh with h | h <;> (try simp at h) <;> omega
              clear hown4 hgrow2 hwh hoX haX bX hoW haW b1W rW c0 c1 c2 c3 c4
              go_wp2
              go_roundw
              case rel => exact ⟨k + 1, g2, c2', by omega, by go_num, rfl, by rw [HS.out, HL.out]; exact hO4, ha8, hbb, hne2⟩
              case measure => simp [intOf]; omega
            have HV : Hid (levN bk ⟨kd, nm, tx, ks, pl⟩ = if 0 ≤ lastTo bk nm l then ⟨kd, -1 - lastTo bk nm l, tx, ks, pl⟩ else ⟨kd, nm, tx, ks, pl⟩) := by
              show _ = _
              unfold levN
              rw [if_pos hkk, HBK.out]
            have HIN := l12In_any bk l HBK (by omega) (some ⟨g, 0, none⟩) c nm _ haW.nums
            have hge := lastTo_ge bk nm l
            obtain ⟨r, hr⟩ : ∃ r, lastTo bk nm l = r := ⟨_, rfl⟩
            rw [hr] at HIN HV hge
            clear hr
            by_cases hr0 : 0 ≤ r
            rotate_left
            · obtain rfl : r = -1 := by omega
              have HL : Hid (levN bk ⟨kd, nm, tx, ks, pl⟩ = ⟨kd, nm, tx, ks, pl⟩) := by show _ = _; rw [HV.out, if_neg hr0]
              clear HV hge hr0
              rcases hkk with rfl | rfl
              · go_wp2_with fail
                refine HIN.mono ?_
                rintro e w3 ⟨rfl, rfl⟩
                clear HIN
                have hoX := hoW.alloc (.cells #[.int .i64 60, .int .i64 nm, .string tx, .int .i64 ks, .int .i64 pl] 39)
                have haX := haW.alloc (.cells #[.int .i64 60, .int .i64 nm, .string tx, .int .i64 ks, .int .i64 pl] 39)
                have bX := b1W.alloc b1W.size (.cells #[.int .i64 60, .int .i64 nm, .string tx, .int .i64 ks, .int .i64 pl] 39)
                have hsW := b1W.size
                have hcells := nd_new_cells (wr.alloc (.cells #[.int .i64 60, .int .i64 nm, .string tx, .int .i64 ks, .int .i64 pl] 39)) ⟨60, nm, tx, ks, pl⟩
                rw [hsz] at hcells
                clear c0 c1 c2 c3 c4 hown hal hbw bW
                go_wp2_with (at_builtin; refine wpList_append2 _ rfl (.tmp 66) (.tmp 68) 25 rfl w.heap.size 39 i0 _ 5 48 Try.underlying25 hi hz0 hz1 hz2 rfl (by decide) go k co _ rfl hoX.2 ⟨_, 0, none⟩ 1 1 (Nd.row ⟨60, nm, tx, ks, pl⟩) rfl rfl hcells (nd_row_one _) ?a3 ?a4 ?a5 ?_)
                case a3 => unfold maxLen; omega
                case a4 => omega
                case a5 => first | omega | (simp; omega)
                intro g2 c2' w8 hown4 hgrow2 hwh
                have hO4 := OwnN.push hown4 hoX.1 rfl
                have hbb : Below w.heap.size w w8 := bX.grown hgrow2 (by first | omega | (simp; omega)) (fun q hq => by cases hq; exact hob.1)
                have ha8 := haX.kept hgrow2 (fun e => hgg e.symm)
                have hne2 : g2 ≠ g := by rcases hwh with h | h <;> (try simp at h) <;> omega
                clear hown4 hgrow2 hwh hoX haX bX hoW haW b1W rW
                go_wp2
                go_roundw
                case rel => exact ⟨k + 1, g2, c2', by omega, by go_num, rfl, by rw [HS.out, HL.out]; exact hO4, ha8, hbb, hne2⟩
                case measure => simp [intOf]; omega
              · go_wp2_with fail
                refine HIN.mono ?_
                rintro e w3 ⟨rfl, rfl⟩
                clear HIN
                have hoX := hoW.alloc (.cells #[.int .i64 62, .int .i64 nm, .string tx, .int .i64 ks, .int .i64 pl] 39)
                have haX := haW.alloc (.cells #[.int .i64 62, .int .i64 nm, .string tx, .int .i64 ks, .int .i64 pl] 39)
                have bX := b1W.alloc b1W.size (.cells #[.int .i64 62, .int .i64 nm, .string tx, .int .i64 ks, .int .i64 pl] 39)
                have hsW := b1W.size
                have hcells := nd_new_cells (wr.alloc (.cells #[.int .i64 62, .int .i64 nm, .string tx, .int .i64 ks, .int .i64 pl] 39)) ⟨62, nm, tx, ks, pl⟩
                rw [hsz] at hcells
                clear c0 c1 c2 c3 c4 hown hal hbw bW
                go_wp2_with (at_builtin; refine wpList_append2 _ rfl (.tmp 66) (.tmp 68) 25 rfl w.heap.size 39 i0 _ 5 48 Try.underlying25 hi hz0 hz1 hz2 rfl (by decide) go k co _ rfl hoX.2 ⟨_, 0, none⟩ 1 1 (Nd.row ⟨62, nm, tx, ks, pl⟩) rfl rfl hcells (nd_row_one _) ?a3 ?a4 ?a5 ?_)
                case a3 => unfold maxLen; omega
                case a4 => omega
                case a5 => first | omega | (simp; omega)
                intro g2 c2' w8 hown4 hgrow2 hwh
                have hO4 := OwnN.push hown4 hoX.1 rfl
                have hbb : Below w.heap.size w w8 := bX.grown hgrow2 (by first | omega | (simp; omega)) (fun q hq => by cases hq; exact hob.1)
                have ha8 := haX.kept hgrow2 (fun e => hgg e.symm)
                have hne2 : g2 ≠ g := by rcases hwh with h | h <;> (try simp at h) <;> omega
                clear hown4 hgrow2 hwh hoX haX bX hoW haW b1W rW
                go_wp2
                go_roundw
                case rel => exact ⟨k + 1, g2, c2', by omega, by go_num, rfl, by rw [HS.out, HL.out]; exact hO4, ha8, hbb, hne2⟩
                case measure => simp [intOf]; omega
            · have HL : Hid (levN bk ⟨kd, nm, tx, ks, pl⟩ = ⟨kd, -1 - r, tx, ks, pl⟩) := by show _ = _; rw [HV.out, if_pos hr0]
              clear HV
              rcases hkk with rfl | rfl
              · go_wp2_with fail
                refine HIN.mono ?_
                rintro e w3 ⟨rfl, rfl⟩
                clear HIN
                generalize wr.alloc (.cells #[.int .i64 60, .int .i64 nm, .string tx, .int .i64 ks, .int .i64 pl] 39) = W0 at hoW haW b1W rW hsz ⊢
                obtain ⟨z, hzz⟩ : ∃ z, wr.heap.size = z := ⟨_, rfl⟩
                rw [hzz] at rW hsz hzb hob hgb ⊢
                clear hzz
                obtain ⟨d0, d1, d2, d3, d4⟩ := rW.node 0 (by simp)
                simp only [List.getElem_cons_zero, Nat.zero_mul, Nat.zero_add] at d0 d1 d2 d3 d4
                have hfz := rW.frozen 1
                have lz : z < W0.heap.size := by omega
                have hgoz : go ≠ z := by omega
                have hgz : g ≠ z := by omega
                obtain ⟨hown3, hal3, hb3, hcells⟩ := setR_push hoW haW b1W (z := z) hzb hgoz hgz 60 (-1 - r) tx ks pl
                rw [hsz] at hcells
                have hsW := b1W.size
                clear c0 c1 c2 c3 c4 hown hal hbw bW hoW haW b1W rW
                go_wp2_with (at_builtin; refine wpList_append2 _ rfl (.tmp 66) (.tmp 68) 25 rfl w.heap.size 39 i0 _ 5 48 Try.underlying25 hi hz0 hz1 hz2 rfl (by decide) go k co _ rfl hown3.2 ⟨_, 0, none⟩ 1 1 (Nd.row ⟨60, -1 - r, tx, ks, pl⟩) rfl rfl hcells (nd_row_one _) ?a3 ?a4 ?a5 ?_)
                case a3 => unfold maxLen; omega
                case a4 => omega
                case a5 => first | omega | (simp; omega)
                intro g2 c2' w8 hown4 hgrow2 hwh
                have hO4 := OwnN.push hown4 hown3.1 rfl
                have hbb : Below w.heap.size w w8 := hb3.grown hgrow2 (by first | omega | (simp; omega)) (fun q hq => by cases hq; exact hob.1)
                have ha8 := hal3.kept hgrow2 (fun e => hgg e.symm)
                have hne2 : g2 ≠ g := by rcases hwh with h | h <;> (try simp at h) <;> omega
                clear hown4 hgrow2 hwh hown3 hal3 hb3 hcells d0 d1 d2 d3 d4
                go_wp2
                go_roundw
                case rel => exact ⟨k + 1, g2, c2', by omega, by go_num, rfl, by rw [HS.out, HL.out]; exact hO4, ha8, hbb, hne2⟩
                case measure => simp [intOf]; omega
              · go_wp2_with fail
                refine HIN.mono ?_
                rintro e w3 ⟨rfl, rfl⟩
                clear HIN
                generalize wr.alloc (.cells #[.int .i64 62, .int .i64 nm, .string tx, .int .i64 ks, .int .i64 pl] 39) = W0 at hoW haW b1W rW hsz ⊢
                obtain ⟨z, hzz⟩ : ∃ z, wr.heap.size = z := ⟨_, rfl⟩
                rw [hzz] at rW hsz hzb hob hgb ⊢
                clear hzz
                obtain ⟨d0, d1, d2, d3, d4⟩ := rW.node 0 (by simp)
                simp only [List.getElem_cons_zero, Nat.zero_mul, Nat.zero_add] at d0 d1 d2 d3 d4
                have hfz := rW.frozen 1
                have lz : z < W0.heap.size := by omega
                have hgoz : go ≠ z := by omega
                have hgz : g ≠ z := by omega
                obtain ⟨hown3, hal3, hb3, hcells⟩ := setR_push hoW haW b1W (z := z) hzb hgoz hgz 62 (-1 - r) tx ks pl
                rw [hsz] at hcells
                have hsW := b1W.size
                clear c0 c1 c2 c3 c4 hown hal hbw bW hoW haW b1W rW
                go_wp2_with (at_builtin; refine wpList_append2 _ rfl (.tmp 66) (.tmp 68) 25 rfl w.heap.size 39 i0 _ 5 48 Try.underlying25 hi hz0 hz1 hz2 rfl (by decide) go k co _ rfl hown3.2 ⟨_, 0, none⟩ 1 1 (Nd.row ⟨62, -1 - r, tx, ks, pl⟩) rfl rfl hcells (nd_row_one _) ?a3 ?a4 ?a5 ?_)
                case a3 => unfold maxLen; omega
                case a4 => omega
                case a5 => first | omega | (simp; omega)
                intro g2 c2' w8 hown4 hgrow2 hwh
                have hO4 := OwnN.push hown4 hown3.1 rfl
                have hbb : Below w.heap.size w w8 := hb3.grown hgrow2 (by first | omega | (simp; omega)) (fun q hq => by cases hq; exact hob.1)
                have ha8 := hal3.kept hgrow2 (fun e => hgg e.symm)
                have hne2 : g2 ≠ g := by rcases hwh with h | h <;> (try simp at h) <;> omega
                clear hown4 hgrow2 hwh hown3 hal3 hb3 hcells d0 d1 d2 d3 d4
                go_wp2
                go_roundw
                case rel => exact ⟨k + 1, g2, c2', by omega, by go_num, rfl, by rw [HS.out, HL.out]; exact hO4, ha8, hbb, hne2⟩
                case measure => simp [intOf]; omega

end Go.Proofs.Ytocidoamfofefaa
