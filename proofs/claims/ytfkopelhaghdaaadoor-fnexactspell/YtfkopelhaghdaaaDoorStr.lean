import Derived.Test.YtfkopelhaghdaaaDoorInt
namespace Go.Proofs.YtfkopelhaghdaaaDoor
open Go.RowKit Go.Lib

/-- A byte of a string as it is spelled. -/
def esc (b : UInt8) : List UInt8 :=
  if b = 10 then [92, 110] else if b = 9 then [92, 116] else if b = 92 ∨ b = 34 then [92, b]
  else if 32 ≤ b.toNat ∧ b.toNat ≤ 126 then [b] else [92, UInt8.ofNat (48 + b.toNat / 100), UInt8.ofNat (48 + b.toNat / 10 % 10), UInt8.ofNat (48 + b.toNat % 10)]

def cellsB (l : List UInt8) : List Value := l.map fun b => .int .u8 (b.toNat : Int)

def soFar (s : ByteArray) (k : Nat) : List UInt8 := 34 :: (s.data.toList.take k).flatMap esc

theorem Tryd.infoB : (Tryd.prog.info? 5).map (fun i => (i.zero, i.size, i.bytes)) = some (some (.int .u8 0), 1, 1) := by kernel_rfl

theorem esc_le (b : UInt8) : (esc b).length ≤ 4 := by
  unfold esc
  split
  · simp
  · split
    · simp
    · split
      · simp
      · split <;> simp

theorem flat_le (l : List UInt8) : (l.flatMap esc).length ≤ 4 * l.length := by
  induction l with
  | nil => simp
  | cons b l ih =>
    have := esc_le b
    rw [List.flatMap_cons, List.length_append, List.length_cons]
    omega

theorem soFar_le (s : ByteArray) (k : Nat) (hk : k ≤ s.size) : (soFar s k).length ≤ 1 + 4 * k := by
  have := flat_le (s.data.toList.take k)
  have e : (s.data.toList.take k).length ≤ k := by simp; omega
  unfold soFar
  simp only [List.length_cons]
  omega

/-- Bytes that the call owns. -/
def OwnB (w : World) (B : Nat) (v : Value) (l : List UInt8) : Prop := w.ownsRow B 5 1 v l.length (cellsB l)

theorem cells_at (w : World) (l : List Value) (j : Nat) (u : Value) (h : l[j]? = some u) :
    (w.alloc (.cells l.toArray 5)).cell? (Addr.add ⟨w.heap.size, 0, none⟩ j) = some u := by
  have ad : Addr.add ⟨w.heap.size, 0, none⟩ j = ⟨w.heap.size, j, none⟩ := by
    cases j <;> simp [Addr.add]
  rw [ad, cell_of_row _ w.heap.size j _ 5 (0, 0) (heap_alloc_new _ _)]
  simpa using h

theorem cellsB_one (l : List UInt8) : ∀ u ∈ cellsB l, u.oneCell' = true := by
  intro u hu
  simp only [cellsB, List.mem_map] at hu
  obtain ⟨b, _, rfl⟩ := hu
  rfl

theorem esc_10 (b : UInt8) (h : b.toNat = 10) : [.int .u8 92, .int .u8 110] = cellsB (esc b) := by
  obtain rfl : b = 10 := UInt8.toNat_inj.1 h
  rfl

theorem esc_9 (b : UInt8) (h : b.toNat = 9) : [.int .u8 92, .int .u8 116] = cellsB (esc b) := by
  obtain rfl : b = 9 := UInt8.toNat_inj.1 h
  rfl

theorem esc_92 (b : UInt8) (h : b.toNat = 92) : [.int .u8 92, .int .u8 92] = cellsB (esc b) := by
  obtain rfl : b = 92 := UInt8.toNat_inj.1 h
  rfl

theorem esc_34 (b : UInt8) (h : b.toNat = 34) : [.int .u8 92, .int .u8 34] = cellsB (esc b) := by
  obtain rfl : b = 34 := UInt8.toNat_inj.1 h
  rfl

theorem b_ne (b c : UInt8) (h : ¬ b.toNat = c.toNat) : ¬ b = c := fun e => h (by rw [e])

theorem esc_p (b : UInt8) (h92 : ¬ b.toNat = 92) (h34 : ¬ b.toNat = 34) (hp : 32 ≤ b.toNat ∧ b.toNat ≤ 126) : [.int .u8 (b.toNat : Int)] = cellsB (esc b) := by
  unfold esc
  rw [if_neg (b_ne b 10 (by have : (10 : UInt8).toNat = 10 := rfl; omega)), if_neg (b_ne b 9 (by have : (9 : UInt8).toNat = 9 := rfl; omega)),
    if_neg (fun e => e.elim (b_ne b 92 h92) (b_ne b 34 h34)), if_pos hp]
  rfl

theorem esc_far (b : UInt8) (h10 : ¬ b.toNat = 10) (h9 : ¬ b.toNat = 9) (h92 : ¬ b.toNat = 92) (h34 : ¬ b.toNat = 34) (hp : ¬ (32 ≤ b.toNat ∧ b.toNat ≤ 126)) :
    esc b = [92, UInt8.ofNat (48 + b.toNat / 100), UInt8.ofNat (48 + b.toNat / 10 % 10), UInt8.ofNat (48 + b.toNat % 10)] := by
  unfold esc
  rw [if_neg (b_ne b 10 h10), if_neg (b_ne b 9 h9), if_neg (fun e => e.elim (b_ne b 92 h92) (b_ne b 34 h34)), if_neg hp]

theorem esc_n (b : UInt8) (h10 : ¬ b.toNat = 10) (h9 : ¬ b.toNat = 9) (h92 : ¬ b.toNat = 92) (h34 : ¬ b.toNat = 34) (hp : ¬ (32 ≤ b.toNat ∧ b.toNat ≤ 126)) :
    [.int .u8 92, .int .u8 (48 + (b.toNat : Int) / 100), .int .u8 (48 + (b.toNat : Int) / 10 % 10), .int .u8 (48 + (b.toNat : Int) % 10)] = cellsB (esc b) := by
  rw [esc_far b h10 h9 h92 h34 hp]
  have hb : b.toNat < 256 := b.toNat_lt
  have e : ∀ m : Nat, m < 256 → ((UInt8.ofNat m).toNat : Int) = (m : Int) := fun m hm => by
    simp [Nat.mod_eq_of_lt hm]
  simp only [cellsB, List.map_cons, List.map_nil]
  rw [e _ (by omega), e _ (by omega), e _ (by omega)]
  simp

theorem own_new (w : World) (l : List UInt8) (n : Nat) (h : l.length = n) (hn : n ≤ maxLen) (B : Nat) (hB : B ≤ w.heap.size) : OwnB (w.alloc (.cells (cellsB l).toArray 5)) B (.slice (some ⟨w.heap.size, 0, none⟩) n n) l := by
  unfold OwnB
  rw [h]
  refine ⟨by simp [cellsB, h], .inr ⟨w.heap.size, n, _, rfl, hB, heap_alloc_new _ _, Nat.le_refl _, hn, by simp [cellsB, h], ?_⟩⟩
  simp only [Nat.mul_one]
  exact List.take_of_length_le (by simp [cellsB, h])

/-- What is owned, turned to a string. -/
theorem own_string {w : World} {B : Nat} {v : Value} {l : List UInt8} (h : OwnB w B v l) (hl : 0 < l.length) : (convert 31 9 v).run Tryd.prog w = .ok (.string ⟨l.toArray⟩) w := by
  obtain ⟨g, hg⟩ : ∃ g, v.ownBlock = some g := by
    rcases h.2 with ⟨_, h0⟩ | ⟨g, c, cur, rfl, _⟩
    · omega
    · exact ⟨g, rfl⟩
  have hc := World.ownsRow.cells h hg
  rcases h.2 with ⟨_, h0⟩ | ⟨g', c, cur, rfl, _⟩
  · omega
  obtain rfl : g' = g := by simpa [Value.ownBlock] using hg
  exact run_convert_bytes_back w 31 9 5 _ c l Tryd.underlying31 Tryd.underlying5 Tryd.underlying9 (fun j hj => hc j _ (by simp [cellsB, List.getElem?_eq_getElem hj]))

theorem soFar_step (s : ByteArray) (k : Nat) (hk : k < s.size) : soFar s (k + 1) = soFar s k ++ esc s[k] := by
  unfold soFar
  have h : k < s.data.toList.length := by simpa using hk
  rw [List.take_succ_eq_append_getElem h, List.flatMap_append, List.cons_append]
  simp
  rfl

/-- Behind an append of bytes that lie in a block of their own. -/
theorem pushed {w wr wq : World} {v v' : Value} {s : ByteArray} {k m : Nat} {news : List Value} (hk : k < s.size) (hown : OwnB wr w.heap.size v (soFar s k)) (hb : Below w.heap.size w wr)
    (hm : news.length = m) (he : news = cellsB (esc s[k]))
    (h2 : wq.ownsRow w.heap.size 5 1 v' ((soFar s k).length + m) (cellsB (soFar s k) ++ news)) (h3 : (wr.alloc (.cells news.toArray 5)).grownBy wq v.ownBlock) :
    OwnB wq w.heap.size v' (soFar s (k + 1)) ∧ Below w.heap.size w wq := by
  subst he
  refine ⟨?_, ?_⟩
  · unfold OwnB
    rw [soFar_step s k hk, List.length_append]
    have e : (esc s[k]).length = m := by simpa [cellsB] using hm
    rw [e]
    have e2 : cellsB (soFar s k ++ esc s[k]) = cellsB (soFar s k) ++ cellsB (esc s[k]) := by simp [cellsB]
    rw [e2]
    exact h2
  · exact (hb.alloc hb.size _).grown h3 (by have := hb.size; simp; omega) (fun q hq => (World.ownsRow.lt hown q hq).1)

set_option maxHeartbeats 1000000 in
theorem str_any (s : ByteArray) (hs : s.size ≤ 1048576) (w : World) :
    Calls Tryd.prog 9 #[.string s] w fun e w' => e = .returned (.string ⟨(soFar s s.size ++ [34]).toArray⟩) ∧ Below w.heap.size w w' := by
  obtain ⟨i0, hi, hzz⟩ := Option.map_eq_some_iff.1 Tryd.infoB
  simp only [Prod.mk.injEq] at hzz
  obtain ⟨hz0, hz1, hz2⟩ := hzz
  go_enter Tryd.func9, Tryd.ntmps9
  go_wp2
  go_loopw [3, 4] (fun v i wr => ∃ (k : Nat), k ≤ s.size ∧ i = .int .i64 k ∧ OwnB wr w.heap.size v (soFar s k) ∧ Below w.heap.size w wr) (fun _ i _ => s.size - (RowKit.intOf i).toNat)
  case atStart => exact ⟨0, Nat.zero_le _, rfl, own_new w [34] 1 rfl (by decide) _ (Nat.le_refl _), (Below.refl _ _).alloc (Nat.le_refl _) _⟩
  case round =>
    obtain ⟨k, hk, rfl, hown, hb⟩ := hrel
    by_cases hlt : k < s.size
    · have HL : Hid ((soFar s k).length ≤ 1 + 4 * k) := soFar_le s k hk
      have hc := s[k].toNat_lt
      by_cases h10 : s[k].toNat = 10
      · have e10 : ((s[k].toNat : Int) == 10) = true := by simp; omega
        have HE : Hid ([.int .u8 92, .int .u8 110] = cellsB (esc s[k])) := esc_10 _ h10
        go_wp2_with (at_builtin; (refine wpList_append_own _ rfl _ _ 31 rfl w.heap.size 5 i0 (.int .u8 0) 1 1 Tryd.underlying31 hi hz0 hz1 hz2 rfl (by decide) _ _ _ rfl (World.ownsRow.alloc hown _) ⟨wr.heap.size, 0, none⟩ 2 2 [.int .u8 92, .int .u8 110] rfl rfl (cells_at wr _) ?c2 ?c3 ?c4 ?c5 ?_))
        case c2 => first | (rw [HE.out]; exact cellsB_one _) | exact ⟨rfl, rfl, rfl, rfl⟩
        case c3 => have := HL.out; unfold maxLen; omega
        case c4 => have := HL.out; omega
        case c5 => have := hb.size; simp; omega
        intro v' wq h2 h3 _
        obtain ⟨H2, hbb⟩ := pushed hlt hown hb rfl HE.out h2 h3
        clear hown hb h2 h3
        go_wp2
        go_roundw
        case rel => exact ⟨k + 1, by omega, by go_num, H2, hbb⟩
        case measure => simp [RowKit.intOf]; omega
      by_cases h9 : s[k].toNat = 9
      · have e10 : ((s[k].toNat : Int) == 10) = false := by simp; omega
        have e9 : ((s[k].toNat : Int) == 9) = true := by simp; omega
        have HE : Hid ([.int .u8 92, .int .u8 116] = cellsB (esc s[k])) := esc_9 _ h9
        go_wp2_with (at_builtin; (refine wpList_append_own _ rfl _ _ 31 rfl w.heap.size 5 i0 (.int .u8 0) 1 1 Tryd.underlying31 hi hz0 hz1 hz2 rfl (by decide) _ _ _ rfl (World.ownsRow.alloc hown _) ⟨wr.heap.size, 0, none⟩ 2 2 [.int .u8 92, .int .u8 116] rfl rfl (cells_at wr _) ?c2 ?c3 ?c4 ?c5 ?_))
        case c2 => first | (rw [HE.out]; exact cellsB_one _) | exact ⟨rfl, rfl, rfl, rfl⟩
        case c3 => have := HL.out; unfold maxLen; omega
        case c4 => have := HL.out; omega
        case c5 => have := hb.size; simp; omega
        intro v' wq h2 h3 _
        obtain ⟨H2, hbb⟩ := pushed hlt hown hb rfl HE.out h2 h3
        clear hown hb h2 h3
        go_wp2
        go_roundw
        case rel => exact ⟨k + 1, by omega, by go_num, H2, hbb⟩
        case measure => simp [RowKit.intOf]; omega
      by_cases h92 : s[k].toNat = 92
      · have e10 : ((s[k].toNat : Int) == 10) = false := by simp; omega
        have e9 : ((s[k].toNat : Int) == 9) = false := by simp; omega
        have e92 : ((s[k].toNat : Int) == 92) = true := by simp; omega
        have HE : Hid ([.int .u8 92, .int .u8 92] = cellsB (esc s[k])) := esc_92 _ h92
        go_wp2_with (at_builtin; (refine wpList_append_own _ rfl _ _ 31 rfl w.heap.size 5 i0 (.int .u8 0) 1 1 Tryd.underlying31 hi hz0 hz1 hz2 rfl (by decide) _ _ _ rfl (World.ownsRow.alloc hown _) ⟨wr.heap.size, 0, none⟩ 2 2 [.int .u8 92, .int .u8 92] rfl rfl (cells_at wr _) ?c2 ?c3 ?c4 ?c5 ?_))
        case c2 => first | (rw [HE.out]; exact cellsB_one _) | exact ⟨rfl, rfl, rfl, rfl⟩
        case c3 => have := HL.out; unfold maxLen; omega
        case c4 => have := HL.out; omega
        case c5 => have := hb.size; simp; omega
        intro v' wq h2 h3 _
        obtain ⟨H2, hbb⟩ := pushed hlt hown hb rfl HE.out h2 h3
        clear hown hb h2 h3
        go_wp2
        go_roundw
        case rel => exact ⟨k + 1, by omega, by go_num, H2, hbb⟩
        case measure => simp [RowKit.intOf]; omega
      by_cases h34 : s[k].toNat = 34
      · have e10 : ((s[k].toNat : Int) == 10) = false := by simp; omega
        have e9 : ((s[k].toNat : Int) == 9) = false := by simp; omega
        have e92 : ((s[k].toNat : Int) == 92) = false := by simp; omega
        have e34 : ((s[k].toNat : Int) == 34) = true := by simp; omega
        have HE : Hid ([.int .u8 92, .int .u8 34] = cellsB (esc s[k])) := esc_34 _ h34
        go_wp2_with (at_builtin; (refine wpList_append_own _ rfl _ _ 31 rfl w.heap.size 5 i0 (.int .u8 0) 1 1 Tryd.underlying31 hi hz0 hz1 hz2 rfl (by decide) _ _ _ rfl (World.ownsRow.alloc hown _) ⟨wr.heap.size, 0, none⟩ 2 2 [.int .u8 92, .int .u8 34] rfl rfl (cells_at wr _) ?c2 ?c3 ?c4 ?c5 ?_))
        case c2 => first | (rw [HE.out]; exact cellsB_one _) | exact ⟨rfl, rfl, rfl, rfl⟩
        case c3 => have := HL.out; unfold maxLen; omega
        case c4 => have := HL.out; omega
        case c5 => have := hb.size; simp; omega
        intro v' wq h2 h3 _
        obtain ⟨H2, hbb⟩ := pushed hlt hown hb rfl HE.out h2 h3
        clear hown hb h2 h3
        go_wp2
        go_roundw
        case rel => exact ⟨k + 1, by omega, by go_num, H2, hbb⟩
        case measure => simp [RowKit.intOf]; omega
      by_cases hp : 32 ≤ s[k].toNat ∧ s[k].toNat ≤ 126
      · have e10 : ((s[k].toNat : Int) == 10) = false := by simp; omega
        have e9 : ((s[k].toNat : Int) == 9) = false := by simp; omega
        have e92 : ((s[k].toNat : Int) == 92) = false := by simp; omega
        have e34 : ((s[k].toNat : Int) == 34) = false := by simp; omega
        have p1 : (32 : Int) ≤ (s[k].toNat : Int) := by omega
        have p2 : (s[k].toNat : Int) ≤ 126 := by omega
        have HE : Hid ([.int .u8 (s[k].toNat : Int)] = cellsB (esc s[k])) := esc_p _ h92 h34 hp
        go_wp2_with (at_builtin; (refine wpList_append_own _ rfl _ _ 31 rfl w.heap.size 5 i0 (.int .u8 0) 1 1 Tryd.underlying31 hi hz0 hz1 hz2 rfl (by decide) _ _ _ rfl (World.ownsRow.alloc hown _) ⟨wr.heap.size, 0, none⟩ 1 1 [.int .u8 (s[k].toNat : Int)] rfl rfl (cells_at wr _) ?c2 ?c3 ?c4 ?c5 ?_))
        case c2 => first | (rw [HE.out]; exact cellsB_one _) | exact ⟨rfl, rfl, rfl, rfl⟩
        case c3 => have := HL.out; unfold maxLen; omega
        case c4 => have := HL.out; omega
        case c5 => have := hb.size; simp; omega
        intro v' wq h2 h3 _
        obtain ⟨H2, hbb⟩ := pushed hlt hown hb rfl HE.out h2 h3
        clear hown hb h2 h3
        go_wp2
        go_roundw
        case rel => exact ⟨k + 1, by omega, by go_num, H2, hbb⟩
        case measure => simp [RowKit.intOf]; omega
      by_cases hl : s[k].toNat < 32
      · have e10 : ((s[k].toNat : Int) == 10) = false := by simp; omega
        have e9 : ((s[k].toNat : Int) == 9) = false := by simp; omega
        have e92 : ((s[k].toNat : Int) == 92) = false := by simp; omega
        have e34 : ((s[k].toNat : Int) == 34) = false := by simp; omega
        have p3 : ¬ (32 : Int) ≤ (s[k].toNat : Int) := by omega
        have HE : Hid ([.int .u8 92, .int .u8 (48 + (s[k].toNat : Int) / 100), .int .u8 (48 + (s[k].toNat : Int) / 10 % 10), .int .u8 (48 + (s[k].toNat : Int) % 10)] = cellsB (esc s[k])) := esc_n _ h10 h9 h92 h34 hp
        go_wp2_with (at_builtin; (refine wpList_append_own _ rfl _ _ 31 rfl w.heap.size 5 i0 (.int .u8 0) 1 1 Tryd.underlying31 hi hz0 hz1 hz2 rfl (by decide) _ _ _ rfl (World.ownsRow.alloc hown _) ⟨wr.heap.size, 0, none⟩ 4 4 [.int .u8 92, .int .u8 (48 + (s[k].toNat : Int) / 100), .int .u8 (48 + (s[k].toNat : Int) / 10 % 10), .int .u8 (48 + (s[k].toNat : Int) % 10)] rfl rfl (cells_at wr _) ?c2 ?c3 ?c4 ?c5 ?_))
        case c2 => first | (rw [HE.out]; exact cellsB_one _) | exact ⟨rfl, rfl, rfl, rfl⟩
        case c3 => have := HL.out; unfold maxLen; omega
        case c4 => have := HL.out; omega
        case c5 => have := hb.size; simp; omega
        intro v' wq h2 h3 _
        obtain ⟨H2, hbb⟩ := pushed hlt hown hb rfl HE.out h2 h3
        clear hown hb h2 h3
        go_wp2
        go_roundw
        case rel => exact ⟨k + 1, by omega, by go_num, H2, hbb⟩
        case measure => simp [RowKit.intOf]; omega
      have e10 : ((s[k].toNat : Int) == 10) = false := by simp; omega
      have e9 : ((s[k].toNat : Int) == 9) = false := by simp; omega
      have e92 : ((s[k].toNat : Int) == 92) = false := by simp; omega
      have e34 : ((s[k].toNat : Int) == 34) = false := by simp; omega
      have p1 : (32 : Int) ≤ (s[k].toNat : Int) := by omega
      have p4 : ¬ (s[k].toNat : Int) ≤ 126 := by omega
      have HE : Hid ([.int .u8 92, .int .u8 (48 + (s[k].toNat : Int) / 100), .int .u8 (48 + (s[k].toNat : Int) / 10 % 10), .int .u8 (48 + (s[k].toNat : Int) % 10)] = cellsB (esc s[k])) := esc_n _ h10 h9 h92 h34 hp
      go_wp2_with (at_builtin; (refine wpList_append_own _ rfl _ _ 31 rfl w.heap.size 5 i0 (.int .u8 0) 1 1 Tryd.underlying31 hi hz0 hz1 hz2 rfl (by decide) _ _ _ rfl (World.ownsRow.alloc hown _) ⟨wr.heap.size, 0, none⟩ 4 4 [.int .u8 92, .int .u8 (48 + (s[k].toNat : Int) / 100), .int .u8 (48 + (s[k].toNat : Int) / 10 % 10), .int .u8 (48 + (s[k].toNat : Int) % 10)] rfl rfl (cells_at wr _) ?c2 ?c3 ?c4 ?c5 ?_))
      case c2 => first | (rw [HE.out]; exact cellsB_one _) | exact ⟨rfl, rfl, rfl, rfl⟩
      case c3 => have := HL.out; unfold maxLen; omega
      case c4 => have := HL.out; omega
      case c5 => have := hb.size; simp; omega
      intro v' wq h2 h3 _
      obtain ⟨H2, hbb⟩ := pushed hlt hown hb rfl HE.out h2 h3
      clear hown hb h2 h3
      go_wp2
      go_roundw
      case rel => exact ⟨k + 1, by omega, by go_num, H2, hbb⟩
      case measure => simp [RowKit.intOf]; omega
    · obtain rfl : k = s.size := by omega
      have HL : Hid ((soFar s s.size).length ≤ 1 + 4 * s.size) := soFar_le s s.size hk
      go_wp2_with (at_builtin; refine wpList_append_own _ rfl _ _ 31 rfl w.heap.size 5 i0 (.int .u8 0) 1 1 Tryd.underlying31 hi hz0 hz1 hz2 rfl (by decide) _ _ _ rfl (World.ownsRow.alloc hown _) ⟨wr.heap.size, 0, none⟩ 1 1 [.int .u8 34] rfl rfl (cells_at wr _) ?c2 ?c3 ?c4 ?c5 ?_)
      case c2 => intro u hu; simp at hu; rw [hu]; rfl
      case c3 => have := HL.out; unfold maxLen; omega
      case c4 => have := HL.out; omega
      case c5 => have := hb.size; simp; omega
      intro v' wq h2 h3 _
      have H2 : OwnB wq w.heap.size v' (soFar s s.size ++ [34]) := by
        unfold OwnB
        have e2 : cellsB (soFar s s.size ++ [34]) = cellsB (soFar s s.size) ++ [.int .u8 34] := by simp [cellsB]
        rw [e2, List.length_append]
        exact h2
      have hbb : Below w.heap.size w wq := (hb.alloc hb.size _).grown h3 (by have := hb.size; simp; omega) (fun q hq => (World.ownsRow.lt hown q hq).1)
      have hcv := own_string H2 (by simp)
      clear hown hb h2 h3 H2 HL
      go_wp2
      go_ret
      exact ⟨rfl, hbb⟩

end Go.Proofs.YtfkopelhaghdaaaDoor
