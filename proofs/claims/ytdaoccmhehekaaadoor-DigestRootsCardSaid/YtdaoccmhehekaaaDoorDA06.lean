/- Package digest: mixed, half, neighbour, written. -/
import Derived.Test.YtdaoccmhehekaaaDoorR06C
import Derived.Laws.BitsAllLaws
namespace Go.Proofs.YtdaoccmhehekaaaDoor
open Go.RowKit Go.PlainAid

theorem digMixed_any (h0 : Nat) (hlt : h0 < 18446744073709551616) (w : World) :
    Calls Tryd.prog 35 #[.int .u64 (h0 : Int)] w fun e w' => e = .returned (.int .u64 ((fin h0 : Nat) : Int)) ∧ w' = w := by
  unfold fin
  have x1 : bits .xor .u64 (h0 : Int) ((h0 : Int) / 8589934592) = ((mx h0 : Nat) : Int) := xorShift_u64 h0 8589934592 hlt
  have l1 := mx_lt h0 hlt
  generalize mx h0 = h1 at *
  have x2 : IntKind.u64.wrap ((h1 : Int) * 18397679294719823053) = ((mul1 h1 : Nat) : Int) := by rw [IntKind.wrap_u64]; unfold mul1; omega
  have l2 := mul1_lt h1
  generalize mul1 h1 = h2 at *
  have x3 : bits .xor .u64 (h2 : Int) ((h2 : Int) / 8589934592) = ((mx h2 : Nat) : Int) := xorShift_u64 h2 8589934592 l2
  have l3 := mx_lt h2 l2
  generalize mx h2 = h3 at *
  have x4 : IntKind.u64.wrap ((h3 : Int) * 14181476777654086739) = ((mul2 h3 : Nat) : Int) := by rw [IntKind.wrap_u64]; unfold mul2; omega
  have l4 := mul2_lt h3
  generalize mul2 h3 = h4 at *
  have x5 : bits .xor .u64 (h4 : Int) ((h4 : Int) / 8589934592) = ((mx h4 : Nat) : Int) := xorShift_u64 h4 8589934592 l4
  generalize mx h4 = h5 at *
  go_enter Tryd.func35, Tryd.ntmps35
  go_wp2
  go_ret
  exact ⟨rfl, rfl⟩

theorem digHalf_any (n : Nat) (hn : n ≤ 1000000) (w : World) :
    Calls Tryd.prog 32 #[.int .i64 (n : Int)] w fun e w' => e = .returned (.int .i64 (((n + 1) / 2 : Nat) : Int)) ∧ w' = w := by
  have q1 : Int.tdiv (n : Int) 2 = ((n / 2 : Nat) : Int) := by rw [Int.tdiv_eq_ediv_of_nonneg (by omega)]; omega
  have q2 : (n : Int) / 2 = ((n / 2 : Nat) : Int) := by omega
  have q3 : (((n + 1) / 2 : Nat) : Int) = (n : Int) - ((n / 2 : Nat) : Int) := by omega
  rw [q3]
  have q4 : n / 2 ≤ n := by omega
  generalize n / 2 = m at *
  go_enter Tryd.func32, Tryd.ntmps32
  go_wp2
  go_ret
  exact ⟨rfl, rfl⟩

/-- The place beside another one. -/
def besideN (i : Nat) : Nat := if i % 2 = 1 then i - 1 else i + 1
theorem xor_one (i : Nat) : i ^^^ 1 = besideN i := by
  have h1 : (i ^^^ 1) / 2 = i / 2 := by
    have := Nat.xor_div_two_pow (a := i) (b := 1) (n := 1)
    simpa using this
  have h2 : (i ^^^ 1) % 2 = (i + 1) % 2 := by
    have := Nat.xor_mod_two_pow (a := i) (b := 1) (n := 1)
    simp at this
    rcases Nat.mod_two_eq_zero_or_one i with h | h
    · rw [this, h, show (0 ^^^ 1 : Nat) = 1 from rfl]; omega
    · rw [this, h, show (1 ^^^ 1 : Nat) = 0 from rfl]; omega
  unfold besideN
  split <;> omega
theorem xor_one_int (i : Nat) (hi : i ≤ 1000000) : bits .xor .i64 (i : Int) 1 = ((besideN i : Nat) : Int) := by
  rw [← xor_one]
  have h1 : (BitVec.ofInt 64 (i : Int)).toNat = i := ofInt_u64 i (by omega)
  have h2 : (BitVec.ofInt 64 (1 : Int)).toNat = 1 := ofInt_u64 1 (by omega)
  have hlt : i ^^^ 1 < 2 ^ 21 := Nat.xor_lt_two_pow (by omega) (by omega)
  show IntKind.i64.wrap ((BitVec.ofInt 64 (i : Int) ^^^ BitVec.ofInt 64 (1 : Int)).toNat : Int) = _
  rw [BitVec.toNat_xor, h1, h2, IntKind.wrap_i64]
  omega
theorem digNeighbour_any (i : Nat) (hi : i ≤ 1000000) (w : World) :
    Calls Tryd.prog 31 #[.int .i64 (i : Int)] w fun e w' => e = .returned (.int .i64 ((besideN i : Nat) : Int)) ∧ w' = w := by
  have x := xor_one_int i hi
  generalize besideN i = j at *
  go_enter Tryd.func31, Tryd.ntmps31
  go_wp2
  go_ret
  exact ⟨rfl, rfl⟩

/-! The sixteen bytes of a digest in their block. -/
structure D16 (w : World) (xs : List UInt8) (wr : World) : Prop where
  row : ∃ cur : Array Value, wr.heap[w.heap.size]? = some (.cells cur 56 (0, 0)) ∧ cur.toList = xs.map u8V
  bel : Below w.heap.size w wr
theorem D16.fz {w wr : World} {xs : List UInt8} (h : D16 w xs wr) (i : Nat) : wr.frozen? ⟨w.heap.size, i, none⟩ = false := by
  obtain ⟨cur, hr, _⟩ := h.row
  simp [World.frozen?, hr]
theorem D16.cell {w wr : World} {xs : List UInt8} (h : D16 w xs wr) (i : Nat) (hi : i < xs.length) : wr.cell? ⟨w.heap.size, i, none⟩ = some (u8V (xs.getD i 0)) := by
  obtain ⟨cur, hr, hc⟩ := h.row
  have h1 : cur[i]? = some (u8V (xs.getD i 0)) := by
    rw [← Array.getElem?_toList, hc, List.getElem?_map, List.getD_eq_getElem?_getD, List.getElem?_eq_getElem hi]
    rfl
  simp [World.cell?, hr, h1]
theorem D16.set {w wr : World} {xs : List UInt8} (h : D16 w xs wr) (i : Nat) (c : UInt8) : D16 w (xs.set i c) (wr.setCell ⟨w.heap.size, i, none⟩ (.int .u8 (c.toNat : Int))) := by
  obtain ⟨cur, hr, hc⟩ := h.row
  refine ⟨⟨cur.setIfInBounds i (.int .u8 (c.toNat : Int)), ?_, ?_⟩, h.bel.setCell (p := ⟨w.heap.size, i, none⟩) (Nat.le_refl _) _⟩
  · simp [World.setCell, Array.getElem?_modify, hr]
  · rw [Array.toList_setIfInBounds, hc, List.map_set]
    rfl
theorem D16.str {w wr : World} {xs : List UInt8} (h : D16 w xs wr) (hl : xs.length = 16) : (convert 43 9 (.slice (some ⟨w.heap.size, 0, none⟩) 16 16)).run Tryd.prog wr = .ok (.string (S xs)) wr := by
  rw [← strOfNums_S]
  have h2 := run_convert_bytes_arg (P := Tryd.prog) wr 43 5 Tryd.underlying43 Tryd.underlying5 w.heap.size 0 16 16 (xs.map fun x => (x.toNat : Int)) (by simp [hl]) (fun i hi => by
    rw [Nat.zero_add, h.cell i (by omega)]
    simp [u8V, List.getD, List.getElem?_eq_getElem (show i < xs.length by omega)]) 9 Tryd.underlying9
  exact h2
def zerosU (h j : Nat) : List UInt8 := List.replicate (16 - j) 0 ++ hexU h j
theorem zerosU_length (h j : Nat) (hj : j ≤ 16) : (zerosU h j).length = 16 := by simp [zerosU, hexU_length]; omega
theorem zerosU_set (h j : Nat) (hj : j < 16) : (zerosU h j).set (15 - j) (hx (h / 16 ^ j % 16)) = zerosU h (j + 1) := by
  unfold zerosU
  rw [show 16 - j = (15 - j) + 1 by omega, List.replicate_succ', show 16 - (j + 1) = 15 - j by omega, List.append_assoc, List.set_append_right _ _ (by simp)]
  simp [hexU]

set_option maxHeartbeats 8000000 in
theorem digWritten_any (h5 : Nat) (hlt : h5 < 18446744073709551616) (w : World) :
    Calls Tryd.prog 34 #[.int .u64 (h5 : Int)] w fun e w' => e = .returned (.string (S (hexU h5 16))) ∧ Below w.heap.size w w' := by
  generalize hds : (⟨#[48, 49, 50, 51, 52, 53, 54, 55, 56, 57, 97, 98, 99, 100, 101, 102]⟩ : ByteArray) = ds
  have hdz : ds.size = 16 := by rw [← hds]; rfl
  have HDA : RowKit.Hid (∀ r, r < 16 → bt ds r = ((hx r).toNat : Int)) := by rw [← hds]; exact digits_at
  have HDT := Lib.hid (get_bt ds)
  have HZ := Lib.hid (zerosU_set h5)
  have HZL := Lib.hid (zerosU_length h5)
  have HZE : RowKit.Hid (zerosU h5 16 = hexU h5 16) := by unfold RowKit.Hid zerosU; simp
  have h0 : D16 w (zerosU h5 0) (w.alloc (.cells #[.int .u8 0, .int .u8 0, .int .u8 0, .int .u8 0, .int .u8 0, .int .u8 0, .int .u8 0, .int .u8 0, .int .u8 0, .int .u8 0, .int .u8 0, .int .u8 0, .int .u8 0, .int .u8 0, .int .u8 0, .int .u8 0] 56)) := ⟨⟨_, heap_alloc_new w _, rfl⟩, (Below.refl w.heap.size w).alloc (Nat.le_refl _) _⟩
  go_enter Tryd.func34, Tryd.ntmps34
  rw [hds]
  clear hds
  go_wp2
  go_loopw [0, 5] (fun hh i wx => ∃ j : Nat, j ≤ 16 ∧ i = .int .i64 (j : Int) ∧ hh = .int .u64 ((h5 / 16 ^ j : Nat) : Int) ∧ D16 w (zerosU h5 j) wx) (fun _ i _ => 16 - (intOf i).toNat)
  case atStart => exact ⟨0, Nat.zero_le _, rfl, by simp, h0⟩
  case round =>
    obtain ⟨j, hj, rfl, rfl, hd⟩ := hrel
    clear h0
    by_cases hlt2 : j < 16
    · have hp : h5 / 16 ^ j ≤ h5 := Nat.div_le_self _ _
      have HP : RowKit.Hid (h5 / 16 ^ (j + 1) = h5 / 16 ^ j / 16) := by unfold RowKit.Hid; rw [Nat.pow_succ, Nat.div_div_eq_div_mul]
      have HS := Lib.hid (HZ.out j hlt2)
      have hlen := HZL.out j hj
      generalize h5 / 16 ^ j = q at HP HS hp ⊢
      have q1 : Int.tdiv (q : Int) 16 = ((q / 16 : Nat) : Int) := by rw [Int.tdiv_eq_ediv_of_nonneg (by omega)]; omega
      have q2 : (q : Int) / 16 = ((q / 16 : Nat) : Int) := by omega
      have hq : q / 16 < 18446744073709551616 := by omega
      have hc := HDA.out (q % 16) (by omega)
      have hdt := HDT.out
      generalize hx (q % 16) = c at HS hc
      generalize q / 16 = q' at q1 q2 hq HP
      generalize zerosU h5 j = xs at *
      have hp15 : (15 : Int) - (j : Int) = ((15 - j : Nat) : Int) := by omega
      have hset := hd.set (15 - j) c
      have hcell := hd.cell (15 - j) (by omega)
      have hfz := hd.fz (15 - j)
      have HSet := Lib.hid hset
      clear hset
      go_wp2
      go_roundw
      case rel =>
        refine ⟨j + 1, by omega, by go_num, by rw [HP.out], ?_⟩
        rw [← HS.out]
        exact HSet.out
      case measure => simp [intOf]; omega
    · obtain rfl : j = 16 := by omega
      rw [HZE.out] at hd
      have hb := Lib.hid hd.bel
      have hcv := hd.str (hexU_length h5 16)
      clear hd
      go_wp2
      go_ret
      exact ⟨rfl, hb.out⟩
end Go.Proofs.YtdaoccmhehekaaaDoor
