/- Package field: coded, the function that it returns, slices.IndexFunc with it. -/
import Derived.Test.YtjajihemcaihmaaGreatDoorFA07
namespace Go.Proofs.YtjajihemcaihmaaGreatDoor
open Go.RowKit Go.PlainAid

/-- A subfield's value. -/
def SV (s : Sub) : Value := .agg #[.int .u8 (s.1.toNat : Int), .string (S s.2)]
/-- A function value that looks for this code. -/
def CL (c : UInt8) (v : Value) (W : World) : Prop :=
  ∃ b, v = .func (.func 43) #[] #[.pointer (some ⟨b, 0, none⟩)] ∧ b < W.heap.size ∧ W.cell? ⟨b, 0, none⟩ = some (.int .u8 (c.toNat : Int))
theorem CL.after {c : UInt8} {v : Value} {W W' : World} (h : CL c v W) (hb : Below W.heap.size W W') : CL c v W' := by
  obtain ⟨b, rfl, h1, h2⟩ := h
  exact ⟨b, rfl, Nat.lt_of_lt_of_le h1 hb.size, (hb.cell (p := ⟨b, 0, none⟩) h1).trans h2⟩

set_option maxHeartbeats 4000000 in
theorem coded_any (c : UInt8) (w : World) :
    Calls Tryz.prog 24 #[.int .u8 (c.toNat : Int)] w fun e w' => ∃ v, e = .returned v ∧ CL c v w' ∧ Below w.heap.size w w' := by
  have b0 := (Below.refl w.heap.size w).alloc (Nat.le_refl _) (.cells #[.int .u8 (c.toNat : Int)] 5)
  have hc : CL c (.func (.func 43) #[] #[.pointer (some ⟨w.heap.size, 0, none⟩)]) (w.alloc (.cells #[.int .u8 (c.toNat : Int)] 5)) := ⟨w.heap.size, rfl, by simp, by simp⟩
  have HC := Lib.hid hc
  clear hc
  go_enter Tryz.func24, Tryz.ntmps24
  go_wp2
  go_ret
  exact ⟨_, rfl, HC.out, b0⟩

set_option maxHeartbeats 4000000 in
theorem codedIn_any (c : UInt8) (s : Sub) (b : Nat) (w : World) (hb : b < w.heap.size) (hc : w.cell? ⟨b, 0, none⟩ = some (.int .u8 (c.toNat : Int))) (r : Bool) (hr : decide (s.1 = c) = r) :
    Calls Tryz.prog 43 #[.agg #[.int .u8 (s.1.toNat : Int), .string (S s.2)], .pointer (some ⟨b, 0, none⟩)] w fun e w' => e = .returned (.bool r) ∧ Below w.heap.size w w' := by
  have b0 := (Below.refl w.heap.size w).alloc (Nat.le_refl _) (.cells #[.int .u8 (s.1.toNat : Int), .string (S s.2)] 32)
  have hc' := (b0.cell (p := ⟨b, 0, none⟩) hb).trans hc
  have hrr : (((s.1.toNat : Nat) : Int) == ((c.toNat : Nat) : Int)) = r := by
    rw [← hr, Bool.eq_iff_iff, beq_iff_eq, decide_eq_true_iff, ← UInt8.toNat_inj]
    omega
  have hne : b ≠ w.heap.size := Nat.ne_of_lt hb
  clear hr hc
  generalize ((s.1.toNat : Nat) : Int) = x at *
  generalize ((c.toNat : Nat) : Int) = y at *
  generalize S s.2 = t at *
  go_enter Tryz.func43, Tryz.ntmps43
  go_wp2
  go_ret
  exact ⟨rfl, b0⟩

set_option maxHeartbeats 8000000 in
theorem index_hit (L : List Sub) (u fv : Value) (w : World) (hu : QL u L w) (c : UInt8) (hf : CL c fv w) (k : Nat) (hk : k < L.length) (hj : ∀ j, j < k → (L.getD j sub0).1 ≠ c) (he : (L.getD k sub0).1 = c) :
    Calls Tryz.prog 23 #[u, fv] w fun e w' => e = .returned (.int .i64 (k : Int)) ∧ Below w.heap.size w w' := by
  obtain ⟨a, cap, rfl, hcap, hmax, _, hcell⟩ := hu
  obtain ⟨b, rfl, hb, hbc⟩ := hf
  unfold maxLen at hmax
  obtain ⟨n, hn⟩ : ∃ n, L.length = n := ⟨_, rfl⟩
  have HCell := Lib.hid hcell
  rw [hn] at hcap hk ⊢
  have HN := Lib.hid hn
  have HJ := Lib.hid hj
  have cI := Lib.hid (fun s W hb hc r hr => codedIn_any c s b W hb hc r hr)
  clear hcell hn hj
  go_enter Tryz.func23, Tryz.ntmps23
  go_wp2
  go_loopw [8] (fun i wr => ∃ m : Nat, m ≤ k ∧ i = .int .i64 (m : Int) ∧ Below w.heap.size w wr) (fun i _ => n - (intOf i).toNat)
  case atStart => exact ⟨0, Nat.zero_le _, rfl, Below.refl _ _⟩
  case round =>
    obtain ⟨m, hm, rfl, hbw⟩ := hrel
    obtain ⟨g, o, rfl, hg, c1, c2⟩ := HCell.out m (by rw [HN.out]; omega)
    have c1 := (hbw.cell (p := ⟨g, o + m * 2, none⟩) hg).trans c1
    have c2 := (hbw.cell (p := ⟨g, o + m * 2 + 1, none⟩) hg).trans c2
    have i1 : (0 : Int) ≤ (m : Int) := by omega
    have i2 : (m : Int) < (n : Int) := by omega
    have hbc' := (hbw.cell (p := ⟨b, 0, none⟩) hb).trans hbc
    have hlt : b < wr.heap.size := Nat.lt_of_lt_of_le hb hbw.size
    by_cases hmk : m < k
    · have hc := cI.out (L.getD m sub0) wr hlt hbc' false (decide_eq_false (HJ.out m hmk))
      clear hbc hbc'
      generalize (((L.getD m sub0).1.toNat : Nat) : Int) = x at *
      generalize S (L.getD m sub0).2 = y at *
      go_wp2_with fail
      refine hc.mono ?_
      rintro e w1 ⟨rfl, hb1⟩
      have hb2 := hbw.trans (hb1.mono hbw.size)
      go_wp2
      go_roundw
      case rel => exact ⟨m + 1, by omega, by go_num, hb2⟩
      case measure => simp [intOf]; omega
    · obtain rfl : m = k := by omega
      have hc := cI.out (L.getD m sub0) wr hlt hbc' true (decide_eq_true he)
      clear hbc hbc' he
      generalize (((L.getD m sub0).1.toNat : Nat) : Int) = x at *
      generalize S (L.getD m sub0).2 = y at *
      go_wp2_with fail
      refine hc.mono ?_
      rintro e w1 ⟨rfl, hb1⟩
      have hb2 := hbw.trans (hb1.mono hbw.size)
      go_wp2
      go_ret
      exact ⟨rfl, hb2⟩

set_option maxHeartbeats 8000000 in
theorem index_miss (L : List Sub) (u fv : Value) (w : World) (hu : QL u L w) (c : UInt8) (hf : CL c fv w) (hj : ∀ j, j < L.length → (L.getD j sub0).1 ≠ c) :
    Calls Tryz.prog 23 #[u, fv] w fun e w' => e = .returned (.int .i64 (-1)) ∧ Below w.heap.size w w' := by
  obtain ⟨a, cap, rfl, hcap, hmax, _, hcell⟩ := hu
  obtain ⟨b, rfl, hb, hbc⟩ := hf
  unfold maxLen at hmax
  obtain ⟨n, hn⟩ : ∃ n, L.length = n := ⟨_, rfl⟩
  have HCell := Lib.hid hcell
  rw [hn] at hcap hj ⊢
  have HN := Lib.hid hn
  have HJ := Lib.hid hj
  have cI := Lib.hid (fun s W hb hc r hr => codedIn_any c s b W hb hc r hr)
  clear hcell hn hj
  go_enter Tryz.func23, Tryz.ntmps23
  go_wp2
  go_loopw [8] (fun i wr => ∃ m : Nat, m ≤ n ∧ i = .int .i64 (m : Int) ∧ Below w.heap.size w wr) (fun i _ => n - (intOf i).toNat)
  case atStart => exact ⟨0, Nat.zero_le _, rfl, Below.refl _ _⟩
  case round =>
    obtain ⟨m, hm, rfl, hbw⟩ := hrel
    by_cases hmk : m < n
    · obtain ⟨g, o, rfl, hg, c1, c2⟩ := HCell.out m (by rw [HN.out]; omega)
      have c1 := (hbw.cell (p := ⟨g, o + m * 2, none⟩) hg).trans c1
      have c2 := (hbw.cell (p := ⟨g, o + m * 2 + 1, none⟩) hg).trans c2
      have i1 : (0 : Int) ≤ (m : Int) := by omega
      have i2 : (m : Int) < (n : Int) := by omega
      have hbc' := (hbw.cell (p := ⟨b, 0, none⟩) hb).trans hbc
      have hlt : b < wr.heap.size := Nat.lt_of_lt_of_le hb hbw.size
      have hc := cI.out (L.getD m sub0) wr hlt hbc' false (decide_eq_false (HJ.out m hmk))
      clear hbc hbc'
      generalize (((L.getD m sub0).1.toNat : Nat) : Int) = x at *
      generalize S (L.getD m sub0).2 = y at *
      go_wp2_with fail
      refine hc.mono ?_
      rintro e w1 ⟨rfl, hb1⟩
      have hb2 := hbw.trans (hb1.mono hbw.size)
      go_wp2
      go_roundw
      case rel => exact ⟨m + 1, by omega, by go_num, hb2⟩
      case measure => simp [intOf]; omega
    · obtain rfl : m = n := by omega
      go_wp2
      go_ret
      exact ⟨rfl, hbw⟩
end Go.Proofs.YtjajihemcaihmaaGreatDoor
