/- Merged: R07A, FA07, FB07. -/
import Derived.Test.YtcnjjdbpcobolaaGreatDoorQ01
namespace Go.Proofs.YtcnjjdbpcobolaaGreatDoor

section
open Go.RowKit Go.PlainAid
set_option maxHeartbeats 4000000 in
theorem refdigit_any (x : UInt8) (b : Bool) (hb : digB x = b) (w : World) :
    Calls Tryz.prog 69 #[.int .u8 (x.toNat : Int)] w fun e w' => e = .returned (.bool b) ∧ w' = w := by
  unfold digB at hb
  by_cases h1 : 48 ≤ x.toNat
  · have t1 : decide ((48 : Int) ≤ (x.toNat : Int)) = true := decide_eq_true (by omega)
    rw [decide_eq_true h1, Bool.true_and] at hb
    have t2 : decide ((x.toNat : Int) ≤ 57) = b := by rw [← hb, decide_eq_decide]; omega
    clear hb h1
    generalize x.toNat = n at *
    go_enter Tryz.func69, Tryz.ntmps69
    go_wp2
    go_ret
    exact ⟨rfl, rfl⟩
  · have t1 : decide ((48 : Int) ≤ (x.toNat : Int)) = false := decide_eq_false (by omega)
    rw [decide_eq_false h1, Bool.false_and] at hb
    subst hb
    clear h1
    generalize x.toNat = n at *
    go_enter Tryz.func69, Tryz.ntmps69
    go_wp2
    go_ret
    exact ⟨rfl, rfl⟩

set_option maxHeartbeats 4000000 in
theorem refCode_any (x : UInt8) (b : Bool) (hb : codeB x = b) (w : World) :
    Calls Tryz.prog 70 #[.int .u8 (x.toNat : Int)] w fun e w' => e = .returned (.bool b) ∧ w' = w := by
  unfold codeB at hb
  cases hd : digB x
  · have c1 := Lib.hid (fun W => refdigit_any x false hd W)
    rw [hd, Bool.false_or] at hb
    clear hd
    by_cases h1 : 97 ≤ x.toNat
    · have t1 : decide ((97 : Int) ≤ (x.toNat : Int)) = true := decide_eq_true (by omega)
      rw [decide_eq_true h1, Bool.true_and] at hb
      have t2 : decide ((x.toNat : Int) ≤ 122) = b := by rw [← hb, decide_eq_decide]; omega
      clear hb h1
      generalize x.toNat = n at *
      go_enter Tryz.func70, Tryz.ntmps70
      go_wp2_with fail
      refine (c1.out _).mono ?_
      rintro e w1 ⟨rfl, rfl⟩
      go_wp2
      go_ret
      exact ⟨rfl, rfl⟩
    · have t1 : decide ((97 : Int) ≤ (x.toNat : Int)) = false := decide_eq_false (by omega)
      rw [decide_eq_false h1, Bool.false_and] at hb
      subst hb
      clear h1
      generalize x.toNat = n at *
      go_enter Tryz.func70, Tryz.ntmps70
      go_wp2_with fail
      refine (c1.out _).mono ?_
      rintro e w1 ⟨rfl, rfl⟩
      go_wp2
      go_ret
      exact ⟨rfl, rfl⟩
  · have c1 := Lib.hid (fun W => refdigit_any x true hd W)
    rw [hd, Bool.true_or] at hb
    subst hb
    clear hd
    generalize x.toNat = n at *
    go_enter Tryz.func70, Tryz.ntmps70
    go_wp2_with fail
    refine (c1.out _).mono ?_
    rintro e w1 ⟨rfl, rfl⟩
    go_wp2
    go_ret
    exact ⟨rfl, rfl⟩

set_option maxHeartbeats 8000000 in
theorem refin_any (x : UInt8) (l : List UInt8) (hz : l.length ≤ 1000000) (b : Bool) (hb : inB x l = b) (w : World) :
    Calls Tryz.prog 95 #[.int .u8 (x.toNat : Int), .string (S l)] w fun e w' => e = .returned (.bool b) ∧ w' = w := by
  have hbt := get_bt (S l)
  obtain ⟨n, hn⟩ : ∃ n, l.length = n := ⟨_, rfl⟩
  have hsz : (S l).size = n := by rw [S_size, hn]
  obtain ⟨j, hj, hg, hbad⟩ : ∃ j, j ≤ n ∧ (∀ i, i < j → (!decide (l.getD i 0 = x)) = true) ∧ (j < n → (!decide (l.getD j 0 = x)) = false) := by
    rcases first_bad (fun i => !decide (l.getD i 0 = x)) n with h | ⟨j, hj, h1, h2⟩
    · exact ⟨n, Nat.le_refl _, h, fun h => by omega⟩
    · exact ⟨j, by omega, h1, fun _ => h2⟩
  have hbb : b = (decide (j < n) || decide (n = 0)) := by
    rw [← hb]
    unfold inB
    have h1 : l.any (fun y => decide (y = x)) = decide (j < n) := by
      by_cases h : j < n
      · rw [decide_eq_true h, List.any_eq_true]
        have hx := hbad h
        simp only [Bool.not_eq_false', decide_eq_true_eq] at hx
        rw [List.getD_eq_getElem?_getD, List.getElem?_eq_getElem (by omega)] at hx
        exact ⟨l[j], List.getElem_mem _, by simpa using hx⟩
      · rw [decide_eq_false h, List.any_eq_false]
        intro y hy
        obtain ⟨i, hi, rfl⟩ := List.getElem_of_mem hy
        have := hg i (by omega)
        rw [List.getD_eq_getElem?_getD, List.getElem?_eq_getElem hi] at this
        simpa using this
    have h2 : decide (l = []) = decide (n = 0) := by rw [decide_eq_decide, ← hn, List.length_eq_zero_iff]
    rw [h1, h2]
  have HG := Lib.hid hg
  have HB := Lib.hid hbad
  have HBB := Lib.hid hbb
  have HBS := Lib.hid (fun i => bt_S l i)
  have HEmpty : RowKit.Hid (((S l).toList == []) = decide (n = 0)) := by
    unfold RowKit.Hid
    rw [ByteArray.toList_eq]
    show (l == []) = _
    cases l with
    | nil => simp at hn; subst hn; rfl
    | cons y t => simp at hn; subst hn; simp
  rw [hn] at hz
  clear hg hbad hbb hn hb
  generalize S l = s at *
  go_enter Tryz.func95, Tryz.ntmps95
  go_wp2
  go_loopw [5] (fun i wr => ∃ k : Nat, k ≤ j ∧ i = .int .i64 (k : Int) ∧ w = wr) (fun i _ => j - (intOf i).toNat)
  case atStart => exact ⟨0, Nat.zero_le _, rfl, rfl⟩
  case round =>
    obtain ⟨k, hk, rfl, rfl⟩ := hrel
    by_cases hkn : k < n
    · have hki : (k : Int) < (n : Int) := by omega
      have hbk := HBS.out k
      by_cases hlt : k < j
      · have hd := HG.out k hlt
        simp only [Bool.not_eq_true', decide_eq_false_iff_not] at hd
        have t1 : (bt s k == (x.toNat : Int)) = false := by
          rw [hbk]
          have : (l.getD k 0).toNat ≠ x.toNat := fun h => hd (UInt8.toNat_inj.1 h)
          exact beq_eq_false_iff_ne.2 (fun h => this (by omega))
        clear hbk hd
        generalize (x.toNat : Int) = xn at *
        go_wp2
        go_roundw
        case rel => exact ⟨k + 1, by omega, by go_num, trivial⟩
        case measure => simp [intOf]; omega
      · obtain rfl : k = j := by omega
        have hd := HB.out hkn
        simp only [Bool.not_eq_false', decide_eq_true_eq] at hd
        obtain rfl : b = true := by rw [HBB.out, decide_eq_true hkn]; rfl
        have t1 : bt s k = (x.toNat : Int) := by rw [hbk, hd]
        clear hbk hd
        generalize (x.toNat : Int) = xn at *
        go_wp2
        go_ret
        exact ⟨rfl, rfl⟩
    · obtain rfl : k = n := by omega
      obtain rfl : j = k := by omega
      have hE := HEmpty.out
      have hB : decide (j = 0) = b := by rw [HBB.out, decide_eq_false (Nat.lt_irrefl _), Bool.false_or]
      rw [hB] at hE
      generalize (x.toNat : Int) = xn at *
      go_wp2
      go_ret
      exact ⟨rfl, rfl⟩
end

section
open Go.RowKit Go.PlainAid
def letB (x : UInt8) : Bool := decide (97 ≤ x.toNat) && decide (x.toNat ≤ 122)
theorem codeB_eq (x : UInt8) : codeB x = (digB x || letB x) := rfl

set_option maxHeartbeats 4000000 in
theorem fdigit_any (x : UInt8) (b : Bool) (hb : digB x = b) (w : World) :
    Calls Tryz.prog 98 #[.int .u8 (x.toNat : Int)] w fun e w' => e = .returned (.bool b) ∧ w' = w := by
  unfold digB at hb
  by_cases h1 : 48 ≤ x.toNat
  · have t1 : decide ((48 : Int) ≤ (x.toNat : Int)) = true := decide_eq_true (by omega)
    rw [decide_eq_true h1, Bool.true_and] at hb
    have t2 : decide ((x.toNat : Int) ≤ 57) = b := by rw [← hb, decide_eq_decide]; omega
    clear hb h1
    generalize x.toNat = n at *
    go_enter Tryz.func98, Tryz.ntmps98
    go_wp2
    go_ret
    exact ⟨rfl, rfl⟩
  · have t1 : decide ((48 : Int) ≤ (x.toNat : Int)) = false := decide_eq_false (by omega)
    rw [decide_eq_false h1, Bool.false_and] at hb
    subst hb
    clear h1
    generalize x.toNat = n at *
    go_enter Tryz.func98, Tryz.ntmps98
    go_wp2
    go_ret
    exact ⟨rfl, rfl⟩

set_option maxHeartbeats 4000000 in
theorem fletter_any (x : UInt8) (b : Bool) (hb : letB x = b) (w : World) :
    Calls Tryz.prog 100 #[.int .u8 (x.toNat : Int)] w fun e w' => e = .returned (.bool b) ∧ w' = w := by
  unfold letB at hb
  by_cases h1 : 97 ≤ x.toNat
  · have t1 : decide ((97 : Int) ≤ (x.toNat : Int)) = true := decide_eq_true (by omega)
    rw [decide_eq_true h1, Bool.true_and] at hb
    have t2 : decide ((x.toNat : Int) ≤ 122) = b := by rw [← hb, decide_eq_decide]; omega
    clear hb h1
    generalize x.toNat = n at *
    go_enter Tryz.func100, Tryz.ntmps100
    go_wp2
    go_ret
    exact ⟨rfl, rfl⟩
  · have t1 : decide ((97 : Int) ≤ (x.toNat : Int)) = false := decide_eq_false (by omega)
    rw [decide_eq_false h1, Bool.false_and] at hb
    subst hb
    clear h1
    generalize x.toNat = n at *
    go_enter Tryz.func100, Tryz.ntmps100
    go_wp2
    go_ret
    exact ⟨rfl, rfl⟩

theorem all_iff (l : List UInt8) : l.all digB = true ↔ ∀ i, i < l.length → digB (l.getD i 0) = true := by
  rw [List.all_eq_true]
  constructor
  · intro h i hi
    rw [List.getD_eq_getElem?_getD, List.getElem?_eq_getElem hi]
    exact h _ (List.getElem_mem hi)
  · intro h x hx
    obtain ⟨i, hi, rfl⟩ := List.getElem_of_mem hx
    have := h i hi
    rwa [List.getD_eq_getElem?_getD, List.getElem?_eq_getElem hi] at this

set_option maxHeartbeats 8000000 in
theorem fdigits_any (l : List UInt8) (hz : l.length ≤ 1000000000) (b : Bool) (hb : l.all digB = b) (w : World) :
    Calls Tryz.prog 65 #[.string (S l)] w fun e w' => e = .returned (.bool b) ∧ w' = w := by
  obtain ⟨n, hn⟩ : ∃ n, l.length = n := ⟨_, rfl⟩
  have hsz : (S l).size = n := by rw [S_size, hn]
  obtain ⟨j, hj, hg, hbad⟩ : ∃ j, j ≤ n ∧ (∀ i, i < j → digB (l.getD i 0) = true) ∧ (j < n → digB (l.getD j 0) = false) := by
    rcases first_bad (fun i => digB (l.getD i 0)) n with h | ⟨j, hj, h1, h2⟩
    · exact ⟨n, Nat.le_refl _, h, fun h => by omega⟩
    · exact ⟨j, by omega, h1, fun _ => h2⟩
  have hbb : b = decide (j = n) := by
    rw [← hb]
    by_cases h : j < n
    · rw [decide_eq_false (by omega)]
      cases hx : l.all digB with
      | false => rfl
      | true =>
        have := (all_iff l).1 hx j (by omega)
        rw [hbad h] at this
        cases this
    · rw [decide_eq_true (by omega)]
      rw [all_iff]
      intro i hi
      exact hg i (by omega)
  have hbt := get_bt (S l)
  have HG := Lib.hid hg
  have HB := Lib.hid hbad
  have HBB := Lib.hid hbb
  have HBS := Lib.hid (fun i => bt_S l i)
  have cD := Lib.hid (fun x b hb W => fdigit_any x b hb W)
  rw [hn] at hz
  clear hg hbad hbb hn hb
  generalize S l = s at *
  go_enter Tryz.func65, Tryz.ntmps65
  go_wp2
  go_loopw [6] (fun i wr => ∃ k : Nat, k ≤ j ∧ i = .int .i64 (k : Int) ∧ w = wr) (fun i _ => j - (intOf i).toNat)
  case atStart => exact ⟨0, Nat.zero_le _, rfl, rfl⟩
  case round =>
    obtain ⟨k, hk, rfl, rfl⟩ := hrel
    by_cases hkn : k < n
    · have hki : (k : Int) < (n : Int) := by omega
      have hk0 : (0 : Int) ≤ (k : Int) := by omega
      have hbk := HBS.out k
      by_cases hlt : k < j
      · have hc := cD.out _ true (HG.out k hlt) w
        rw [← hbk] at hc
        clear hbk
        go_wp2_with fail
        refine hc.mono ?_
        rintro e w1 ⟨rfl, rfl⟩
        go_wp2
        go_roundw
        case rel => exact ⟨k + 1, by omega, by go_num, trivial⟩
        case measure => simp [intOf]; omega
      · obtain rfl : k = j := by omega
        have hc := cD.out _ false (HB.out hkn) w
        rw [← hbk] at hc
        clear hbk
        obtain rfl : b = false := by rw [HBB.out, decide_eq_false (by omega)]
        go_wp2_with fail
        refine hc.mono ?_
        rintro e w1 ⟨rfl, rfl⟩
        go_wp2
        go_ret
        exact ⟨rfl, rfl⟩
    · obtain rfl : k = n := by omega
      obtain rfl : b = true := by rw [HBB.out, decide_eq_true (by omega)]
      go_wp2
      go_ret
      exact ⟨rfl, rfl⟩
end

section
open Go.RowKit Go.PlainAid
/-- A subfield's value. -/
def SV (s : Sub) : Value := .agg #[.int .u8 (s.1.toNat : Int), .string (S s.2)]
/-- A function value that looks for this code. -/
def CL (c : UInt8) (v : Value) (W : World) : Prop :=
  ∃ b, v = .func (.func 108) #[] #[.pointer (some ⟨b, 0, none⟩)] ∧ b < W.heap.size ∧ W.cell? ⟨b, 0, none⟩ = some (.int .u8 (c.toNat : Int))
theorem CL.after {c : UInt8} {v : Value} {W W' : World} (h : CL c v W) (hb : Below W.heap.size W W') : CL c v W' := by
  obtain ⟨b, rfl, h1, h2⟩ := h
  exact ⟨b, rfl, Nat.lt_of_lt_of_le h1 hb.size, (hb.cell (p := ⟨b, 0, none⟩) h1).trans h2⟩

set_option maxHeartbeats 4000000 in
theorem coded_any (c : UInt8) (w : World) :
    Calls Tryz.prog 88 #[.int .u8 (c.toNat : Int)] w fun e w' => ∃ v, e = .returned v ∧ CL c v w' ∧ Below w.heap.size w w' := by
  have b0 := (Below.refl w.heap.size w).alloc (Nat.le_refl _) (.cells #[.int .u8 (c.toNat : Int)] 5)
  have hc : CL c (.func (.func 108) #[] #[.pointer (some ⟨w.heap.size, 0, none⟩)]) (w.alloc (.cells #[.int .u8 (c.toNat : Int)] 5)) := ⟨w.heap.size, rfl, by simp, by simp⟩
  have HC := Lib.hid hc
  clear hc
  go_enter Tryz.func88, Tryz.ntmps88
  go_wp2
  go_ret
  exact ⟨_, rfl, HC.out, b0⟩

set_option maxHeartbeats 4000000 in
theorem codedIn_any (c : UInt8) (s : Sub) (b : Nat) (w : World) (hb : b < w.heap.size) (hc : w.cell? ⟨b, 0, none⟩ = some (.int .u8 (c.toNat : Int))) (r : Bool) (hr : decide (s.1 = c) = r) :
    Calls Tryz.prog 108 #[.agg #[.int .u8 (s.1.toNat : Int), .string (S s.2)], .pointer (some ⟨b, 0, none⟩)] w fun e w' => e = .returned (.bool r) ∧ Below w.heap.size w w' := by
  have b0 := (Below.refl w.heap.size w).alloc (Nat.le_refl _) (.cells #[.int .u8 (s.1.toNat : Int), .string (S s.2)] 54)
  have hc' := (b0.cell (p := ⟨b, 0, none⟩) hb).trans hc
  have hrr : (((s.1.toNat : Nat) : Int) == ((c.toNat : Nat) : Int)) = r := by
    rw [← hr, Bool.eq_iff_iff, beq_iff_eq, decide_eq_true_iff, ← UInt8.toNat_inj]
    omega
  have hne : b ≠ w.heap.size := Nat.ne_of_lt hb
  clear hr hc
  generalize ((s.1.toNat : Nat) : Int) = x at *
  generalize ((c.toNat : Nat) : Int) = y at *
  generalize S s.2 = t at *
  go_enter Tryz.func108, Tryz.ntmps108
  go_wp2
  go_ret
  exact ⟨rfl, b0⟩

set_option maxHeartbeats 8000000 in
theorem index_hit (L : List Sub) (u fv : Value) (w : World) (hu : QL u L w) (c : UInt8) (hf : CL c fv w) (k : Nat) (hk : k < L.length) (hj : ∀ j, j < k → (L.getD j sub0).1 ≠ c) (he : (L.getD k sub0).1 = c) :
    Calls Tryz.prog 87 #[u, fv] w fun e w' => e = .returned (.int .i64 (k : Int)) ∧ Below w.heap.size w w' := by
  obtain ⟨a, cap, rfl, hcap, hmax, _, hcell⟩ := hu
  obtain ⟨b, rfl, hb, hbc⟩ := hf
  unfold maxLen at hmax
  obtain ⟨n, hn⟩ : ∃ n, L.length = n := ⟨_, rfl⟩
  have HCell := Lib.hid hcell
  rw [hn] at hcap hk ⊢
  have HN := Lib.hid hn
  have HJ := Lib.hid hj
  have cI := Lib.hid (fun s W hb hc r hr => codedIn_any c s b W hb hc r hr)
  clear hcell hn hj
  go_enter Tryz.func87, Tryz.ntmps87
  go_wp2
  go_loopw [8] (fun i wr => ∃ m : Nat, m ≤ k ∧ i = .int .i64 (m : Int) ∧ Below w.heap.size w wr) (fun i _ => n - (intOf i).toNat)
  case atStart => exact ⟨0, Nat.zero_le _, rfl, Below.refl _ _⟩
  case round =>
    obtain ⟨m, hm, rfl, hbw⟩ := hrel
    obtain ⟨g, o, rfl, hg, c1, c2⟩ := HCell.out m (by rw [HN.out]; omega)
    have c1 := (hbw.cell (p := ⟨g, o + m * 2, none⟩) hg).trans c1
    have c2 := (hbw.cell (p := ⟨g, o + m * 2 + 1, none⟩) hg).trans c2
    have i1 : (0 : Int) ≤ (m : Int) := by omega
    have i2 : (m : Int) < (n : Int) := by omega
    have hbc' := (hbw.cell (p := ⟨b, 0, none⟩) hb).trans hbc
    have hlt : b < wr.heap.size := Nat.lt_of_lt_of_le hb hbw.size
    by_cases hmk : m < k
    · have hc := cI.out (L.getD m sub0) wr hlt hbc' false (decide_eq_false (HJ.out m hmk))
      clear hbc hbc'
      generalize (((L.getD m sub0).1.toNat : Nat) : Int) = x at *
      generalize S (L.getD m sub0).2 = y at *
      go_wp2_with fail
      refine hc.mono ?_
      rintro e w1 ⟨rfl, hb1⟩
      have hb2 := hbw.trans (hb1.mono hbw.size)
      go_wp2
      go_roundw
      case rel => exact ⟨m + 1, by omega, by go_num, hb2⟩
      case measure => simp [intOf]; omega
    · obtain rfl : m = k := by omega
      have hc := cI.out (L.getD m sub0) wr hlt hbc' true (decide_eq_true he)
      clear hbc hbc' he
      generalize (((L.getD m sub0).1.toNat : Nat) : Int) = x at *
      generalize S (L.getD m sub0).2 = y at *
      go_wp2_with fail
      refine hc.mono ?_
      rintro e w1 ⟨rfl, hb1⟩
      have hb2 := hbw.trans (hb1.mono hbw.size)
      go_wp2
      go_ret
      exact ⟨rfl, hb2⟩

set_option maxHeartbeats 8000000 in
theorem index_miss (L : List Sub) (u fv : Value) (w : World) (hu : QL u L w) (c : UInt8) (hf : CL c fv w) (hj : ∀ j, j < L.length → (L.getD j sub0).1 ≠ c) :
    Calls Tryz.prog 87 #[u, fv] w fun e w' => e = .returned (.int .i64 (-1)) ∧ Below w.heap.size w w' := by
  obtain ⟨a, cap, rfl, hcap, hmax, _, hcell⟩ := hu
  obtain ⟨b, rfl, hb, hbc⟩ := hf
  unfold maxLen at hmax
  obtain ⟨n, hn⟩ : ∃ n, L.length = n := ⟨_, rfl⟩
  have HCell := Lib.hid hcell
  rw [hn] at hcap hj ⊢
  have HN := Lib.hid hn
  have HJ := Lib.hid hj
  have cI := Lib.hid (fun s W hb hc r hr => codedIn_any c s b W hb hc r hr)
  clear hcell hn hj
  go_enter Tryz.func87, Tryz.ntmps87
  go_wp2
  go_loopw [8] (fun i wr => ∃ m : Nat, m ≤ n ∧ i = .int .i64 (m : Int) ∧ Below w.heap.size w wr) (fun i _ => n - (intOf i).toNat)
  case atStart => exact ⟨0, Nat.zero_le _, rfl, Below.refl _ _⟩
  case round =>
    obtain ⟨m, hm, rfl, hbw⟩ := hrel
    by_cases hmk : m < n
    · obtain ⟨g, o, rfl, hg, c1, c2⟩ := HCell.out m (by rw [HN.out]; omega)
      have c1 := (hbw.cell (p := ⟨g, o + m * 2, none⟩) hg).trans c1
      have c2 := (hbw.cell (p := ⟨g, o + m * 2 + 1, none⟩) hg).trans c2
      have i1 : (0 : Int) ≤ (m : Int) := by omega
      have i2 : (m : Int) < (n : Int) := by omega
      have hbc' := (hbw.cell (p := ⟨b, 0, none⟩) hb).trans hbc
      have hlt : b < wr.heap.size := Nat.lt_of_lt_of_le hb hbw.size
      have hc := cI.out (L.getD m sub0) wr hlt hbc' false (decide_eq_false (HJ.out m hmk))
      clear hbc hbc'
      generalize (((L.getD m sub0).1.toNat : Nat) : Int) = x at *
      generalize S (L.getD m sub0).2 = y at *
      go_wp2_with fail
      refine hc.mono ?_
      rintro e w1 ⟨rfl, hb1⟩
      have hb2 := hbw.trans (hb1.mono hbw.size)
      go_wp2
      go_roundw
      case rel => exact ⟨m + 1, by omega, by go_num, hb2⟩
      case measure => simp [intOf]; omega
    · obtain rfl : m = n := by omega
      go_wp2
      go_ret
      exact ⟨rfl, hbw⟩
end

end Go.Proofs.YtcnjjdbpcobolaaGreatDoor
