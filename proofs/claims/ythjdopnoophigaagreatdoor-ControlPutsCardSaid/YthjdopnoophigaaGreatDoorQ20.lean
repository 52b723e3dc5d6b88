/- Merged: SB14, FA07, FB07, FC07, FG07. -/
import Derived.Test.YthjdopnoophigaaGreatDoorQ19
import Derived.Test.YthjdopnoophigaaGreatDoorQ07
import Derived.Test.YthjdopnoophigaaGreatDoorQ04
import Derived.Lib.SliceRun
import Derived.Laws.IdiomCopy
namespace Go.Proofs.YthjdopnoophigaaGreatDoor

section
open Go.RowKit
/-- A slice of subfields of the call's own, from block B on. -/
def SB (B : Nat) (v : Value) (L : List Sub) (w : World) : Prop := w.ownsRow B 48 2 v L.length (cellsL L)
theorem SB.nil (B : Nat) (w : World) : SB B (.slice none 0 0) [] w := World.ownsRow_nil _ _ _ _
theorem SB.ql {B : Nat} {v : Value} {L : List Sub} {w : World} (h : SB B v L w) : QL v L w := QL.of_row h
theorem own_after14 {w w' : World} {B e size n : Nat} {v : Value} {xs : List Value} (h : w.ownsRow B e size v n xs) (hb : Below w.heap.size w w') : w'.ownsRow B e size v n xs := by
  refine ⟨h.1, ?_⟩
  rcases h.2 with hn | ⟨g, cap, cur, hv, hB', hg, rest⟩
  · exact .inl hn
  · have hlt : g < w.heap.size := (Array.getElem?_eq_some_iff.1 hg).1
    exact .inr ⟨g, cap, cur, hv, hB', (hb.block g hlt).trans hg, rest⟩
theorem SB.after {B : Nat} {v : Value} {L : List Sub} {w w' : World} (h : SB B v L w) (hb : Below w.heap.size w w') : SB B v L w' := own_after14 h hb
theorem SB.kept {B : Nat} {v : Value} {L : List Sub} {w W : World} (h : SB B v L w) (hk : ∀ i, B ≤ i → i < w.heap.size → W.heap[i]? = w.heap[i]?) : SB B v L W := by
  refine ⟨h.1, ?_⟩
  rcases h.2 with hn | ⟨g, cap, cur, hv, hB', hg, rest⟩
  · exact .inl hn
  · have hlt : g < w.heap.size := (Array.getElem?_eq_some_iff.1 hg).1
    exact .inr ⟨g, cap, cur, hv, hB', (hk g hB' hlt).trans hg, rest⟩
theorem SB.base {B B' : Nat} {v : Value} {L : List Sub} {w : World} (h : SB B' v L w) (hB : B ≤ B') : SB B v L w := by
  refine ⟨h.1, ?_⟩
  rcases h.2 with hn | ⟨g, cap, cur, hv, hB', rest⟩
  · exact .inl hn
  · exact .inr ⟨g, cap, cur, hv, Nat.le_trans hB hB', rest⟩
theorem SB.form {B : Nat} {v : Value} {L : List Sub} {w : World} (h : SB B v L w) : ∃ ao cp, v = .slice ao L.length cp := own_form h
/-- append of one subfield that has just been laid to such a row. -/
theorem append_sb {ops : Array Oper} {rest : List Oper} {o : Oper} {a : Act} {Q : Exit → Act → World → Prop} (w : World) (hgd : o.guard = none) (s x : Operand)
    (ho : o.op = .call { callee := .builtin .append, args := #[s, x], argTypes := #[22, 22] })
    (B : Nat) (v : Value) (L : List Sub) (c : UInt8) (y : List UInt8) (hs : a.eval s = v) (h : SB B v L w) (hx : a.eval x = .slice (some ⟨w.heap.size, 0, none⟩) 1 1) (hz : L.length ≤ 10000000) (hB : B ≤ w.heap.size)
    (N : Nat) (W1 : World) (hNB : N ≤ B) (hb : Below N W1 w)
    (hk : ∀ v' w', SB B v' (L ++ [(c, y)]) w' → Below N W1 w' → B ≤ w'.heap.size → wpList Tryz.prog ops Q rest (a.put o.dst v') w') : wpList Tryz.prog ops Q (o :: rest) a (w.alloc (.cells #[.int .u8 (c.toNat : Int), .string (S y)] 48)) := by
  obtain ⟨i0, hi, hz0, hz1, hz2⟩ := info_sub
  have hrow := World.ownsRow.alloc h (.cells #[.int .u8 (c.toNat : Int), .string (S y)] 48)
  refine wpList_append_own _ hgd s x 22 ho B 48 i0 (.agg #[.int .u8 0, .string ⟨#[]⟩]) 2 24 Tryz.underlying22 hi hz0 hz1 hz2 rfl (by decide) v L.length _ hs hrow ⟨w.heap.size, 0, none⟩ 1 1 [.int .u8 (c.toNat : Int), .string (S y)] hx rfl (cells_two w _ _ _) (by intro u hu; simp at hu; rcases hu with rfl | rfl <;> rfl) (by unfold maxLen; omega) (by omega) (by simp; omega) ?_
  intro v2 w2 hown2 hg2 hn2
  refine hk v2 w2 (by unfold SB; rw [List.length_append, cellsL_snoc]; exact hown2) ?_ (Nat.le_trans (by simp; omega) hg2.size)
  exact (hb.alloc (by omega) _).grown hg2 (by simp; omega) (fun j hj => Nat.le_trans hNB (hrow.lt j hj).1)
theorem SB.one (w : World) (c : UInt8) (y : List UInt8) : SB w.heap.size (.slice (some ⟨w.heap.size, 0, none⟩) 1 1) [(c, y)] (w.alloc (.cells #[.int .u8 (c.toNat : Int), .string (S y)] 48)) :=
  ⟨rfl, .inr ⟨w.heap.size, 1, _, rfl, Nat.le_refl _, heap_alloc_new w _, Nat.le_refl _, by decide, rfl, rfl⟩⟩
theorem SB.two (w : World) (c d : UInt8) (x y : List UInt8) : SB w.heap.size (.slice (some ⟨w.heap.size, 0, none⟩) 2 2) [(c, x), (d, y)] (w.alloc (.cells #[.int .u8 (c.toNat : Int), .string (S x), .int .u8 (d.toNat : Int), .string (S y)] 48)) :=
  ⟨rfl, .inr ⟨w.heap.size, 2, _, rfl, Nat.le_refl _, heap_alloc_new w _, Nat.le_refl _, by decide, rfl, rfl⟩⟩
end

section
open Go.RowKit Go.PlainAid
def letB (x : UInt8) : Bool := decide (97 ≤ x.toNat) && decide (x.toNat ≤ 122)
theorem codeB_eq (x : UInt8) : codeB x = (digB x || letB x) := rfl

set_option maxHeartbeats 4000000 in
theorem fdigit_any (x : UInt8) (b : Bool) (hb : digB x = b) (w : World) :
    Calls Tryz.prog 113 #[.int .u8 (x.toNat : Int)] w fun e w' => e = .returned (.bool b) ∧ w' = w := by
  unfold digB at hb
  by_cases h1 : 48 ≤ x.toNat
  · have t1 : decide ((48 : Int) ≤ (x.toNat : Int)) = true := decide_eq_true (by omega)
    rw [decide_eq_true h1, Bool.true_and] at hb
    have t2 : decide ((x.toNat : Int) ≤ 57) = b := by rw [← hb, decide_eq_decide]; omega
    clear hb h1
    generalize x.toNat = n at *
    go_enter Tryz.func113, Tryz.ntmps113
    go_wp2
    go_ret
    exact ⟨rfl, rfl⟩
  · have t1 : decide ((48 : Int) ≤ (x.toNat : Int)) = false := decide_eq_false (by omega)
    rw [decide_eq_false h1, Bool.false_and] at hb
    subst hb
    clear h1
    generalize x.toNat = n at *
    go_enter Tryz.func113, Tryz.ntmps113
    go_wp2
    go_ret
    exact ⟨rfl, rfl⟩

set_option maxHeartbeats 4000000 in
theorem fletter_any (x : UInt8) (b : Bool) (hb : letB x = b) (w : World) :
    Calls Tryz.prog 114 #[.int .u8 (x.toNat : Int)] w fun e w' => e = .returned (.bool b) ∧ w' = w := by
  unfold letB at hb
  by_cases h1 : 97 ≤ x.toNat
  · have t1 : decide ((97 : Int) ≤ (x.toNat : Int)) = true := decide_eq_true (by omega)
    rw [decide_eq_true h1, Bool.true_and] at hb
    have t2 : decide ((x.toNat : Int) ≤ 122) = b := by rw [← hb, decide_eq_decide]; omega
    clear hb h1
    generalize x.toNat = n at *
    go_enter Tryz.func114, Tryz.ntmps114
    go_wp2
    go_ret
    exact ⟨rfl, rfl⟩
  · have t1 : decide ((97 : Int) ≤ (x.toNat : Int)) = false := decide_eq_false (by omega)
    rw [decide_eq_false h1, Bool.false_and] at hb
    subst hb
    clear h1
    generalize x.toNat = n at *
    go_enter Tryz.func114, Tryz.ntmps114
    go_wp2
    go_ret
    exact ⟨rfl, rfl⟩

theorem all_iff (l : List UInt8) : l.all digB = true ↔ ∀ i, i < l.length → digB (l.getD i 0) = true := by
  rw [List.all_eq_true]
  constructor
  · intro h i hi
    rw [List.getD_eq_getElem?_getD, List.getElem?_eq_getElem hi]
    exact h _ (List.getElem_mem hi)
  · intro h x hx
    obtain ⟨i, hi, rfl⟩ := List.getElem_of_mem hx
    have := h i hi
    rwa [List.getD_eq_getElem?_getD, List.getElem?_eq_getElem hi] at this

set_option maxHeartbeats 8000000 in
theorem fdigits_any (l : List UInt8) (hz : l.length ≤ 1000000000) (b : Bool) (hb : l.all digB = b) (w : World) :
    Calls Tryz.prog 85 #[.string (S l)] w fun e w' => e = .returned (.bool b) ∧ w' = w := by
  obtain ⟨n, hn⟩ : ∃ n, l.length = n := ⟨_, rfl⟩
  have hsz : (S l).size = n := by rw [S_size, hn]
  obtain ⟨j, hj, hg, hbad⟩ : ∃ j, j ≤ n ∧ (∀ i, i < j → digB (l.getD i 0) = true) ∧ (j < n → digB (l.getD j 0) = false) := by
    rcases first_bad (fun i => digB (l.getD i 0)) n with h | ⟨j, hj, h1, h2⟩
    · exact ⟨n, Nat.le_refl _, h, fun h => by omega⟩
    · exact ⟨j, by omega, h1, fun _ => h2⟩
  have hbb : b = decide (j = n) := by
    rw [← hb]
    by_cases h : j < n
    · rw [decide_eq_false (by omega)]
      cases hx : l.all digB with
      | false => rfl
      | true =>
        have := (all_iff l).1 hx j (by omega)
        rw [hbad h] at this
        cases this
    · rw [decide_eq_true (by omega)]
      rw [all_iff]
      intro i hi
      exact hg i (by omega)
  have hbt := get_bt (S l)
  have HG := Lib.hid hg
  have HB := Lib.hid hbad
  have HBB := Lib.hid hbb
  have HBS := Lib.hid (fun i => bt_S l i)
  have cD := Lib.hid (fun x b hb W => fdigit_any x b hb W)
  rw [hn] at hz
  clear hg hbad hbb hn hb
  generalize S l = s at *
  go_enter Tryz.func85, Tryz.ntmps85
  go_wp2
  go_loopw [6] (fun i wr => ∃ k : Nat, k ≤ j ∧ i = .int .i64 (k : Int) ∧ w = wr) (fun i _ => j - (intOf i).toNat)
  case atStart => exact ⟨0, Nat.zero_le _, rfl, rfl⟩
  case round =>
    obtain ⟨k, hk, rfl, rfl⟩ := hrel
    by_cases hkn : k < n
    · have hki : (k : Int) < (n : Int) := by omega
      have hk0 : (0 : Int) ≤ (k : Int) := by omega
      have hbk := HBS.out k
      by_cases hlt : k < j
      · have hc := cD.out _ true (HG.out k hlt) w
        rw [← hbk] at hc
        clear hbk
        go_wp2_with fail
        refine hc.mono ?_
        rintro e w1 ⟨rfl, rfl⟩
        go_wp2
        go_roundw
        case rel => exact ⟨k + 1, by omega, by go_num, trivial⟩
        case measure => simp [intOf]; omega
      · obtain rfl : k = j := by omega
        have hc := cD.out _ false (HB.out hkn) w
        rw [← hbk] at hc
        clear hbk
        obtain rfl : b = false := by rw [HBB.out, decide_eq_false (by omega)]
        go_wp2_with fail
        refine hc.mono ?_
        rintro e w1 ⟨rfl, rfl⟩
        go_wp2
        go_ret
        exact ⟨rfl, rfl⟩
    · obtain rfl : k = n := by omega
      obtain rfl : b = true := by rw [HBB.out, decide_eq_true (by omega)]
      go_wp2
      go_ret
      exact ⟨rfl, rfl⟩
end

section
open Go.RowKit Go.PlainAid
/-- A subfield's value. -/
def SV (s : Sub) : Value := .agg #[.int .u8 (s.1.toNat : Int), .string (S s.2)]
/-- A function value that looks for this code. -/
def CL (c : UInt8) (v : Value) (W : World) : Prop :=
  ∃ b, v = .func (.func 111) #[] #[.pointer (some ⟨b, 0, none⟩)] ∧ b < W.heap.size ∧ W.cell? ⟨b, 0, none⟩ = some (.int .u8 (c.toNat : Int))
theorem CL.after {c : UInt8} {v : Value} {W W' : World} (h : CL c v W) (hb : Below W.heap.size W W') : CL c v W' := by
  obtain ⟨b, rfl, h1, h2⟩ := h
  exact ⟨b, rfl, Nat.lt_of_lt_of_le h1 hb.size, (hb.cell (p := ⟨b, 0, none⟩) h1).trans h2⟩

set_option maxHeartbeats 4000000 in
theorem coded_any (c : UInt8) (w : World) :
    Calls Tryz.prog 81 #[.int .u8 (c.toNat : Int)] w fun e w' => ∃ v, e = .returned v ∧ CL c v w' ∧ Below w.heap.size w w' := by
  have b0 := (Below.refl w.heap.size w).alloc (Nat.le_refl _) (.cells #[.int .u8 (c.toNat : Int)] 5)
  have hc : CL c (.func (.func 111) #[] #[.pointer (some ⟨w.heap.size, 0, none⟩)]) (w.alloc (.cells #[.int .u8 (c.toNat : Int)] 5)) := ⟨w.heap.size, rfl, by simp, by simp⟩
  have HC := Lib.hid hc
  clear hc
  go_enter Tryz.func81, Tryz.ntmps81
  go_wp2
  go_ret
  exact ⟨_, rfl, HC.out, b0⟩

set_option maxHeartbeats 4000000 in
theorem codedIn_any (c : UInt8) (s : Sub) (b : Nat) (w : World) (hb : b < w.heap.size) (hc : w.cell? ⟨b, 0, none⟩ = some (.int .u8 (c.toNat : Int))) (r : Bool) (hr : decide (s.1 = c) = r) :
    Calls Tryz.prog 111 #[.agg #[.int .u8 (s.1.toNat : Int), .string (S s.2)], .pointer (some ⟨b, 0, none⟩)] w fun e w' => e = .returned (.bool r) ∧ Below w.heap.size w w' := by
  have b0 := (Below.refl w.heap.size w).alloc (Nat.le_refl _) (.cells #[.int .u8 (s.1.toNat : Int), .string (S s.2)] 48)
  have hc' := (b0.cell (p := ⟨b, 0, none⟩) hb).trans hc
  have hrr : (((s.1.toNat : Nat) : Int) == ((c.toNat : Nat) : Int)) = r := by
    rw [← hr, Bool.eq_iff_iff, beq_iff_eq, decide_eq_true_iff, ← UInt8.toNat_inj]
    omega
  have hne : b ≠ w.heap.size := Nat.ne_of_lt hb
  clear hr hc
  generalize ((s.1.toNat : Nat) : Int) = x at *
  generalize ((c.toNat : Nat) : Int) = y at *
  generalize S s.2 = t at *
  go_enter Tryz.func111, Tryz.ntmps111
  go_wp2
  go_ret
  exact ⟨rfl, b0⟩

set_option maxHeartbeats 8000000 in
theorem index_hit (L : List Sub) (u fv : Value) (w : World) (hu : QL u L w) (c : UInt8) (hf : CL c fv w) (k : Nat) (hk : k < L.length) (hj : ∀ j, j < k → (L.getD j sub0).1 ≠ c) (he : (L.getD k sub0).1 = c) :
    Calls Tryz.prog 80 #[u, fv] w fun e w' => e = .returned (.int .i64 (k : Int)) ∧ Below w.heap.size w w' := by
  obtain ⟨a, cap, rfl, hcap, hmax, _, hcell⟩ := hu
  obtain ⟨b, rfl, hb, hbc⟩ := hf
  unfold maxLen at hmax
  obtain ⟨n, hn⟩ : ∃ n, L.length = n := ⟨_, rfl⟩
  have HCell := Lib.hid hcell
  rw [hn] at hcap hk ⊢
  have HN := Lib.hid hn
  have HJ := Lib.hid hj
  have cI := Lib.hid (fun s W hb hc r hr => codedIn_any c s b W hb hc r hr)
  clear hcell hn hj
  go_enter Tryz.func80, Tryz.ntmps80
  go_wp2
  go_loopw [8] (fun i wr => ∃ m : Nat, m ≤ k ∧ i = .int .i64 (m : Int) ∧ Below w.heap.size w wr) (fun i _ => n - (intOf i).toNat)
  case atStart => exact ⟨0, Nat.zero_le _, rfl, Below.refl _ _⟩
  case round =>
    obtain ⟨m, hm, rfl, hbw⟩ := hrel
    obtain ⟨g, o, rfl, hg, c1, c2⟩ := HCell.out m (by rw [HN.out]; omega)
    have c1 := (hbw.cell (p := ⟨g, o + m * 2, none⟩) hg).trans c1
    have c2 := (hbw.cell (p := ⟨g, o + m * 2 + 1, none⟩) hg).trans c2
    have i1 : (0 : Int) ≤ (m : Int) := by omega
    have i2 : (m : Int) < (n : Int) := by omega
    have hbc' := (hbw.cell (p := ⟨b, 0, none⟩) hb).trans hbc
    have hlt : b < wr.heap.size := Nat.lt_of_lt_of_le hb hbw.size
    by_cases hmk : m < k
    · have hc := cI.out (L.getD m sub0) wr hlt hbc' false (decide_eq_false (HJ.out m hmk))
      clear hbc hbc'
      generalize (((L.getD m sub0).1.toNat : Nat) : Int) = x at *
      generalize S (L.getD m sub0).2 = y at *
      go_wp2_with fail
      refine hc.mono ?_
      rintro e w1 ⟨rfl, hb1⟩
      have hb2 := hbw.trans (hb1.mono hbw.size)
      go_wp2
      go_roundw
      case rel => exact ⟨m + 1, by omega, by go_num, hb2⟩
      case measure => simp [intOf]; omega
    · obtain rfl : m = k := by omega
      have hc := cI.out (L.getD m sub0) wr hlt hbc' true (decide_eq_true he)
      clear hbc hbc' he
      generalize (((L.getD m sub0).1.toNat : Nat) : Int) = x at *
      generalize S (L.getD m sub0).2 = y at *
      go_wp2_with fail
      refine hc.mono ?_
      rintro e w1 ⟨rfl, hb1⟩
      have hb2 := hbw.trans (hb1.mono hbw.size)
      go_wp2
      go_ret
      exact ⟨rfl, hb2⟩

set_option maxHeartbeats 8000000 in
theorem index_miss (L : List Sub) (u fv : Value) (w : World) (hu : QL u L w) (c : UInt8) (hf : CL c fv w) (hj : ∀ j, j < L.length → (L.getD j sub0).1 ≠ c) :
    Calls Tryz.prog 80 #[u, fv] w fun e w' => e = .returned (.int .i64 (-1)) ∧ Below w.heap.size w w' := by
  obtain ⟨a, cap, rfl, hcap, hmax, _, hcell⟩ := hu
  obtain ⟨b, rfl, hb, hbc⟩ := hf
  unfold maxLen at hmax
  obtain ⟨n, hn⟩ : ∃ n, L.length = n := ⟨_, rfl⟩
  have HCell := Lib.hid hcell
  rw [hn] at hcap hj ⊢
  have HN := Lib.hid hn
  have HJ := Lib.hid hj
  have cI := Lib.hid (fun s W hb hc r hr => codedIn_any c s b W hb hc r hr)
  clear hcell hn hj
  go_enter Tryz.func80, Tryz.ntmps80
  go_wp2
  go_loopw [8] (fun i wr => ∃ m : Nat, m ≤ n ∧ i = .int .i64 (m : Int) ∧ Below w.heap.size w wr) (fun i _ => n - (intOf i).toNat)
  case atStart => exact ⟨0, Nat.zero_le _, rfl, Below.refl _ _⟩
  case round =>
    obtain ⟨m, hm, rfl, hbw⟩ := hrel
    by_cases hmk : m < n
    · obtain ⟨g, o, rfl, hg, c1, c2⟩ := HCell.out m (by rw [HN.out]; omega)
      have c1 := (hbw.cell (p := ⟨g, o + m * 2, none⟩) hg).trans c1
      have c2 := (hbw.cell (p := ⟨g, o + m * 2 + 1, none⟩) hg).trans c2
      have i1 : (0 : Int) ≤ (m : Int) := by omega
      have i2 : (m : Int) < (n : Int) := by omega
      have hbc' := (hbw.cell (p := ⟨b, 0, none⟩) hb).trans hbc
      have hlt : b < wr.heap.size := Nat.lt_of_lt_of_le hb hbw.size
      have hc := cI.out (L.getD m sub0) wr hlt hbc' false (decide_eq_false (HJ.out m hmk))
      clear hbc hbc'
      generalize (((L.getD m sub0).1.toNat : Nat) : Int) = x at *
      generalize S (L.getD m sub0).2 = y at *
      go_wp2_with fail
      refine hc.mono ?_
      rintro e w1 ⟨rfl, hb1⟩
      have hb2 := hbw.trans (hb1.mono hbw.size)
      go_wp2
      go_roundw
      case rel => exact ⟨m + 1, by omega, by go_num, hb2⟩
      case measure => simp [intOf]; omega
    · obtain rfl : m = n := by omega
      go_wp2
      go_ret
      exact ⟨rfl, hbw⟩
end

section
open Go.RowKit Go.PlainAid
/-- What yields a slice of subfields, a function value, and so on. -/
def SP.ql (v : Value) (L : List Sub) : SP := ⟨fun x w => x = v ∧ QL v L w, fun _ _ _ h b => ⟨h.1, h.2.after b⟩⟩
def SP.cl (c : UInt8) : SP := ⟨fun x w => CL c x w, fun _ _ _ h b => h.after b⟩

set_option maxHeartbeats 8000000 in
set_option maxRecDepth 100000 in
theorem getHit_any (f : Fld) (u : Value) (w : World) (hu : QL u f.subs w) (c : UInt8) (k : Nat) (hk : k < f.subs.length) (hj : ∀ j, j < k → (f.subs.getD j sub0).1 ≠ c) (he : (f.subs.getD k sub0).1 = c) :
    Calls Tryz.prog 52 #[FV f u, .int .u8 (c.toNat : Int)] w fun e w' => e = .returned (.tuple #[.string (S (f.subs.getD k sub0).2), .bool true]) ∧ Below w.heap.size w w' := by
  obtain ⟨a, cap, rfl, hcap, hmax⟩ := hu.length
  obtain ⟨val, hval⟩ : ∃ val, (f.subs.getD k sub0).2 = val := ⟨_, rfl⟩
  rw [hval]
  have HV := Lib.hid hval
  clear hval
  have cC := Lib.hid (fun W => coded_any c W)
  have cI := Lib.hid (fun W (h : QL (.slice a f.subs.length cap) f.subs W) fv (hf : CL c fv W) => index_hit f.subs _ fv W h c hf k hk hj he)
  have b0 := (Below.refl w.heap.size w).alloc (Nat.le_refl _) (.cells #[.string (S f.tag), .string (S f.ind), .slice a f.subs.length cap, .int .i64 f.auth] 24)
  obtain ⟨W0, hW0⟩ : ∃ W0, w.alloc (.cells #[.string (S f.tag), .string (S f.ind), .slice a f.subs.length cap, .int .i64 f.auth] 24) = W0 := ⟨_, rfl⟩
  have k2 : W0.cell? ⟨w.heap.size, 2, none⟩ = some (.slice a f.subs.length cap) := by rw [← hW0]; simp
  rw [hW0] at b0
  have hlt : w.heap.size < W0.heap.size := by rw [← hW0]; simp
  have hu0 := hu.after b0
  unfold FV
  have HW0 := Lib.hid hW0
  clear hW0 hj he hu
  have HCell := Lib.hid (fun (W : World) (h : Below W0.heap.size W0 W) => (h.cell (p := ⟨w.heap.size, 2, none⟩) hlt).trans k2)
  have HQ := Lib.hid (fun (W : World) (h : Below W0.heap.size W0 W) => hu0.after h)
  clear hu0 k2
  go_enter Tryz.func52, Tryz.ntmps52
  go_wp2
  rw [HW0.out]
  apply wp_region_inv (V := [.eq (.pointer (some ⟨w.heap.size, 2, none⟩)), .ql (.slice a f.subs.length cap) f.subs, .eq (.int .u8 (c.toNat : Int)), .cl c, .eq (.int .i64 (k : Int)), .eq (.int .i64 (k : Int))])
  case hm => kernel_rfl
  case hd => kernel_rfl
  case hb => kernel_rfl
  case hA =>
    intro vs
    simp only [puts, Act.put, List.setIfInBounds_toArray, List.set_cons_zero, List.set_cons_succ]
    exact rfl
  case hob =>
    refine Obs.cons _ _ _ _ _ _ ?o0 (Obs.cons _ _ _ _ _ _ ?o1 (Obs.cons _ _ _ _ _ _ ?o2 (Obs.cons _ _ _ _ _ _ ?o3 (Obs.cons _ _ _ _ _ _ ?o4 (Obs.cons _ _ _ _ _ _ ?o5 (Obs.nil _ _ _ _ _ _))))))
    case o0 =>
      intro vs W hw hd K hK
      go_simp
      exact hK.out _ _ rfl (Below.refl _ _)
    case o1 =>
      intro vs W hw hd K hK
      have h0 : vs 0 = _ := hd 0 (by kernel_rfl)
      have g0 := HCell.out W hw
      simp only [Nat.reduceAdd, h0] at hK ⊢
      go_simp
      exact hK.out _ _ ⟨rfl, HQ.out W hw⟩ (Below.refl _ _)
    case o2 =>
      intro vs W hw hd K hK
      go_simp
      exact hK.out _ _ rfl (Below.refl _ _)
    case o3 =>
      intro vs W hw hd K hK
      have h0 : vs 2 = _ := hd 2 (by kernel_rfl)
      simp only [Nat.reduceAdd, h0] at hK ⊢
      go_simp
      refine (cC.out W).mono ?_
      rintro e W' ⟨v, rfl, h1, h2⟩
      exact hK.out _ _ h1 h2
    case o4 =>
      intro vs W hw hd K hK
      have h1 := (show vs 1 = _ ∧ QL _ _ W from hd 1 (by kernel_rfl))
      have h3 : CL c (vs 3) W := hd 3 (by kernel_rfl)
      simp only [Nat.reduceAdd, h1.1] at hK ⊢
      go_simp
      refine (cI.out W h1.2 _ h3).mono ?_
      rintro e W' ⟨rfl, h2⟩
      exact hK.out _ _ rfl h2
    case o5 =>
      intro vs W hw hd K hK
      have h0 : vs 4 = _ := hd 4 (by kernel_rfl)
      simp only [Nat.reduceAdd, h0] at hK ⊢
      go_simp
      exact hK.out _ _ rfl (Below.refl _ _)
  case hfin =>
    intro vs W hw hv
    have h5 : vs 5 = .int .i64 (k : Int) := hv 5 (by decide)
    simp only [Nat.reduceAdd, h5]
    obtain ⟨ad, cap', hq, hc1, hc2, hn, hcell⟩ := HQ.out W hw
    simp only [Value.slice.injEq] at hq
    obtain ⟨rfl, _, rfl⟩ := hq
    obtain ⟨g, o, rfl, hg, c1, c2⟩ := hcell k hk
    have g0 := HCell.out W hw
    have i1 : (0 : Int) ≤ (k : Int) := by omega
    have i2 : (k : Int) < (f.subs.length : Int) := by omega
    have b1 := b0.trans (hw.mono b0.size)
    clear hcell HCell HQ hn hv cI
    rw [HV.out] at c2
    clear HV
    go_wp2
    go_ret2
    exact ⟨rfl, b1⟩

set_option maxHeartbeats 8000000 in
set_option maxRecDepth 100000 in
theorem getMiss_any (f : Fld) (u : Value) (w : World) (hu : QL u f.subs w) (c : UInt8) (hj : ∀ j, j < f.subs.length → (f.subs.getD j sub0).1 ≠ c) :
    Calls Tryz.prog 52 #[FV f u, .int .u8 (c.toNat : Int)] w fun e w' => e = .returned (.tuple #[.string (S []), .bool false]) ∧ Below w.heap.size w w' := by
  obtain ⟨a, cap, rfl, hcap, hmax⟩ := hu.length
  have cC := Lib.hid (fun W => coded_any c W)
  have cI := Lib.hid (fun W (h : QL (.slice a f.subs.length cap) f.subs W) fv (hf : CL c fv W) => index_miss f.subs _ fv W h c hf hj)
  have b0 := (Below.refl w.heap.size w).alloc (Nat.le_refl _) (.cells #[.string (S f.tag), .string (S f.ind), .slice a f.subs.length cap, .int .i64 f.auth] 24)
  obtain ⟨W0, hW0⟩ : ∃ W0, w.alloc (.cells #[.string (S f.tag), .string (S f.ind), .slice a f.subs.length cap, .int .i64 f.auth] 24) = W0 := ⟨_, rfl⟩
  have k2 : W0.cell? ⟨w.heap.size, 2, none⟩ = some (.slice a f.subs.length cap) := by rw [← hW0]; simp
  rw [hW0] at b0
  have hlt : w.heap.size < W0.heap.size := by rw [← hW0]; simp
  have hu0 := hu.after b0
  unfold FV
  have HW0 := Lib.hid hW0
  clear hW0 hj hu
  have HCell := Lib.hid (fun (W : World) (h : Below W0.heap.size W0 W) => (h.cell (p := ⟨w.heap.size, 2, none⟩) hlt).trans k2)
  have HQ := Lib.hid (fun (W : World) (h : Below W0.heap.size W0 W) => hu0.after h)
  clear hu0 k2
  go_enter Tryz.func52, Tryz.ntmps52
  go_wp2
  rw [HW0.out]
  apply wp_region_inv (V := [.eq (.pointer (some ⟨w.heap.size, 2, none⟩)), .ql (.slice a f.subs.length cap) f.subs, .eq (.int .u8 (c.toNat : Int)), .cl c, .eq (.int .i64 (-1)), .eq (.int .i64 (-1))])
  case hm => kernel_rfl
  case hd => kernel_rfl
  case hb => kernel_rfl
  case hA =>
    intro vs
    simp only [puts, Act.put, List.setIfInBounds_toArray, List.set_cons_zero, List.set_cons_succ]
    exact rfl
  case hob =>
    refine Obs.cons _ _ _ _ _ _ ?o0 (Obs.cons _ _ _ _ _ _ ?o1 (Obs.cons _ _ _ _ _ _ ?o2 (Obs.cons _ _ _ _ _ _ ?o3 (Obs.cons _ _ _ _ _ _ ?o4 (Obs.cons _ _ _ _ _ _ ?o5 (Obs.nil _ _ _ _ _ _))))))
    case o0 =>
      intro vs W hw hd K hK
      go_simp
      exact hK.out _ _ rfl (Below.refl _ _)
    case o1 =>
      intro vs W hw hd K hK
      have h0 : vs 0 = _ := hd 0 (by kernel_rfl)
      have g0 := HCell.out W hw
      simp only [Nat.reduceAdd, h0] at hK ⊢
      go_simp
      exact hK.out _ _ ⟨rfl, HQ.out W hw⟩ (Below.refl _ _)
    case o2 =>
      intro vs W hw hd K hK
      go_simp
      exact hK.out _ _ rfl (Below.refl _ _)
    case o3 =>
      intro vs W hw hd K hK
      have h0 : vs 2 = _ := hd 2 (by kernel_rfl)
      simp only [Nat.reduceAdd, h0] at hK ⊢
      go_simp
      refine (cC.out W).mono ?_
      rintro e W' ⟨v, rfl, h1, h2⟩
      exact hK.out _ _ h1 h2
    case o4 =>
      intro vs W hw hd K hK
      have h1 := (show vs 1 = _ ∧ QL _ _ W from hd 1 (by kernel_rfl))
      have h3 : CL c (vs 3) W := hd 3 (by kernel_rfl)
      simp only [Nat.reduceAdd, h1.1] at hK ⊢
      go_simp
      refine (cI.out W h1.2 _ h3).mono ?_
      rintro e W' ⟨rfl, h2⟩
      exact hK.out _ _ rfl h2
    case o5 =>
      intro vs W hw hd K hK
      have h0 : vs 4 = _ := hd 4 (by kernel_rfl)
      simp only [Nat.reduceAdd, h0] at hK ⊢
      go_simp
      exact hK.out _ _ rfl (Below.refl _ _)
  case hfin =>
    intro vs W hw hv
    have h5 : vs 5 = .int .i64 (-1) := hv 5 (by decide)
    simp only [Nat.reduceAdd, h5]
    have b1 := b0.trans (hw.mono b0.size)
    clear HCell HQ hv cI
    go_wp2
    go_ret2
    exact ⟨rfl, b1⟩

/-- The first place of a code, or none. -/
theorem first_code (L : List Sub) (c : UInt8) : (∀ j, j < L.length → (L.getD j sub0).1 ≠ c) ∨ ∃ k, k < L.length ∧ (∀ j, j < k → (L.getD j sub0).1 ≠ c) ∧ (L.getD k sub0).1 = c := by
  rcases first_bad (fun i => !decide ((L.getD i sub0).1 = c)) L.length with h | ⟨j, hj, h1, h2⟩
  · exact .inl fun j hj => by simpa using h j hj
  · exact .inr ⟨j, hj, fun i hi => by simpa using h1 i hi, by simpa using h2⟩
theorem fGet_any (f : Fld) (u : Value) (w : World) (hu : QL u f.subs w) (c : UInt8) (r : List UInt8) (b : Bool) (hb : getL f.subs c = (r, b)) :
    Calls Tryz.prog 52 #[FV f u, .int .u8 (c.toNat : Int)] w fun e w' => e = .returned (.tuple #[.string (S r), .bool b]) ∧ Below w.heap.size w w' := by
  rcases first_code f.subs c with h | ⟨k, hk, hj, he⟩
  · rw [getL_miss f.subs c h] at hb
    obtain ⟨rfl, rfl⟩ := Prod.mk.injEq .. ▸ hb
    exact getMiss_any f u w hu c h
  · rw [getL_hit f.subs c k hk hj he] at hb
    obtain ⟨rfl, rfl⟩ := Prod.mk.injEq .. ▸ hb
    exact getHit_any f u w hu c k hk hj he
end

section
open Go.RowKit Go.PlainAid
theorem cellsL_length : ∀ L : List Sub, (cellsL L).length = L.length * 2
  | [] => rfl
  | s :: t => by
    have := cellsL_length t
    show (encS s ++ cellsL t).length = _
    rw [List.length_append, this, List.length_cons]
    simp only [encS, List.length_cons, List.length_nil]
    omega
theorem cellsL_one (L : List Sub) : ∀ u ∈ cellsL L, u.oneCell' = true := by
  intro u hu
  unfold cellsL at hu
  rw [List.mem_flatMap] at hu
  obtain ⟨s, _, hs⟩ := hu
  simp only [encS, List.mem_cons, List.not_mem_nil, or_false] at hs
  rcases hs with rfl | rfl <;> rfl
theorem QL.at {a : Addr} {n cap : Nat} {L : List Sub} {w : World} (h : QL (.slice (some a) n cap) L w) : ∀ j u, (cellsL L)[j]? = some u → w.cell? (a.add j) = some u := by
  obtain ⟨ao, cap', he, hc, hm, hn, hx⟩ := h
  simp only [Value.slice.injEq] at he
  obtain ⟨rfl, rfl, rfl⟩ := he
  intro j u hj
  have hlt : j < L.length * 2 := by
    have := (List.getElem?_eq_some_iff.1 hj).1
    rwa [cellsL_length] at this
  obtain ⟨g, o, he, hg, c1, c2⟩ := hx (j / 2) (by omega)
  obtain rfl := Option.some.inj he
  have hat := cellsL_at L (j / 2) (by omega)
  have hadd : (⟨g, o, none⟩ : Addr).add j = ⟨g, o + j, none⟩ := by unfold Addr.add; split <;> simp_all
  rw [hadd]
  rcases Nat.mod_two_eq_zero_or_one j with h | h
  · rw [show j = j / 2 * 2 by omega] at hj ⊢
    rw [hat.1] at hj
    rw [c1]
    exact hj
  · rw [show j = j / 2 * 2 + 1 by omega] at hj ⊢
    rw [hat.2] at hj
    rw [show o + (j / 2 * 2 + 1) = o + j / 2 * 2 + 1 by omega, c2]
    exact hj

set_option maxHeartbeats 8000000 in
theorem sclone_any (L : List Sub) (u : Value) (w : World) (hu : QL u L w) (hs : L.length ≤ 100000) :
    Calls Tryz.prog 65 #[u] w fun e w' => ∃ v', e = .returned v' ∧ w'.ownsRow w.heap.size 48 2 v' L.length (cellsL L) ∧ Below w.heap.size w w' := by
  have q22 : ∀ (w : World) (a : Option Addr) (n c n' c' : Nat), (binOp .eql 22 (.slice a n c) (.slice none n' c')).run Tryz.prog w = .ok (.bool a.isNone) w := fun w a n c n' c' => Lib.run_eql_slice_nil w _ _ a n c n' c' Tryz.underlying22
  obtain ⟨i0, hi, hz0, hz1, hz2⟩ := info_sub
  obtain ⟨a, cap, rfl, hcap, hmax, hn, _⟩ := id hu
  cases a with
  | none =>
    obtain rfl := hn rfl
    have h0 : L = [] := List.eq_nil_of_length_eq_zero (by omega)
    subst h0
    clear hu
    go_enter Tryz.func65, Tryz.ntmps65
    go_wp2
    go_ret
    exact ⟨_, rfl, World.ownsRow_nil _ _ _ _, Below.refl _ _⟩
  | some ad =>
    have hc := hu.at
    have hc' : ∀ (o : Obj) j x, (cellsL L)[j]? = some x → (w.alloc o).cell? (ad.add j) = some x := fun o j x hj => Lib.cell?_alloc_some _ (hc j x hj)
    have HC := Lib.hid hc'
    have h1 := Lib.hid (cellsL_one L)
    have hl := Lib.hid (cellsL_length L)
    have HI := Lib.hid hi
    have HZ0 := Lib.hid hz0
    have HZ1 := Lib.hid hz1
    have HZ2 := Lib.hid hz2
    unfold maxLen at hmax
    clear hu hc hc' hi hz0 hz1 hz2
    generalize L.length = n at *
    go_enter Tryz.func65, Tryz.ntmps65
    go_wp2_with (at_builtin; refine wpList_append_own _ rfl _ _ 22 rfl w.heap.size 48 i0 (.agg #[.int .u8 0, .string ⟨#[]⟩]) 2 24 Tryz.underlying22 HI.out HZ0.out HZ1.out HZ2.out rfl (by decide) _ _ _ rfl (World.ownsRow_made w #[] 0 (Nat.le_refl _) (Nat.zero_le _) (by simp)) ad n cap (cellsL L) rfl ?qc1 ?qc2 ?qc3 ?qc4 ?qc5 ?qc6 ?_)
    case qc1 => exact hl.out
    case qc2 => exact HC.out _
    case qc3 => exact h1.out
    case qc4 => rw [Nat.zero_add]; unfold maxLen; omega
    case qc5 => rw [Nat.zero_add]; omega
    case qc6 => simp
    intro v' w1 hown hgrow hnil
    have hb := ((Below.refl _ w).alloc (Nat.le_refl _) (.cells #[] 48)).grown hgrow (by simp) (by intro k hk; simp [Value.ownBlock] at hk; omega)
    obtain ⟨ao, cp, rfl⟩ := own_form hown
    go_wp2
    go_ret
    exact ⟨_, rfl, by simpa using hown, hb⟩

/-! Stores into a row of one's own. -/
theorem own_set {w : World} {B e size n g cap p : Nat} {xs : List Value} (h : w.ownsRow B e size (.slice (some ⟨g, 0, none⟩) n cap) n xs) (x : Value) :
    (w.setCell ⟨g, p, none⟩ x).ownsRow B e size (.slice (some ⟨g, 0, none⟩) n cap) n (xs.set p x) := by
  refine ⟨by rw [List.length_set]; exact h.1, ?_⟩
  rcases h.2 with ⟨h0, _⟩ | ⟨g', cap', cur, hv, hb, hg, hc, hm, hs, ht⟩
  · cases h0
  · simp only [Value.slice.injEq, Option.some.injEq, Addr.mk.injEq] at hv
    obtain ⟨⟨rfl, _⟩, _, rfl⟩ := hv
    refine .inr ⟨g, cap, cur.setIfInBounds p x, rfl, hb, ?_, hc, hm, by simpa using hs, ?_⟩
    · simp [World.setCell, Array.getElem?_modify, hg]
    · rw [Array.toList_setIfInBounds, List.take_set, ht]
theorem own_shrink {w : World} {B e size n i g cap : Nat} {xs : List Value} (h : w.ownsRow B e size (.slice (some ⟨g, 0, none⟩) n cap) n xs) (hi : i ≤ n) :
    w.ownsRow B e size (.slice (some ⟨g, 0, none⟩) i cap) i (xs.take (i * size)) := by
  have hle : i * size ≤ n * size := Nat.mul_le_mul_right _ hi
  refine ⟨by rw [List.length_take, h.1]; omega, ?_⟩
  rcases h.2 with ⟨h0, _⟩ | ⟨g', cap', cur, hv, hb, hg, hc, hm, hs, ht⟩
  · cases h0
  · simp only [Value.slice.injEq, Option.some.injEq, Addr.mk.injEq] at hv
    obtain ⟨⟨rfl, _⟩, _, rfl⟩ := hv
    refine .inr ⟨g, cap, cur, rfl, hb, hg, Nat.le_trans hi hc, hm, hs, ?_⟩
    rw [← ht, List.take_take, Nat.min_eq_left hle]
theorem own_setCells {B e size n g cap : Nat} : ∀ (zs : List Value) (o : Nat) (w : World) (xs : List Value), w.ownsRow B e size (.slice (some ⟨g, 0, none⟩) n cap) n xs → o + zs.length ≤ n * size →
    ∃ ys, (w.setCells g o zs).ownsRow B e size (.slice (some ⟨g, 0, none⟩) n cap) n ys ∧ ys.take o = xs.take o
  | [], o, w, xs, h, _ => ⟨xs, h, rfl⟩
  | z :: zs, o, w, xs, h, hl => by
    simp only [List.length_cons] at hl
    obtain ⟨ys, h1, h2⟩ := own_setCells zs (o + 1) (w.setCell ⟨g, o, none⟩ z) (xs.set o z) (own_set h z) (by omega)
    refine ⟨ys, h1, ?_⟩
    have h3 := congrArg (List.take o) h2
    rw [List.take_take, List.take_take, Nat.min_eq_left (by omega)] at h3
    rw [h3, List.take_set, List.set_eq_of_length_le (by rw [List.length_take]; omega)]
theorem setCells_below {B g : Nat} (hB : B ≤ g) : ∀ (zs : List Value) (o : Nat) (a w : World), Below B a w → Below B a (w.setCells g o zs)
  | [], _, _, _, h => h
  | z :: zs, o, a, w, h => setCells_below hB zs (o + 1) a (w.setCell ⟨g, o, none⟩ z) (h.setCell (p := ⟨g, o, none⟩) hB z)
theorem own_facts {w : World} {B e size n g cap : Nat} {xs : List Value} (h : w.ownsRow B e size (.slice (some ⟨g, 0, none⟩) n cap) n xs) :
    B ≤ g ∧ g < w.heap.size ∧ n ≤ cap ∧ cap ≤ maxLen ∧ (∀ p, w.frozen? ⟨g, p, none⟩ = false) ∧ (∀ p, p < n * size → (w.cell? ⟨g, p, none⟩).isSome = true) := by
  rcases h.2 with ⟨h0, _⟩ | ⟨g', cap', cur, hv, hb, hg, hc, hm, hs, ht⟩
  · cases h0
  · simp only [Value.slice.injEq, Option.some.injEq, Addr.mk.injEq] at hv
    obtain ⟨⟨rfl, _⟩, _, rfl⟩ := hv
    refine ⟨hb, (Array.getElem?_eq_some_iff.1 hg).1, hc, hm, fun p => Lib.frozen_of_heap hg p, fun p hp => ?_⟩
    have hle : n * size ≤ cap * size := Nat.mul_le_mul_right _ hc
    rw [Lib.cell_of_heap hg]
    have : p < cur.size := by omega
    simp [this]
/-- clear of a part of a row of subfields. -/
theorem run_clear (w : World) (b o n c : Nat) (hn : 0 < n) (hc : ∀ j, j < n * 2 → (w.cell? ⟨b, o + j, none⟩).isSome = true) (hf : ∀ j, j < n * 2 → w.frozen? ⟨b, o + j, none⟩ = false) :
    ∃ zs : List Value, zs.length = n * 2 ∧ ∀ ty, (Builtin.clear_ #[22] ty #[.slice (some ⟨b, o, none⟩) n c]).run Tryz.prog w = .ok (.tuple #[]) (w.setCells b o zs) := by
  obtain ⟨zs, hzs⟩ : ∃ zs, (Builtin.zeroCells #[.int .u8 0, .string ⟨#[]⟩] n).toList = zs := ⟨_, rfl⟩
  have hl : zs.length = n * 2 := by rw [← hzs]; simp [Builtin.zeroCells]
  have hone : ∀ v ∈ zs, v.oneCell' = true := by
    intro v hv
    rw [← hzs] at hv
    simp only [Builtin.zeroCells, Array.toList_map, Array.toList_range, List.mem_map] at hv
    obtain ⟨i, _, rfl⟩ := hv
    have : i % (#[Value.int .u8 0, Value.string ⟨#[]⟩] : Array Value).size = 0 ∨ i % (#[Value.int .u8 0, Value.string ⟨#[]⟩] : Array Value).size = 1 := Nat.mod_two_eq_zero_or_one i
    rcases this with h | h <;> rw [h] <;> rfl
  refine ⟨zs, hl, fun ty => ?_⟩
  have hst := run_storeCells_cells (P := Tryz.prog) b o zs 0 w (by simpa [hl] using hc) (by simpa [hl] using hf) hone
  simp only [Nat.add_zero] at hst
  obtain ⟨m, rfl⟩ : ∃ m, n = m + 1 := ⟨n - 1, by omega⟩
  have hv : ∀ w, (zeroValue 48).run Tryz.prog w = .ok (.agg #[.int .u8 0, .string ⟨#[]⟩]) w := fun w => by kernel_rfl
  have hcells : (Value.agg #[.int .u8 0, .string ⟨#[]⟩]).cells = #[.int .u8 0, .string ⟨#[]⟩] := by rfl
  simp [Builtin.clear_, run_underlying Tryz.underlying22, hv, hcells, hzs, hst]

/-! What DeleteFunc keeps. -/
def keepL (c : UInt8) (L : List Sub) : List Sub := L.filter fun s => decide (s.1 ≠ c)
theorem keepL_all (c : UInt8) (L : List Sub) (h : ∀ j, j < L.length → (L.getD j sub0).1 ≠ c) : keepL c L = L := by
  unfold keepL
  rw [List.filter_eq_self]
  intro s hs
  obtain ⟨j, hj, rfl⟩ := List.getElem_of_mem hs
  have := h j hj
  rw [List.getD_eq_getElem?_getD, List.getElem?_eq_getElem hj] at this
  simpa using this
theorem take_snoc (L : List Sub) (j : Nat) (h : j < L.length) : L.take (j + 1) = L.take j ++ [L.getD j sub0] := by
  rw [List.take_succ_eq_append_getElem h, List.getD_eq_getElem?_getD, List.getElem?_eq_getElem h]
  rfl
theorem keepL_snoc (c : UInt8) (L : List Sub) (j : Nat) (h : j < L.length) : keepL c (L.take (j + 1)) = keepL c (L.take j) ++ (if (L.getD j sub0).1 ≠ c then [L.getD j sub0] else []) := by
  rw [take_snoc L j h]
  unfold keepL
  rw [List.filter_append]
  congr 1
  generalize L.getD j sub0 = x
  by_cases hc : x.1 ≠ c
  · rw [if_pos hc]; simp [hc]
  · rw [if_neg hc]; simp [Decidable.not_not.1 hc]
/-- The row, in which i of the first j subfields are kept. -/
structure KI (c : UInt8) (L : List Sub) (i j : Nat) (M : List Sub) : Prop where
  len : M.length = L.length
  le : j ≤ L.length
  lt : i < j
  low : M.take i = keepL c (L.take j)
  high : ∀ p, j ≤ p → p < L.length → M.getD p sub0 = L.getD p sub0
theorem KI.start (c : UInt8) (L : List Sub) (k : Nat) (hk : k < L.length) (hj : ∀ j, j < k → (L.getD j sub0).1 ≠ c) (he : (L.getD k sub0).1 = c) : KI c L k (k + 1) L := by
  refine ⟨rfl, hk, Nat.lt_succ_self k, ?_, fun _ _ _ => rfl⟩
  rw [keepL_snoc c L k hk, if_neg (fun h => h he), List.append_nil]
  symm
  refine keepL_all c _ (fun j hj' => ?_)
  rw [List.length_take] at hj'
  have := hj j (by omega)
  rwa [List.getD_eq_getElem?_getD, List.getElem?_take_of_lt (by omega), ← List.getD_eq_getElem?_getD]
theorem KI.skip {c : UInt8} {L M : List Sub} {i j : Nat} (h : KI c L i j M) (hj : j < L.length) (he : (L.getD j sub0).1 = c) : KI c L i (j + 1) M := by
  refine ⟨h.len, hj, Nat.lt_succ_of_lt h.lt, ?_, fun p hp hl => h.high p (by omega) hl⟩
  rw [keepL_snoc c L j hj, if_neg (fun h => h he), List.append_nil, h.low]
theorem KI.keep {c : UInt8} {L M : List Sub} {i j : Nat} (h : KI c L i j M) (hj : j < L.length) (he : (L.getD j sub0).1 ≠ c) : KI c L (i + 1) (j + 1) (M.set i (L.getD j sub0)) := by
  have hi := h.lt
  have hil : i < M.length := by rw [h.len]; omega
  refine ⟨by rw [List.length_set, h.len], hj, by omega, ?_, fun p hp hl => ?_⟩
  · rw [keepL_snoc c L j hj, if_pos he, ← h.low]
    have e : (M.set i (L.getD j sub0)).take (i + 1) = (M.set i (L.getD j sub0)).take i ++ [(M.set i (L.getD j sub0)).getD i sub0] := take_snoc _ i (by rw [List.length_set]; exact hil)
    rw [e, List.take_set, List.set_eq_of_length_le (by rw [List.length_take]; omega)]
    congr 1
    rw [List.getD_eq_getElem?_getD, List.getElem?_set_self hil]
    rfl
  · have := h.high p (by omega) hl
    rw [List.getD_eq_getElem?_getD] at this ⊢
    rw [List.getElem?_set_ne (by omega)]
    exact this
theorem cellsL_set : ∀ (M : List Sub) (i : Nat) (s : Sub), i < M.length → cellsL (M.set i s) = ((cellsL M).set (i * 2) (.int .u8 (s.1.toNat : Int))).set (i * 2 + 1) (.string (S s.2))
  | [], _, _, h => by cases h
  | x :: t, 0, s, _ => rfl
  | x :: t, i + 1, s, h => by
    have ih := cellsL_set t i s (by simpa using h)
    have e : cellsL (x :: t) = .int .u8 (x.1.toNat : Int) :: .string (S x.2) :: cellsL t := rfl
    show cellsL (x :: t.set i s) = _
    have e2 : cellsL (x :: t.set i s) = .int .u8 (x.1.toNat : Int) :: .string (S x.2) :: cellsL (t.set i s) := rfl
    rw [e2, ih, e, show (i + 1) * 2 = i * 2 + 1 + 1 by omega]
    rfl
theorem cellsL_take : ∀ (M : List Sub) (i : Nat), (cellsL M).take (i * 2) = cellsL (M.take i)
  | [], i => by simp [cellsL]
  | x :: t, 0 => by simp [cellsL]
  | x :: t, i + 1 => by
    have ih := cellsL_take t i
    have e : cellsL (x :: t) = .int .u8 (x.1.toNat : Int) :: .string (S x.2) :: cellsL t := rfl
    have e2 : cellsL (x :: t.take i) = .int .u8 (x.1.toNat : Int) :: .string (S x.2) :: cellsL (t.take i) := rfl
    rw [List.take_succ_cons, e2, ← ih, e, show (i + 1) * 2 = i * 2 + 1 + 1 by omega]
    rfl
end

end Go.Proofs.YthjdopnoophigaaGreatDoor
