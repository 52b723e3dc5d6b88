/- libraryref03.Digits, Format. -/
import Derived.Test.YtdcmfncocehbhaaDoorR03Mon
import Derived.Laws.AppendOwn
import Derived.Laws.BytesArg
namespace Go.Proofs.YtdcmfncocehbhaaDoor
open Go.RowKit

/-- The last k digits of a number, as bytes. -/
def digL (n : Nat) : Nat → List Nat
  | 0 => []
  | k + 1 => (48 + n / 10 ^ k % 10) :: digL n k
theorem digL_length (n k : Nat) : (digL n k).length = k := by
  induction k with
  | zero => rfl
  | succ k ih => simp [digL, ih]
theorem digL_range (n k : Nat) : ∀ x ∈ digL n k, 48 ≤ x ∧ x ≤ 57 := by
  induction k with
  | zero => simp [digL]
  | succ k ih =>
    intro x hx
    simp only [digL, List.mem_cons] at hx
    rcases hx with rfl | hx
    · omega
    · exact ih x hx
def u8V (x : Nat) : Value := .int .u8 (x : Int)
def digS (n k : Nat) : ByteArray := strOfNums ((digL n k).map (fun x : Nat => (x : Int)))

theorem infoByte : (Tryd.prog.info? 5).map (fun i => (i.zero, i.size, i.bytes)) = some (some (.int .u8 0), 1, 1) := by kernel_rfl

/-- A slice of bytes in memory from block B on, not nil: these bytes. -/
structure Byt (B : Nat) (v : Value) (xs : List Nat) (w : World) : Prop where
  row : w.ownsRow B 5 1 v xs.length (xs.map u8V)
  form : ∃ g cap, v = .slice (some ⟨g, 0, none⟩) xs.length cap
theorem Byt.mk' {B : Nat} {v : Value} {xs : List Nat} {w : World} (h : w.ownsRow B 5 1 v xs.length (xs.map u8V)) (hne : xs ≠ []) : Byt B v xs w := by
  refine ⟨h, ?_⟩
  rcases h.2 with ⟨_, h0⟩ | ⟨g, cap, cur, rfl, hb, hg, hc, hm, hs, ht⟩
  · exact absurd (List.eq_nil_of_length_eq_zero h0) hne
  · exact ⟨g, cap, rfl⟩
theorem Byt.open {B : Nat} {v : Value} {xs : List Nat} {w : World} (h : Byt B v xs w) :
    ∃ g cap, v = .slice (some ⟨g, 0, none⟩) xs.length cap ∧ B ≤ g ∧ g < w.heap.size ∧ ∀ i u, (xs.map u8V)[i]? = some u → w.cell? ⟨g, i, none⟩ = some u := by
  obtain ⟨g', cap', e⟩ := h.form
  rcases h.row.2 with ⟨h0, _⟩ | ⟨g, cap, cur, rfl, hb, hg, hc, hm, hs, ht⟩
  · rw [h0] at e; cases e
  · refine ⟨g, cap, rfl, hb, (Array.getElem?_eq_some_iff.1 hg).1, fun i u hi => ?_⟩
    have := h.row.cells (g := g) rfl i u hi
    have hadd : (⟨g, 0, none⟩ : Addr).add i = ⟨g, i, none⟩ := by unfold Addr.add; split <;> simp_all
    rwa [hadd] at this
theorem Byt.str {B : Nat} {v : Value} {xs : List Nat} {w : World} (h : Byt B v xs w) :
    (convert 43 9 v).run Tryd.prog w = .ok (.string (strOfNums (xs.map fun x : Nat => (x : Int)))) w := by
  obtain ⟨g, cap, rfl, hb, hg, hc⟩ := h.open
  refine run_convert_bytes_arg w 43 5 Tryd.underlying43 Tryd.underlying5 g 0 _ cap _ (by simp) (fun i hi => ?_) 9 Tryd.underlying9
  rw [Nat.zero_add]
  refine hc i _ ?_
  simp [u8V, List.getD, List.getElem?_eq_getElem hi]

set_option maxHeartbeats 8000000 in
theorem refDigits_any (n size : Nat) (hn : n ≤ 100000000) (hs : size ≤ 8) (w : World) :
    Calls Tryd.prog 35 #[.int .i64 (n : Int), .int .i64 (size : Int)] w fun e w' => e = .returned (.string (digS n size)) ∧ Below w.heap.size w w' := by
  obtain ⟨i0, hi, h0⟩ := Option.map_eq_some_iff.1 infoByte
  simp only [Prod.mk.injEq] at h0
  obtain ⟨hz0, hz1, hz2⟩ := h0
  have HZ0 := Lib.hid hz0
  have HZ1 := Lib.hid hz1
  have HZ2 := Lib.hid hz2
  have HI := Lib.hid hi
  clear hi hz0 hz1 hz2
  go_enter Tryd.func35, Tryd.ntmps35
  go_wp2
  have hb0 := (Below.refl w.heap.size w).alloc (Nat.le_refl _) (.cells #[] 5)
  have hst : Byt w.heap.size (.slice (some ⟨w.heap.size, 0, none⟩) 0 0) [] (w.alloc (.cells #[] 5)) := by
    refine ⟨⟨rfl, .inr ⟨w.heap.size, 0, #[], rfl, Nat.le_refl _, heap_alloc_new w _, Nat.le_refl _, Nat.zero_le _, rfl, rfl⟩⟩, ⟨_, _, rfl⟩⟩
  go_loopw [0, 5, 6] (fun nn b i wr => ∃ k : Nat, k ≤ size ∧ i = .int .i64 (k : Int) ∧ nn = .int .i64 ((n / 10 ^ k : Nat) : Int) ∧ Byt w.heap.size b (digL n k) wr ∧ Below w.heap.size w wr) (fun _ _ i _ => size - (intOf i).toNat)
  case atStart => exact ⟨0, Nat.zero_le _, rfl, by simp, hst, hb0⟩
  case round =>
    obtain ⟨k, hk, rfl, rfl, hbyt, hbw⟩ := hrel
    by_cases hlt : k < size
    · have hp : n / 10 ^ k ≤ n := Nat.div_le_self _ _
      have HP : RowKit.Hid (n / 10 ^ (k + 1) = n / 10 ^ k / 10) := by unfold RowKit.Hid; rw [Nat.pow_succ, Nat.div_div_eq_div_mul]
      have HD : RowKit.Hid (digL n (k + 1) = (48 + n / 10 ^ k % 10) :: digL n k) := rfl
      have hlen := digL_length n k
      generalize n / 10 ^ k = q at HP HD hp
      have m1 : Int.tmod (q : Int) 10 = ((q % 10 : Nat) : Int) := by rw [Int.tmod_eq_emod_of_nonneg (by omega)]; omega
      have m2 : (q : Int) % 10 = ((q % 10 : Nat) : Int) := by omega
      have q1 : Int.tdiv (q : Int) 10 = ((q / 10 : Nat) : Int) := by rw [Int.tdiv_eq_ediv_of_nonneg (by omega)]; omega
      have q2 : (q : Int) / 10 = ((q / 10 : Nat) : Int) := by omega
      have hr : q % 10 ≤ 9 := by omega
      have hq : q / 10 ≤ 100000000 := by omega
      generalize q % 10 = r at m1 m2 hr HD
      generalize q / 10 = q' at q1 q2 hq HP
      generalize digL n k = xs at *
      obtain ⟨g, cap, rfl, hgb, hgs, hc⟩ := hbyt.open
      have HC := Lib.hid hc
      clear hc
      have hown : (wr.alloc (.cells #[.int .u8 (48 + (r : Int))] 5)).ownsRow w.heap.size 5 1 (.slice (some ⟨wr.heap.size, 0, none⟩) 1 1) 1 [.int .u8 (48 + (r : Int))] :=
        ⟨rfl, .inr ⟨wr.heap.size, 1, #[.int .u8 (48 + (r : Int))], rfl, hbw.size, heap_alloc_new wr _, Nat.le_refl _, by decide, rfl, rfl⟩⟩
      have hwr := hbw.size
      go_wp2_with (at_builtin; go_loud (refine wpList_append_own _ rfl _ _ 43 rfl w.heap.size 5 i0 (.int .u8 0) 1 1 Tryd.underlying43 HI.out HZ0.out HZ1.out HZ2.out rfl (by decide) _ _ _ rfl hown ⟨g, 0, none⟩ xs.length cap (xs.map u8V) rfl ?c0 ?c1 ?c2 ?c3 ?c4 ?c5 ?_))
      case c0 => simp
      case c1 =>
        intro i u hi'
        have hadd : (⟨g, 0, none⟩ : Addr).add i = ⟨g, i, none⟩ := by unfold Addr.add; split <;> simp_all
        rw [hadd, ((Below.refl wr.heap.size wr).alloc (Nat.le_refl _) (.cells #[.int .u8 (48 + (r : Int))] 5)).cell (p := ⟨g, i, none⟩) hgs]
        exact HC.out i u hi'
      case c2 => intro u hu; simp at hu; obtain ⟨x, _, rfl⟩ := hu; rfl
      case c3 => unfold maxLen; omega
      case c4 => omega
      case c5 => simp; omega
      intro v' w5 hown' hgrow _
      have hbw5 := (hbw.alloc hbw.size (.cells #[.int .u8 (48 + (r : Int))] 5)).grown hgrow (by simp; omega) (by intro k' hk'; simp [Value.ownBlock] at hk'; omega)
      go_wp2
      go_roundw
      case rel => 
        refine ⟨k + 1, by omega, by go_num, by rw [HP.out], ?_, hbw5⟩
        rw [HD.out]
        refine Byt.mk' ?_ (by simp)
        rw [show ((48 + r) :: xs).length = 1 + k by rw [List.length_cons, Nat.add_comm, hlen], List.map_cons, show u8V (48 + r) = .int .u8 (48 + (r : Int)) from rfl]
        exact hown'
      case measure => simp [intOf]; omega
    · have hke : k = size := by omega
      subst hke
      have hs := hbyt.str
      clear hbyt hst
      go_wp2
      go_ret
      exact ⟨rfl, hbw⟩

/-- A date as text. -/
def fmtS (y m d : Nat) : ByteArray := digS y 4 ++ (⟨#[45]⟩ : ByteArray) ++ digS m 2 ++ (⟨#[45]⟩ : ByteArray) ++ digS d 2
theorem digS_size (n k : Nat) : (digS n k).size = k := by unfold digS; rw [strOfNums_size, List.length_map, digL_length]

theorem refFormat_bad (n : Int) (h : ¬ (0 ≤ n ∧ n ≤ 109572)) (w : World) :
    Calls Tryd.prog 24 #[.int .i64 n] w fun e w' => e = .returned (.string ⟨#[]⟩) ∧ Below w.heap.size w w' := by
  have c1 := Lib.hid (fun W => refParts_bad n h W)
  go_enter Tryd.func24, Tryd.ntmps24
  go_wp2_with fail
  refine (c1.out _).mono ?_
  rintro e w1 ⟨rfl, b1⟩
  go_wp2
  go_ret
  exact ⟨rfl, b1⟩

set_option maxHeartbeats 8000000 in
theorem refFormat_ok {n y m d : Nat} (h : IsDate n y m d) (w : World) :
    Calls Tryd.prog 24 #[.int .i64 (n : Int)] w fun e w' => e = .returned (.string (fmtS y m d)) ∧ Below w.heap.size w w' := by
  have hy1 := h.y1
  have hm1 := h.m1
  have hd1 := h.d1
  have hl : mlen y m ≤ 31 := by unfold mlen; have := mdays_pos (leap y) m; omega
  have c1 := Lib.hid (fun W => refParts_ok h W)
  have c2 := Lib.hid (fun W => refDigits_any y 4 (by omega) (by omega) W)
  have c3 := Lib.hid (fun W => refDigits_any m 2 (by omega) (by omega) W)
  have c4 := Lib.hid (fun W => refDigits_any d 2 (by omega) (by omega) W)
  have s1 := digS_size y 4
  have s2 := digS_size m 2
  have s3 := digS_size d 2
  unfold fmtS
  generalize digS y 4 = a at *
  generalize digS m 2 = b at *
  generalize digS d 2 = c at *
  clear h hd1 hl
  go_enter Tryd.func24, Tryd.ntmps24
  go_wp2_with fail
  refine (c1.out _).mono ?_
  rintro e w1 ⟨rfl, b1⟩
  go_wp2_with fail
  refine (c2.out _).mono ?_
  rintro e w2 ⟨rfl, b2⟩
  have hb2 := b1.trans (b2.mono b1.size)
  clear b2
  go_wp2_with fail
  refine (c3.out _).mono ?_
  rintro e w3 ⟨rfl, b3⟩
  have hb3 := hb2.trans (b3.mono hb2.size)
  clear b3 hb2
  go_wp2_with fail
  refine (c4.out _).mono ?_
  rintro e w4 ⟨rfl, b4⟩
  have hb4 := hb3.trans (b4.mono hb3.size)
  clear b4 hb3
  go_wp2
  go_ret
  exact ⟨rfl, hb4⟩
end Go.Proofs.YtdcmfncocehbhaaDoor
