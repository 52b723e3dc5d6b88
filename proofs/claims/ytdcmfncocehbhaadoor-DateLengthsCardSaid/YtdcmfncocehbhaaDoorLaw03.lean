/- The statements of layer 3 over this translation: they return true. -/
import Derived.Test.YtdcmfncocehbhaaDoorAlive03
namespace Go.Proofs.YtdcmfncocehbhaaDoor
open Go.RowKit Go.PlainAid

theorem parts_all (n : Int) (w : World) (hT : Tab w) : ∃ y m d e : Int,
    (∀ W, Below w.heap.size w W → Calls Tryd.prog 13 #[.int .i64 n] W fun e' w' => e' = .returned (.tuple #[.int .i64 y, .int .i64 m, .int .i64 d, .int .i64 e]) ∧ Below W.heap.size W w') ∧
    (∀ W, Calls Tryd.prog 14 #[.int .i64 n] W fun e' w' => e' = .returned (.tuple #[.int .i64 y, .int .i64 m, .int .i64 d, .int .i64 e]) ∧ Below W.heap.size W w') := by
  by_cases h : 0 ≤ n ∧ n ≤ 109572
  · obtain ⟨k, rfl⟩ : ∃ k : Nat, n = (k : Int) := ⟨n.toNat, by omega⟩
    obtain ⟨y, m, d, hd⟩ := date_of k (by unfold maxDay; omega)
    exact ⟨y, m, d, 0, fun W hW => datParts_ok hd W (hT.on hW), fun W => refParts_ok hd W⟩
  · exact ⟨0, 0, 0, 2, fun W _ => datParts_bad n h W, fun W => refParts_bad n h W⟩
theorem format_all (n : Int) (w : World) (hT : Tab w) : ∃ s : ByteArray,
    (∀ W, Below w.heap.size w W → Calls Tryd.prog 23 #[.int .i64 n] W fun e' w' => e' = .returned (.string s) ∧ Below W.heap.size W w') ∧
    (∀ W, Calls Tryd.prog 24 #[.int .i64 n] W fun e' w' => e' = .returned (.string s) ∧ Below W.heap.size W w') := by
  by_cases h : 0 ≤ n ∧ n ≤ 109572
  · obtain ⟨k, rfl⟩ : ∃ k : Nat, n = (k : Int) := ⟨n.toNat, by omega⟩
    obtain ⟨y, m, d, hd⟩ := date_of k (by unfold maxDay; omega)
    exact ⟨_, fun W hW => datFormat_ok hd W (hT.on hW), fun W => refFormat_ok hd W⟩
  · exact ⟨_, fun W _ => datFormat_bad n h W, fun W => refFormat_bad n h W⟩
theorem months_all (n j : Int) (w : World) (hT : Tab w) : ∃ a e : Int,
    (∀ W, Below w.heap.size w W → Calls Tryd.prog 19 #[.int .i64 n, .int .i64 j] W fun e' w' => e' = .returned (.tuple #[.int .i64 a, .int .i64 e]) ∧ Below W.heap.size W w') ∧
    (∀ W, Calls Tryd.prog 20 #[.int .i64 n, .int .i64 j] W fun e' w' => e' = .returned (.tuple #[.int .i64 a, .int .i64 e]) ∧ Below W.heap.size W w') := by
  by_cases h : 0 ≤ n ∧ n ≤ 109572
  · obtain ⟨k, rfl⟩ : ∃ k : Nat, n = (k : Int) := ⟨n.toNat, by omega⟩
    obtain ⟨y, m, d, hd⟩ := date_of k (by unfold maxDay; omega)
    by_cases hj : -3600 ≤ j ∧ j ≤ 3600
    · by_cases hk : 22800 ≤ 12 * (y : Int) + m - 1 + j ∧ 12 * (y : Int) + m - 1 + j ≤ 26399
      · obtain ⟨q, hq⟩ : ∃ q : Nat, 12 * (y : Int) + m - 1 + j = (q : Int) := ⟨(12 * (y : Int) + m - 1 + j).toNat, by omega⟩
        rw [hq] at hk
        obtain ⟨r, hr⟩ := capD_date (q / 12) (q % 12 + 1) d hd.d0 (by omega) (by omega) (by omega) (by omega)
        exact ⟨r, 0, fun W hW => datMonths_in hd j q hq (by omega) hr W (hT.on hW), fun W => refMonths_ok hd j q hj hq (by omega) hr W⟩
      · exact ⟨0, 2, fun W hW => datMonths_off hd j hk W (hT.on hW), fun W => refMonths_out hd j _ hj rfl hk W⟩
    · exact ⟨0, 2, fun W hW => datMonths_off hd j (by have := hd.y0; have := hd.y1; have := hd.m0; have := hd.m1; omega) W (hT.on hW), fun W => refMonths_far hd j hj W⟩
  · exact ⟨0, 2, fun W _ => datMonths_bad n j h W, fun W => refMonths_bad n j h W⟩

set_option maxHeartbeats 8000000 in
theorem lawOf_any (y m d : Int) (w : World) (hT : Tab w) :
    Calls Tryd.prog 3 #[.int .i64 y, .int .i64 m, .int .i64 d] w fun e w' => e = .returned (.bool true) ∧ Below w.heap.size w w' := by
  obtain ⟨⟨n, er⟩, ho⟩ : ∃ v, ofI y m d = v := ⟨_, rfl⟩
  have c1 := Lib.hid (fun W (hW : Below w.heap.size w W) => datOf_any y m d n er ho W (hT.on hW))
  have c2 := Lib.hid (fun W => refOf_any y m d n er ho W)
  have c3 := Lib.hid (fun W (hW : Below w.heap.size w W) => alive_any W (hT.on hW))
  clear ho
  have b0 := Below.refl w.heap.size w
  go_enter Tryd.func3, Tryd.ntmps3
  go_wp2_with fail
  refine (c1.out _ (by assumption)).mono ?_
  rintro e w1 ⟨rfl, b1⟩
  go_wp2_with fail
  refine (c2.out _).mono ?_
  rintro e w2 ⟨rfl, b2'⟩
  have b2 := b1.trans (b2'.mono b1.size)
  clear b2' b1
  go_wp2_with fail
  refine (c3.out _ (by assumption)).mono ?_
  rintro e w3 ⟨rfl, b3'⟩
  have b3 := b2.trans (b3'.mono b2.size)
  clear b3' b2
  go_wp2
  go_ret
  exact ⟨rfl, b3⟩

set_option maxHeartbeats 8000000 in
theorem lawParts_any (n : Int) (w : World) (hT : Tab w) :
    Calls Tryd.prog 4 #[.int .i64 n] w fun e w' => e = .returned (.bool true) ∧ Below w.heap.size w w' := by
  obtain ⟨y, m, d, er, h1, h2⟩ := parts_all n w hT
  have c1 := Lib.hid h1
  have c2 := Lib.hid h2
  have c3 := Lib.hid (fun W (hW : Below w.heap.size w W) => alive_any W (hT.on hW))
  clear h1 h2
  have b0 := Below.refl w.heap.size w
  go_enter Tryd.func4, Tryd.ntmps4
  go_wp2_with fail
  refine (c1.out _ (by assumption)).mono ?_
  rintro e w1 ⟨rfl, b1⟩
  go_wp2_with fail
  refine (c2.out _).mono ?_
  rintro e w2 ⟨rfl, b2'⟩
  have b2 := b1.trans (b2'.mono b1.size)
  clear b2' b1
  go_wp2_with fail
  refine (c3.out _ (by assumption)).mono ?_
  rintro e w3 ⟨rfl, b3'⟩
  have b3 := b2.trans (b3'.mono b2.size)
  clear b3' b2
  go_wp2
  go_ret
  exact ⟨rfl, b3⟩

set_option maxHeartbeats 8000000 in
theorem lawMonths_any (n j : Int) (w : World) (hT : Tab w) :
    Calls Tryd.prog 6 #[.int .i64 n, .int .i64 j] w fun e w' => e = .returned (.bool true) ∧ Below w.heap.size w w' := by
  obtain ⟨a, er, h1, h2⟩ := months_all n j w hT
  have c1 := Lib.hid h1
  have c2 := Lib.hid h2
  have c3 := Lib.hid (fun W (hW : Below w.heap.size w W) => alive_any W (hT.on hW))
  clear h1 h2
  have b0 := Below.refl w.heap.size w
  go_enter Tryd.func6, Tryd.ntmps6
  go_wp2_with fail
  refine (c1.out _ (by assumption)).mono ?_
  rintro e w1 ⟨rfl, b1⟩
  go_wp2_with fail
  refine (c2.out _).mono ?_
  rintro e w2 ⟨rfl, b2'⟩
  have b2 := b1.trans (b2'.mono b1.size)
  clear b2' b1
  go_wp2_with fail
  refine (c3.out _ (by assumption)).mono ?_
  rintro e w3 ⟨rfl, b3'⟩
  have b3 := b2.trans (b3'.mono b2.size)
  clear b3' b2
  go_wp2
  go_ret
  exact ⟨rfl, b3⟩

set_option maxHeartbeats 8000000 in
theorem lawLengths_any (y m n : Int) (w : World) (hT : Tab w) :
    Calls Tryd.prog 5 #[.int .i64 y, .int .i64 m, .int .i64 n] w fun e w' => e = .returned (.bool true) ∧ Below w.heap.size w w' := by
  have c3 := Lib.hid (fun W (hW : Below w.heap.size w W) => alive_any W (hT.on hW))
  have c1 := Lib.hid (fun W (hW : Below w.heap.size w W) => datLength_any y m _ rfl W (hT.on hW))
  have c2 := Lib.hid (fun W => refLength_any y m _ rfl W)
  have c4 := Lib.hid (fun W => datWeekday_any n _ rfl W)
  have c5 := Lib.hid (fun W => refWeekday_any n _ rfl W)
  generalize lenI y m = l at c1 c2
  generalize weekI n = k at c4 c5
  have b0 := Below.refl w.heap.size w
  go_enter Tryd.func5, Tryd.ntmps5
  go_wp2_with fail
  refine (c3.out _ (by assumption)).mono ?_
  rintro e w1 ⟨rfl, b1⟩
  go_wp2_with fail
  refine (c1.out _ (by assumption)).mono ?_
  rintro e w2 ⟨rfl, b2'⟩
  have b2 := b1.trans (b2'.mono b1.size)
  clear b2' b1
  go_wp2_with fail
  refine (c2.out _).mono ?_
  rintro e w3 ⟨rfl, b3'⟩
  have b3 := b2.trans (b3'.mono b2.size)
  clear b3' b2
  go_wp2_with fail
  refine (c4.out _).mono ?_
  rintro e w4 ⟨rfl, rfl⟩
  go_wp2_with fail
  refine (c5.out _).mono ?_
  rintro e w5 ⟨rfl, rfl⟩
  go_wp2
  go_ret
  exact ⟨rfl, b3⟩

set_option maxHeartbeats 8000000 in
theorem lawTexts_any (n : Int) (s : ByteArray) (w : World) (hT : Tab w) :
    Calls Tryd.prog 7 #[.int .i64 n, .string s] w fun e w' => e = .returned (.bool true) ∧ Below w.heap.size w w' := by
  obtain ⟨⟨a, er⟩, ho⟩ : ∃ v, parI s = v := ⟨_, rfl⟩
  obtain ⟨t, h1, h2⟩ := format_all n w hT
  have c1 := Lib.hid (fun W (hW : Below w.heap.size w W) => datParse_all s a er ho W (hT.on hW))
  have c2 := Lib.hid (fun W => refParse_all s a er ho W)
  have c3 := Lib.hid (fun W (hW : Below w.heap.size w W) => alive_any W (hT.on hW))
  have c4 := Lib.hid h1
  have c5 := Lib.hid h2
  clear ho h1 h2
  have b0 := Below.refl w.heap.size w
  go_enter Tryd.func7, Tryd.ntmps7
  go_wp2_with fail
  refine (c1.out _ (by assumption)).mono ?_
  rintro e w1 ⟨rfl, b1⟩
  go_wp2_with fail
  refine (c2.out _).mono ?_
  rintro e w2 ⟨rfl, b2'⟩
  have b2 := b1.trans (b2'.mono b1.size)
  clear b2' b1
  go_wp2_with fail
  refine (c3.out _ (by assumption)).mono ?_
  rintro e w3 ⟨rfl, b3'⟩
  have b3 := b2.trans (b3'.mono b2.size)
  clear b3' b2
  go_wp2_with fail
  refine (c4.out _ (by assumption)).mono ?_
  rintro e w4 ⟨rfl, b4'⟩
  have b4 := b3.trans (b4'.mono b3.size)
  clear b4' b3
  go_wp2_with fail
  refine (c5.out _).mono ?_
  rintro e w5 ⟨rfl, b5'⟩
  have b5 := b4.trans (b5'.mono b4.size)
  clear b5' b4
  go_wp2
  go_ret
  exact ⟨rfl, b5⟩
end Go.Proofs.YtdcmfncocehbhaaDoor
