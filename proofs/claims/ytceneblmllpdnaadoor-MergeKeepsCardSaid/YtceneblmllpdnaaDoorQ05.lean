/- Merged: RDecode. -/
import Derived.Test.YtceneblmllpdnaaDoorQ04
import Derived.PlainAid
import Derived.RegionTactic
import Derived.ChangeAlike
import Derived.BigRegion
namespace Go.Proofs.YtceneblmllpdnaaDoor

section
open Go.RowKit Go.PlainAid
theorem dec_ascii (s : ByteArray) (i : Nat) (hi : i < s.size) (h0 : 32 ≤ bt s i) (h1 : bt s i < 127) (w : World) :
    Calls Tryd.prog 65 #[.string s, .int .i64 i] w fun e w' => e = .returned (.tuple #[.int .i64 (bt s i), .int .i64 1]) ∧ w = w' := by
  have hb := get_bt s
  have na := bt_nonneg s i
  have nb := bt_nonneg s (i + 1)
  have nc := bt_nonneg s (i + 2)
  have la := bt_le s i
  have lb := bt_le s (i + 1)
  have lc := bt_le s (i + 2)
  have d1 : decide (32 ≤ bt s i) = true := by simp; omega
  have d2 : decide (bt s i < 127) = true := by simp; omega
  go_enter Tryd.func65, Tryd.ntmps65
  go_wp2
  go_ret2
  exact ⟨rfl, rfl⟩

theorem dec_two (s : ByteArray) (i : Nat) (hi : i < s.size) (hz : s.size ≤ 1000000) (h0 : 194 ≤ bt s i) (h1 : bt s i < 224) (h2 : i + 1 < s.size) (h3 : 128 ≤ bt s (i + 1)) (h4 : bt s (i + 1) < 192) (h5 : 160 ≤ (bt s i - 192) * 64 + bt s (i + 1) - 128) (w : World) :
    Calls Tryd.prog 65 #[.string s, .int .i64 i] w fun e w' => e = .returned (.tuple #[.int .i64 ((bt s i - 192) * 64 + bt s (i + 1) - 128), .int .i64 2]) ∧ w = w' := by
  have hb := get_bt s
  have na := bt_nonneg s i
  have nb := bt_nonneg s (i + 1)
  have nc := bt_nonneg s (i + 2)
  have la := bt_le s i
  have lb := bt_le s (i + 1)
  have lc := bt_le s (i + 2)
  have d1 : decide (32 ≤ bt s i) = true := by simp; omega
  have d2 : decide (bt s i < 127) = false := by simp; omega
  have d3 : decide (194 ≤ bt s i) = true := by simp; omega
  have d4 : decide (bt s i < 224) = true := by simp; omega
  have e5 : ((i : Int) + 1 < (s.size : Int)) := by omega
  have d5 : decide (128 ≤ bt s (i + 1)) = true := by simp; omega
  have d6 : decide (bt s (i + 1) < 192) = true := by simp; omega
  have d7 : decide (160 ≤ (bt s i - 192) * 64 + bt s (i + 1) - 128) = true := by simp; omega
  go_enter Tryd.func65, Tryd.ntmps65
  go_wp2
  go_ret2
  exact ⟨rfl, rfl⟩

theorem dec_three_lo (s : ByteArray) (i : Nat) (hi : i < s.size) (hz : s.size ≤ 1000000) (h0 : 224 ≤ bt s i) (h1 : bt s i < 240) (h2 : i + 2 < s.size) (h3 : 128 ≤ bt s (i + 1)) (h4 : bt s (i + 1) < 192) (h5 : 128 ≤ bt s (i + 2)) (h6 : bt s (i + 2) < 192) (h7 : 2048 ≤ (bt s i - 224) * 4096 + (bt s (i + 1) - 128) * 64 + bt s (i + 2) - 128) (h8 : (bt s i - 224) * 4096 + (bt s (i + 1) - 128) * 64 + bt s (i + 2) - 128 < 55296) (w : World) :
    Calls Tryd.prog 65 #[.string s, .int .i64 i] w fun e w' => e = .returned (.tuple #[.int .i64 ((bt s i - 224) * 4096 + (bt s (i + 1) - 128) * 64 + bt s (i + 2) - 128), .int .i64 3]) ∧ Below w.heap.size w w' := by
  have hb := get_bt s
  have na := bt_nonneg s i
  have nb := bt_nonneg s (i + 1)
  have nc := bt_nonneg s (i + 2)
  have la := bt_le s i
  have lb := bt_le s (i + 1)
  have lc := bt_le s (i + 2)
  have d1 : decide (32 ≤ bt s i) = true := by simp; omega
  have d2 : decide (bt s i < 127) = false := by simp; omega
  have d3 : decide (194 ≤ bt s i) = true := by simp; omega
  have d4 : decide (bt s i < 224) = false := by simp; omega
  have d5 : decide (224 ≤ bt s i) = true := by simp; omega
  have d6 : decide (bt s i < 240) = true := by simp; omega
  have e5 : ((i : Int) + 1 < (s.size : Int)) := by omega
  have e11 : ((i : Int) + 2 < (s.size : Int)) := by omega
  have d7 : decide (128 ≤ bt s (i + 1)) = true := by simp; omega
  have d8 : decide (bt s (i + 1) < 192) = true := by simp; omega
  have d9 : decide (128 ≤ bt s (i + 2)) = true := by simp; omega
  have d10 : decide (bt s (i + 2) < 192) = true := by simp; omega
  have d11 : decide (2048 ≤ (bt s i - 224) * 4096 + (bt s (i + 1) - 128) * 64 + bt s (i + 2) - 128) = true := by simp; omega
  have d12 : decide ((bt s i - 224) * 4096 + (bt s (i + 1) - 128) * 64 + bt s (i + 2) - 128 < 55296) = true := by simp; omega
  go_enter Tryd.func65, Tryd.ntmps65
  go_wp2
  go_region
  all_goals
    go_wp2
    go_ret2
    exact ⟨rfl, (Below.refl _ w).drew⟩

theorem dec_three_hi (s : ByteArray) (i : Nat) (hi : i < s.size) (hz : s.size ≤ 1000000) (h0 : 224 ≤ bt s i) (h1 : bt s i < 240) (h2 : i + 2 < s.size) (h3 : 128 ≤ bt s (i + 1)) (h4 : bt s (i + 1) < 192) (h5 : 128 ≤ bt s (i + 2)) (h6 : bt s (i + 2) < 192) (h7 : 57343 < (bt s i - 224) * 4096 + (bt s (i + 1) - 128) * 64 + bt s (i + 2) - 128) (w : World) :
    Calls Tryd.prog 65 #[.string s, .int .i64 i] w fun e w' => e = .returned (.tuple #[.int .i64 ((bt s i - 224) * 4096 + (bt s (i + 1) - 128) * 64 + bt s (i + 2) - 128), .int .i64 3]) ∧ Below w.heap.size w w' := by
  have hb := get_bt s
  have na := bt_nonneg s i
  have nb := bt_nonneg s (i + 1)
  have nc := bt_nonneg s (i + 2)
  have la := bt_le s i
  have lb := bt_le s (i + 1)
  have lc := bt_le s (i + 2)
  have d1 : decide (32 ≤ bt s i) = true := by simp; omega
  have d2 : decide (bt s i < 127) = false := by simp; omega
  have d3 : decide (194 ≤ bt s i) = true := by simp; omega
  have d4 : decide (bt s i < 224) = false := by simp; omega
  have d5 : decide (224 ≤ bt s i) = true := by simp; omega
  have d6 : decide (bt s i < 240) = true := by simp; omega
  have e5 : ((i : Int) + 1 < (s.size : Int)) := by omega
  have e11 : ((i : Int) + 2 < (s.size : Int)) := by omega
  have d7 : decide (128 ≤ bt s (i + 1)) = true := by simp; omega
  have d8 : decide (bt s (i + 1) < 192) = true := by simp; omega
  have d9 : decide (128 ≤ bt s (i + 2)) = true := by simp; omega
  have d10 : decide (bt s (i + 2) < 192) = true := by simp; omega
  have d11 : decide (2048 ≤ (bt s i - 224) * 4096 + (bt s (i + 1) - 128) * 64 + bt s (i + 2) - 128) = true := by simp; omega
  have d12 : decide ((bt s i - 224) * 4096 + (bt s (i + 1) - 128) * 64 + bt s (i + 2) - 128 < 55296) = false := by simp; omega
  have d13 : decide (57343 < (bt s i - 224) * 4096 + (bt s (i + 1) - 128) * 64 + bt s (i + 2) - 128) = true := by simp; omega
  go_enter Tryd.func65, Tryd.ntmps65
  go_wp2
  go_region
  all_goals
    go_wp2
    go_ret2
    exact ⟨rfl, (Below.refl _ w).drew⟩

theorem dec_n1 (s : ByteArray) (i : Nat) (hi : i < s.size) (h0 : bt s i < 32) (w : World) :
    Calls Tryd.prog 65 #[.string s, .int .i64 i] w fun e w' => e = .returned (.tuple #[.int .i64 0, .int .i64 0]) ∧ w = w' := by
  have hb := get_bt s
  have na := bt_nonneg s i
  have nb := bt_nonneg s (i + 1)
  have nc := bt_nonneg s (i + 2)
  have la := bt_le s i
  have lb := bt_le s (i + 1)
  have lc := bt_le s (i + 2)
  have d1 : decide (32 ≤ bt s i) = false := by simp; omega
  have d2 : decide (194 ≤ bt s i) = false := by simp; omega
  have d3 : decide (224 ≤ bt s i) = false := by simp; omega
  go_enter Tryd.func65, Tryd.ntmps65
  go_wp2
  go_ret2
  exact ⟨rfl, rfl⟩

theorem dec_n2 (s : ByteArray) (i : Nat) (hi : i < s.size) (h0 : 127 ≤ bt s i) (h1 : bt s i < 194) (w : World) :
    Calls Tryd.prog 65 #[.string s, .int .i64 i] w fun e w' => e = .returned (.tuple #[.int .i64 0, .int .i64 0]) ∧ w = w' := by
  have hb := get_bt s
  have na := bt_nonneg s i
  have nb := bt_nonneg s (i + 1)
  have nc := bt_nonneg s (i + 2)
  have la := bt_le s i
  have lb := bt_le s (i + 1)
  have lc := bt_le s (i + 2)
  have d1 : decide (32 ≤ bt s i) = true := by simp; omega
  have d2 : decide (bt s i < 127) = false := by simp; omega
  have d3 : decide (194 ≤ bt s i) = false := by simp; omega
  have d4 : decide (224 ≤ bt s i) = false := by simp; omega
  go_enter Tryd.func65, Tryd.ntmps65
  go_wp2
  go_ret2
  exact ⟨rfl, rfl⟩

theorem dec_n3 (s : ByteArray) (i : Nat) (hi : i < s.size) (hz : s.size ≤ 1000000) (h0 : 194 ≤ bt s i) (h1 : bt s i < 224) (h2 : s.size ≤ i + 1) (w : World) :
    Calls Tryd.prog 65 #[.string s, .int .i64 i] w fun e w' => e = .returned (.tuple #[.int .i64 0, .int .i64 0]) ∧ w = w' := by
  have hb := get_bt s
  have na := bt_nonneg s i
  have nb := bt_nonneg s (i + 1)
  have nc := bt_nonneg s (i + 2)
  have la := bt_le s i
  have lb := bt_le s (i + 1)
  have lc := bt_le s (i + 2)
  have d1 : decide (32 ≤ bt s i) = true := by simp; omega
  have d2 : decide (bt s i < 127) = false := by simp; omega
  have d3 : decide (194 ≤ bt s i) = true := by simp; omega
  have d4 : decide (bt s i < 224) = true := by simp; omega
  have e5 : ¬ ((i : Int) + 1 < (s.size : Int)) := by omega
  have d5 : decide (224 ≤ bt s i) = false := by simp; omega
  go_enter Tryd.func65, Tryd.ntmps65
  go_wp2
  go_ret2
  exact ⟨rfl, rfl⟩

theorem dec_n4 (s : ByteArray) (i : Nat) (hi : i < s.size) (hz : s.size ≤ 1000000) (h0 : 194 ≤ bt s i) (h1 : bt s i < 224) (h2 : i + 1 < s.size) (h3 : bt s (i + 1) < 128) (w : World) :
    Calls Tryd.prog 65 #[.string s, .int .i64 i] w fun e w' => e = .returned (.tuple #[.int .i64 0, .int .i64 0]) ∧ w = w' := by
  have hb := get_bt s
  have na := bt_nonneg s i
  have nb := bt_nonneg s (i + 1)
  have nc := bt_nonneg s (i + 2)
  have la := bt_le s i
  have lb := bt_le s (i + 1)
  have lc := bt_le s (i + 2)
  have d1 : decide (32 ≤ bt s i) = true := by simp; omega
  have d2 : decide (bt s i < 127) = false := by simp; omega
  have d3 : decide (194 ≤ bt s i) = true := by simp; omega
  have d4 : decide (bt s i < 224) = true := by simp; omega
  have e5 : ((i : Int) + 1 < (s.size : Int)) := by omega
  have d5 : decide (128 ≤ bt s (i + 1)) = false := by simp; omega
  have d6 : decide (224 ≤ bt s i) = false := by simp; omega
  go_enter Tryd.func65, Tryd.ntmps65
  go_wp2
  go_ret2
  exact ⟨rfl, rfl⟩

theorem dec_n5 (s : ByteArray) (i : Nat) (hi : i < s.size) (hz : s.size ≤ 1000000) (h0 : 194 ≤ bt s i) (h1 : bt s i < 224) (h2 : i + 1 < s.size) (h3 : 192 ≤ bt s (i + 1)) (w : World) :
    Calls Tryd.prog 65 #[.string s, .int .i64 i] w fun e w' => e = .returned (.tuple #[.int .i64 0, .int .i64 0]) ∧ w = w' := by
  have hb := get_bt s
  have na := bt_nonneg s i
  have nb := bt_nonneg s (i + 1)
  have nc := bt_nonneg s (i + 2)
  have la := bt_le s i
  have lb := bt_le s (i + 1)
  have lc := bt_le s (i + 2)
  have d1 : decide (32 ≤ bt s i) = true := by simp; omega
  have d2 : decide (bt s i < 127) = false := by simp; omega
  have d3 : decide (194 ≤ bt s i) = true := by simp; omega
  have d4 : decide (bt s i < 224) = true := by simp; omega
  have e5 : ((i : Int) + 1 < (s.size : Int)) := by omega
  have d5 : decide (128 ≤ bt s (i + 1)) = true := by simp; omega
  have d6 : decide (bt s (i + 1) < 192) = false := by simp; omega
  have d7 : decide (224 ≤ bt s i) = false := by simp; omega
  go_enter Tryd.func65, Tryd.ntmps65
  go_wp2
  go_ret2
  exact ⟨rfl, rfl⟩

theorem dec_n6 (s : ByteArray) (i : Nat) (hi : i < s.size) (hz : s.size ≤ 1000000) (h0 : 194 ≤ bt s i) (h1 : bt s i < 224) (h2 : i + 1 < s.size) (h3 : 128 ≤ bt s (i + 1)) (h4 : bt s (i + 1) < 192) (h5 : (bt s i - 192) * 64 + bt s (i + 1) - 128 < 160) (w : World) :
    Calls Tryd.prog 65 #[.string s, .int .i64 i] w fun e w' => e = .returned (.tuple #[.int .i64 0, .int .i64 0]) ∧ w = w' := by
  have hb := get_bt s
  have na := bt_nonneg s i
  have nb := bt_nonneg s (i + 1)
  have nc := bt_nonneg s (i + 2)
  have la := bt_le s i
  have lb := bt_le s (i + 1)
  have lc := bt_le s (i + 2)
  have d1 : decide (32 ≤ bt s i) = true := by simp; omega
  have d2 : decide (bt s i < 127) = false := by simp; omega
  have d3 : decide (194 ≤ bt s i) = true := by simp; omega
  have d4 : decide (bt s i < 224) = true := by simp; omega
  have e5 : ((i : Int) + 1 < (s.size : Int)) := by omega
  have d5 : decide (128 ≤ bt s (i + 1)) = true := by simp; omega
  have d6 : decide (bt s (i + 1) < 192) = true := by simp; omega
  have d7 : decide (160 ≤ (bt s i - 192) * 64 + bt s (i + 1) - 128) = false := by simp; omega
  go_enter Tryd.func65, Tryd.ntmps65
  go_wp2
  go_ret2
  exact ⟨rfl, rfl⟩

theorem dec_n7 (s : ByteArray) (i : Nat) (hi : i < s.size) (hz : s.size ≤ 1000000) (h0 : 224 ≤ bt s i) (h1 : bt s i < 240) (h2 : s.size ≤ i + 2) (w : World) :
    Calls Tryd.prog 65 #[.string s, .int .i64 i] w fun e w' => e = .returned (.tuple #[.int .i64 0, .int .i64 0]) ∧ w = w' := by
  have hb := get_bt s
  have na := bt_nonneg s i
  have nb := bt_nonneg s (i + 1)
  have nc := bt_nonneg s (i + 2)
  have la := bt_le s i
  have lb := bt_le s (i + 1)
  have lc := bt_le s (i + 2)
  have d1 : decide (32 ≤ bt s i) = true := by simp; omega
  have d2 : decide (bt s i < 127) = false := by simp; omega
  have d3 : decide (194 ≤ bt s i) = true := by simp; omega
  have d4 : decide (bt s i < 224) = false := by simp; omega
  have d5 : decide (224 ≤ bt s i) = true := by simp; omega
  have d6 : decide (bt s i < 240) = true := by simp; omega
  have e11 : ¬ ((i : Int) + 2 < (s.size : Int)) := by omega
  go_enter Tryd.func65, Tryd.ntmps65
  go_wp2
  go_ret2
  exact ⟨rfl, rfl⟩

theorem dec_n8 (s : ByteArray) (i : Nat) (hi : i < s.size) (hz : s.size ≤ 1000000) (h0 : 224 ≤ bt s i) (h1 : bt s i < 240) (h2 : i + 2 < s.size) (h3 : bt s (i + 1) < 128) (w : World) :
    Calls Tryd.prog 65 #[.string s, .int .i64 i] w fun e w' => e = .returned (.tuple #[.int .i64 0, .int .i64 0]) ∧ w = w' := by
  have hb := get_bt s
  have na := bt_nonneg s i
  have nb := bt_nonneg s (i + 1)
  have nc := bt_nonneg s (i + 2)
  have la := bt_le s i
  have lb := bt_le s (i + 1)
  have lc := bt_le s (i + 2)
  have d1 : decide (32 ≤ bt s i) = true := by simp; omega
  have d2 : decide (bt s i < 127) = false := by simp; omega
  have d3 : decide (194 ≤ bt s i) = true := by simp; omega
  have d4 : decide (bt s i < 224) = false := by simp; omega
  have d5 : decide (224 ≤ bt s i) = true := by simp; omega
  have d6 : decide (bt s i < 240) = true := by simp; omega
  have e5 : ((i : Int) + 1 < (s.size : Int)) := by omega
  have e11 : ((i : Int) + 2 < (s.size : Int)) := by omega
  have d7 : decide (128 ≤ bt s (i + 1)) = false := by simp; omega
  go_enter Tryd.func65, Tryd.ntmps65
  go_wp2
  go_ret2
  exact ⟨rfl, rfl⟩

theorem dec_n9 (s : ByteArray) (i : Nat) (hi : i < s.size) (hz : s.size ≤ 1000000) (h0 : 224 ≤ bt s i) (h1 : bt s i < 240) (h2 : i + 2 < s.size) (h3 : 192 ≤ bt s (i + 1)) (w : World) :
    Calls Tryd.prog 65 #[.string s, .int .i64 i] w fun e w' => e = .returned (.tuple #[.int .i64 0, .int .i64 0]) ∧ w = w' := by
  have hb := get_bt s
  have na := bt_nonneg s i
  have nb := bt_nonneg s (i + 1)
  have nc := bt_nonneg s (i + 2)
  have la := bt_le s i
  have lb := bt_le s (i + 1)
  have lc := bt_le s (i + 2)
  have d1 : decide (32 ≤ bt s i) = true := by simp; omega
  have d2 : decide (bt s i < 127) = false := by simp; omega
  have d3 : decide (194 ≤ bt s i) = true := by simp; omega
  have d4 : decide (bt s i < 224) = false := by simp; omega
  have d5 : decide (224 ≤ bt s i) = true := by simp; omega
  have d6 : decide (bt s i < 240) = true := by simp; omega
  have e5 : ((i : Int) + 1 < (s.size : Int)) := by omega
  have e11 : ((i : Int) + 2 < (s.size : Int)) := by omega
  have d7 : decide (128 ≤ bt s (i + 1)) = true := by simp; omega
  have d8 : decide (bt s (i + 1) < 192) = false := by simp; omega
  go_enter Tryd.func65, Tryd.ntmps65
  go_wp2
  go_ret2
  exact ⟨rfl, rfl⟩

theorem dec_n10 (s : ByteArray) (i : Nat) (hi : i < s.size) (hz : s.size ≤ 1000000) (h0 : 224 ≤ bt s i) (h1 : bt s i < 240) (h2 : i + 2 < s.size) (h3 : 128 ≤ bt s (i + 1)) (h4 : bt s (i + 1) < 192) (h5 : bt s (i + 2) < 128) (w : World) :
    Calls Tryd.prog 65 #[.string s, .int .i64 i] w fun e w' => e = .returned (.tuple #[.int .i64 0, .int .i64 0]) ∧ w = w' := by
  have hb := get_bt s
  have na := bt_nonneg s i
  have nb := bt_nonneg s (i + 1)
  have nc := bt_nonneg s (i + 2)
  have la := bt_le s i
  have lb := bt_le s (i + 1)
  have lc := bt_le s (i + 2)
  have d1 : decide (32 ≤ bt s i) = true := by simp; omega
  have d2 : decide (bt s i < 127) = false := by simp; omega
  have d3 : decide (194 ≤ bt s i) = true := by simp; omega
  have d4 : decide (bt s i < 224) = false := by simp; omega
  have d5 : decide (224 ≤ bt s i) = true := by simp; omega
  have d6 : decide (bt s i < 240) = true := by simp; omega
  have e5 : ((i : Int) + 1 < (s.size : Int)) := by omega
  have e11 : ((i : Int) + 2 < (s.size : Int)) := by omega
  have d7 : decide (128 ≤ bt s (i + 1)) = true := by simp; omega
  have d8 : decide (bt s (i + 1) < 192) = true := by simp; omega
  have d9 : decide (128 ≤ bt s (i + 2)) = false := by simp; omega
  go_enter Tryd.func65, Tryd.ntmps65
  go_wp2
  go_ret2
  exact ⟨rfl, rfl⟩

theorem dec_n11 (s : ByteArray) (i : Nat) (hi : i < s.size) (hz : s.size ≤ 1000000) (h0 : 224 ≤ bt s i) (h1 : bt s i < 240) (h2 : i + 2 < s.size) (h3 : 128 ≤ bt s (i + 1)) (h4 : bt s (i + 1) < 192) (h5 : 192 ≤ bt s (i + 2)) (w : World) :
    Calls Tryd.prog 65 #[.string s, .int .i64 i] w fun e w' => e = .returned (.tuple #[.int .i64 0, .int .i64 0]) ∧ w = w' := by
  have hb := get_bt s
  have na := bt_nonneg s i
  have nb := bt_nonneg s (i + 1)
  have nc := bt_nonneg s (i + 2)
  have la := bt_le s i
  have lb := bt_le s (i + 1)
  have lc := bt_le s (i + 2)
  have d1 : decide (32 ≤ bt s i) = true := by simp; omega
  have d2 : decide (bt s i < 127) = false := by simp; omega
  have d3 : decide (194 ≤ bt s i) = true := by simp; omega
  have d4 : decide (bt s i < 224) = false := by simp; omega
  have d5 : decide (224 ≤ bt s i) = true := by simp; omega
  have d6 : decide (bt s i < 240) = true := by simp; omega
  have e5 : ((i : Int) + 1 < (s.size : Int)) := by omega
  have e11 : ((i : Int) + 2 < (s.size : Int)) := by omega
  have d7 : decide (128 ≤ bt s (i + 1)) = true := by simp; omega
  have d8 : decide (bt s (i + 1) < 192) = true := by simp; omega
  have d9 : decide (128 ≤ bt s (i + 2)) = true := by simp; omega
  have d10 : decide (bt s (i + 2) < 192) = false := by simp; omega
  go_enter Tryd.func65, Tryd.ntmps65
  go_wp2
  go_ret2
  exact ⟨rfl, rfl⟩

theorem dec_n12 (s : ByteArray) (i : Nat) (hi : i < s.size) (hz : s.size ≤ 1000000) (h0 : 224 ≤ bt s i) (h1 : bt s i < 240) (h2 : i + 2 < s.size) (h3 : 128 ≤ bt s (i + 1)) (h4 : bt s (i + 1) < 192) (h5 : 128 ≤ bt s (i + 2)) (h6 : bt s (i + 2) < 192) (h7 : (bt s i - 224) * 4096 + (bt s (i + 1) - 128) * 64 + bt s (i + 2) - 128 < 2048) (w : World) :
    Calls Tryd.prog 65 #[.string s, .int .i64 i] w fun e w' => e = .returned (.tuple #[.int .i64 0, .int .i64 0]) ∧ Below w.heap.size w w' := by
  have hb := get_bt s
  have na := bt_nonneg s i
  have nb := bt_nonneg s (i + 1)
  have nc := bt_nonneg s (i + 2)
  have la := bt_le s i
  have lb := bt_le s (i + 1)
  have lc := bt_le s (i + 2)
  have d1 : decide (32 ≤ bt s i) = true := by simp; omega
  have d2 : decide (bt s i < 127) = false := by simp; omega
  have d3 : decide (194 ≤ bt s i) = true := by simp; omega
  have d4 : decide (bt s i < 224) = false := by simp; omega
  have d5 : decide (224 ≤ bt s i) = true := by simp; omega
  have d6 : decide (bt s i < 240) = true := by simp; omega
  have e5 : ((i : Int) + 1 < (s.size : Int)) := by omega
  have e11 : ((i : Int) + 2 < (s.size : Int)) := by omega
  have d7 : decide (128 ≤ bt s (i + 1)) = true := by simp; omega
  have d8 : decide (bt s (i + 1) < 192) = true := by simp; omega
  have d9 : decide (128 ≤ bt s (i + 2)) = true := by simp; omega
  have d10 : decide (bt s (i + 2) < 192) = true := by simp; omega
  have d11 : decide (2048 ≤ (bt s i - 224) * 4096 + (bt s (i + 1) - 128) * 64 + bt s (i + 2) - 128) = false := by simp; omega
  go_enter Tryd.func65, Tryd.ntmps65
  go_wp2
  go_region
  all_goals
    go_wp2
    go_ret2
    exact ⟨rfl, (Below.refl _ w).drew⟩

theorem dec_n13 (s : ByteArray) (i : Nat) (hi : i < s.size) (hz : s.size ≤ 1000000) (h0 : 224 ≤ bt s i) (h1 : bt s i < 240) (h2 : i + 2 < s.size) (h3 : 128 ≤ bt s (i + 1)) (h4 : bt s (i + 1) < 192) (h5 : 128 ≤ bt s (i + 2)) (h6 : bt s (i + 2) < 192) (h7 : 55296 ≤ (bt s i - 224) * 4096 + (bt s (i + 1) - 128) * 64 + bt s (i + 2) - 128) (h8 : (bt s i - 224) * 4096 + (bt s (i + 1) - 128) * 64 + bt s (i + 2) - 128 ≤ 57343) (w : World) :
    Calls Tryd.prog 65 #[.string s, .int .i64 i] w fun e w' => e = .returned (.tuple #[.int .i64 0, .int .i64 0]) ∧ Below w.heap.size w w' := by
  have hb := get_bt s
  have na := bt_nonneg s i
  have nb := bt_nonneg s (i + 1)
  have nc := bt_nonneg s (i + 2)
  have la := bt_le s i
  have lb := bt_le s (i + 1)
  have lc := bt_le s (i + 2)
  have d1 : decide (32 ≤ bt s i) = true := by simp; omega
  have d2 : decide (bt s i < 127) = false := by simp; omega
  have d3 : decide (194 ≤ bt s i) = true := by simp; omega
  have d4 : decide (bt s i < 224) = false := by simp; omega
  have d5 : decide (224 ≤ bt s i) = true := by simp; omega
  have d6 : decide (bt s i < 240) = true := by simp; omega
  have e5 : ((i : Int) + 1 < (s.size : Int)) := by omega
  have e11 : ((i : Int) + 2 < (s.size : Int)) := by omega
  have d7 : decide (128 ≤ bt s (i + 1)) = true := by simp; omega
  have d8 : decide (bt s (i + 1) < 192) = true := by simp; omega
  have d9 : decide (128 ≤ bt s (i + 2)) = true := by simp; omega
  have d10 : decide (bt s (i + 2) < 192) = true := by simp; omega
  have d11 : decide (2048 ≤ (bt s i - 224) * 4096 + (bt s (i + 1) - 128) * 64 + bt s (i + 2) - 128) = true := by simp; omega
  have d12 : decide ((bt s i - 224) * 4096 + (bt s (i + 1) - 128) * 64 + bt s (i + 2) - 128 < 55296) = false := by simp; omega
  have d13 : decide (57343 < (bt s i - 224) * 4096 + (bt s (i + 1) - 128) * 64 + bt s (i + 2) - 128) = false := by simp; omega
  go_enter Tryd.func65, Tryd.ntmps65
  go_wp2
  go_region
  all_goals
    go_wp2
    go_ret2
    exact ⟨rfl, (Below.refl _ w).drew⟩

theorem dec_n14 (s : ByteArray) (i : Nat) (hi : i < s.size) (h0 : 240 ≤ bt s i) (w : World) :
    Calls Tryd.prog 65 #[.string s, .int .i64 i] w fun e w' => e = .returned (.tuple #[.int .i64 0, .int .i64 0]) ∧ w = w' := by
  have hb := get_bt s
  have na := bt_nonneg s i
  have nb := bt_nonneg s (i + 1)
  have nc := bt_nonneg s (i + 2)
  have la := bt_le s i
  have lb := bt_le s (i + 1)
  have lc := bt_le s (i + 2)
  have d1 : decide (32 ≤ bt s i) = true := by simp; omega
  have d2 : decide (bt s i < 127) = false := by simp; omega
  have d3 : decide (194 ≤ bt s i) = true := by simp; omega
  have d4 : decide (bt s i < 224) = false := by simp; omega
  have d5 : decide (224 ≤ bt s i) = true := by simp; omega
  have d6 : decide (bt s i < 240) = false := by simp; omega
  go_enter Tryd.func65, Tryd.ntmps65
  go_wp2
  go_ret2
  exact ⟨rfl, rfl⟩
end

end Go.Proofs.YtceneblmllpdnaaDoor
