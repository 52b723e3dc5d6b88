/- The program's articles and Known, at every language. -/
import Derived.Test.YtjfeckccmfbkhaaDoorR02Art
namespace Go.Proofs.YtjfeckccmfbkhaaDoor
open Go.RowKit

set_option maxHeartbeats 4000000 in
theorem carts_eng_any (w : World) : Calls Tryd.prog 30 #[.string eng] w fun e w' => ∃ v, e = .returned v ∧ SB v arts_eng w' ∧ Below w.heap.size w w' := by
  unfold eng
  go_enter Tryd.func30, Tryd.ntmps30
  go_wp2
  go_ret
  refine ⟨_, rfl, .inr ⟨w.heap.size, 3, rfl, by decide, by decide, by simp, fun i hi => ?_⟩, (Below.refl _ w).alloc (Nat.le_refl _) _⟩
  have hi' : i < 3 := hi
  match i, hi' with
  | 0, _ => simp [arts_eng]
  | 1, _ => simp [arts_eng]
  | 2, _ => simp [arts_eng]

set_option maxHeartbeats 4000000 in
theorem carts_ger_any (w : World) : Calls Tryd.prog 30 #[.string ger] w fun e w' => ∃ v, e = .returned v ∧ SB v arts_ger w' ∧ Below w.heap.size w w' := by
  unfold ger
  go_enter Tryd.func30, Tryd.ntmps30
  go_wp2
  go_ret
  refine ⟨_, rfl, .inr ⟨w.heap.size, 5, rfl, by decide, by decide, by simp, fun i hi => ?_⟩, (Below.refl _ w).alloc (Nat.le_refl _) _⟩
  have hi' : i < 5 := hi
  match i, hi' with
  | 0, _ => simp [arts_ger]
  | 1, _ => simp [arts_ger]
  | 2, _ => simp [arts_ger]
  | 3, _ => simp [arts_ger]
  | 4, _ => simp [arts_ger]

set_option maxHeartbeats 4000000 in
theorem carts_swe_any (w : World) : Calls Tryd.prog 30 #[.string swe] w fun e w' => ∃ v, e = .returned v ∧ SB v arts_swe w' ∧ Below w.heap.size w w' := by
  unfold swe
  go_enter Tryd.func30, Tryd.ntmps30
  go_wp2
  go_ret
  refine ⟨_, rfl, .inr ⟨w.heap.size, 5, rfl, by decide, by decide, by simp, fun i hi => ?_⟩, (Below.refl _ w).alloc (Nat.le_refl _) _⟩
  have hi' : i < 5 := hi
  match i, hi' with
  | 0, _ => simp [arts_swe]
  | 1, _ => simp [arts_swe]
  | 2, _ => simp [arts_swe]
  | 3, _ => simp [arts_swe]
  | 4, _ => simp [arts_swe]

set_option maxHeartbeats 4000000 in
theorem carts_spa_any (w : World) : Calls Tryd.prog 30 #[.string spa] w fun e w' => ∃ v, e = .returned v ∧ SB v arts_spa w' ∧ Below w.heap.size w w' := by
  unfold spa
  go_enter Tryd.func30, Tryd.ntmps30
  go_wp2
  go_ret
  refine ⟨_, rfl, .inr ⟨w.heap.size, 6, rfl, by decide, by decide, by simp, fun i hi => ?_⟩, (Below.refl _ w).alloc (Nat.le_refl _) _⟩
  have hi' : i < 6 := hi
  match i, hi' with
  | 0, _ => simp [arts_spa]
  | 1, _ => simp [arts_spa]
  | 2, _ => simp [arts_spa]
  | 3, _ => simp [arts_spa]
  | 4, _ => simp [arts_spa]
  | 5, _ => simp [arts_spa]

set_option maxHeartbeats 4000000 in
theorem carts_none_any (lang : ByteArray) (h0 : ¬ lang = eng) (h1 : ¬ lang = ger) (h2 : ¬ lang = swe) (h3 : ¬ lang = spa) (w : World) : Calls Tryd.prog 30 #[.string lang] w fun e w' => ∃ v, e = .returned v ∧ SB v [] w' ∧ Below w.heap.size w w' := by
  have e0 := lang_ne lang [101, 110, 103] h0
  have e1 := lang_ne lang [103, 101, 114] h1
  have e2 := lang_ne lang [115, 119, 101] h2
  have e3 := lang_ne lang [115, 112, 97] h3
  clear h0 h1 h2 h3
  go_enter Tryd.func30, Tryd.ntmps30
  go_wp2
  go_ret
  exact ⟨_, rfl, .inl ⟨rfl, rfl⟩, Below.refl _ _⟩
theorem carticles_any (lang : ByteArray) (w : World) : Calls Tryd.prog 30 #[.string lang] w fun e w' => ∃ v, e = .returned v ∧ SB v (arts lang) w' ∧ Below w.heap.size w w' := by
  unfold arts
  by_cases h0 : lang = eng
  · rw [if_pos h0]; subst h0; exact carts_eng_any w
  rw [if_neg h0]
  by_cases h1 : lang = ger
  · rw [if_pos h1]; subst h1; exact carts_ger_any w
  rw [if_neg h1]
  by_cases h2 : lang = swe
  · rw [if_pos h2]; subst h2; exact carts_swe_any w
  rw [if_neg h2]
  by_cases h3 : lang = spa
  · rw [if_pos h3]; subst h3; exact carts_spa_any w
  rw [if_neg h3]
  exact carts_none_any lang h0 h1 h2 h3 w

set_option maxHeartbeats 4000000 in
theorem known_any (lang : ByteArray) (b : Bool) (hb : knownL lang = b) (w : World) :
    Calls Tryd.prog 13 #[.string lang] w fun e w' => e = .returned (.bool b) ∧ w = w' := by
  by_cases h0 : lang = eng
  · obtain rfl : b = true := by rw [← hb]; simp [knownL, h0]
    subst h0
    clear hb
    unfold eng
    go_enter Tryd.func13, Tryd.ntmps13
    go_wp2
    go_ret
    exact ⟨rfl, rfl⟩
  by_cases h1 : lang = ger
  · obtain rfl : b = true := by rw [← hb]; simp [knownL, h1]
    subst h1
    clear hb
    unfold ger
    go_enter Tryd.func13, Tryd.ntmps13
    go_wp2
    go_ret
    exact ⟨rfl, rfl⟩
  by_cases h2 : lang = swe
  · obtain rfl : b = true := by rw [← hb]; simp [knownL, h2]
    subst h2
    clear hb
    unfold swe
    go_enter Tryd.func13, Tryd.ntmps13
    go_wp2
    go_ret
    exact ⟨rfl, rfl⟩
  by_cases h3 : lang = spa
  · obtain rfl : b = true := by rw [← hb]; simp [knownL, h3]
    subst h3
    clear hb
    unfold spa
    go_enter Tryd.func13, Tryd.ntmps13
    go_wp2
    go_ret
    exact ⟨rfl, rfl⟩
  · obtain rfl : b = false := by rw [← hb]; simp [knownL, h0, h1, h2, h3]
    have e0 := lang_ne lang [101, 110, 103] h0
    have e1 := lang_ne lang [103, 101, 114] h1
    have e2 := lang_ne lang [115, 119, 101] h2
    have e3 := lang_ne lang [115, 112, 97] h3
    clear h0 h1 h2 h3 hb
    go_enter Tryd.func13, Tryd.ntmps13
    go_wp2
    go_ret
    exact ⟨rfl, rfl⟩
end Go.Proofs.YtjfeckccmfbkhaaDoor
