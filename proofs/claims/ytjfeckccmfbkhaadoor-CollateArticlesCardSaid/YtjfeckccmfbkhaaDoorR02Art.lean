/- libraryref02.Known, articles and Article, at every language and every word. -/
import Derived.Test.YtjfeckccmfbkhaaDoorR02Rep
import Derived.Test.YtjfeckccmfbkhaaDoorStrs
namespace Go.Proofs.YtjfeckccmfbkhaaDoor
open Go.RowKit

def arts_eng : List ByteArray := [⟨#[116, 104, 101]⟩, ⟨#[97]⟩, ⟨#[97, 110]⟩]
def arts_ger : List ByteArray := [⟨#[100, 101, 114]⟩, ⟨#[100, 105, 101]⟩, ⟨#[100, 97, 115]⟩, ⟨#[101, 105, 110]⟩, ⟨#[101, 105, 110, 101]⟩]
def arts_swe : List ByteArray := [⟨#[101, 110]⟩, ⟨#[101, 116, 116]⟩, ⟨#[100, 101, 110]⟩, ⟨#[100, 101, 116]⟩, ⟨#[100, 101]⟩]
def arts_spa : List ByteArray := [⟨#[101, 108]⟩, ⟨#[108, 97]⟩, ⟨#[108, 111, 115]⟩, ⟨#[108, 97, 115]⟩, ⟨#[117, 110]⟩, ⟨#[117, 110, 97]⟩]
/-- The articles of a language. -/
def arts (lang : ByteArray) : List ByteArray := if lang = eng then arts_eng else if lang = ger then arts_ger else if lang = swe then arts_swe else if lang = spa then arts_spa else []
def isArt (lang word : ByteArray) : Bool := (arts lang).any fun a => a.toList == word.toList
/-- A slice of these strings. -/
def SB (v : Value) (l : List ByteArray) (w : World) : Prop :=
  (l = [] ∧ v = .slice none 0 0) ∨ ∃ g cap, v = .slice (some ⟨g, 0, none⟩) l.length cap ∧ l.length ≤ cap ∧ cap ≤ 100 ∧ g < w.heap.size ∧ ∀ i (hi : i < l.length), w.cell? ⟨g, i, none⟩ = some (.string l[i])
theorem lang_self (lang : ByteArray) (l : List UInt8) (h : lang = ⟨l.toArray⟩) : (lang.toList == l) = true := by
  rw [h, ByteArray.toList_eq]; simp


set_option maxHeartbeats 4000000 in
theorem arts_eng_any (w : World) : Calls Tryd.prog 51 #[.string eng] w fun e w' => ∃ v, e = .returned v ∧ SB v arts_eng w' ∧ Below w.heap.size w w' := by
  unfold eng
  go_enter Tryd.func51, Tryd.ntmps51
  go_wp2
  go_ret
  refine ⟨_, rfl, .inr ⟨w.heap.size, 3, rfl, by decide, by decide, by simp, fun i hi => ?_⟩, (Below.refl _ w).alloc (Nat.le_refl _) _⟩
  have hi' : i < 3 := hi
  match i, hi' with
  | 0, _ => simp [arts_eng]
  | 1, _ => simp [arts_eng]
  | 2, _ => simp [arts_eng]

set_option maxHeartbeats 4000000 in
theorem arts_ger_any (w : World) : Calls Tryd.prog 51 #[.string ger] w fun e w' => ∃ v, e = .returned v ∧ SB v arts_ger w' ∧ Below w.heap.size w w' := by
  unfold ger
  go_enter Tryd.func51, Tryd.ntmps51
  go_wp2
  go_ret
  refine ⟨_, rfl, .inr ⟨w.heap.size, 5, rfl, by decide, by decide, by simp, fun i hi => ?_⟩, (Below.refl _ w).alloc (Nat.le_refl _) _⟩
  have hi' : i < 5 := hi
  match i, hi' with
  | 0, _ => simp [arts_ger]
  | 1, _ => simp [arts_ger]
  | 2, _ => simp [arts_ger]
  | 3, _ => simp [arts_ger]
  | 4, _ => simp [arts_ger]

set_option maxHeartbeats 4000000 in
theorem arts_swe_any (w : World) : Calls Tryd.prog 51 #[.string swe] w fun e w' => ∃ v, e = .returned v ∧ SB v arts_swe w' ∧ Below w.heap.size w w' := by
  unfold swe
  go_enter Tryd.func51, Tryd.ntmps51
  go_wp2
  go_ret
  refine ⟨_, rfl, .inr ⟨w.heap.size, 5, rfl, by decide, by decide, by simp, fun i hi => ?_⟩, (Below.refl _ w).alloc (Nat.le_refl _) _⟩
  have hi' : i < 5 := hi
  match i, hi' with
  | 0, _ => simp [arts_swe]
  | 1, _ => simp [arts_swe]
  | 2, _ => simp [arts_swe]
  | 3, _ => simp [arts_swe]
  | 4, _ => simp [arts_swe]

set_option maxHeartbeats 4000000 in
theorem arts_spa_any (w : World) : Calls Tryd.prog 51 #[.string spa] w fun e w' => ∃ v, e = .returned v ∧ SB v arts_spa w' ∧ Below w.heap.size w w' := by
  unfold spa
  go_enter Tryd.func51, Tryd.ntmps51
  go_wp2
  go_ret
  refine ⟨_, rfl, .inr ⟨w.heap.size, 6, rfl, by decide, by decide, by simp, fun i hi => ?_⟩, (Below.refl _ w).alloc (Nat.le_refl _) _⟩
  have hi' : i < 6 := hi
  match i, hi' with
  | 0, _ => simp [arts_spa]
  | 1, _ => simp [arts_spa]
  | 2, _ => simp [arts_spa]
  | 3, _ => simp [arts_spa]
  | 4, _ => simp [arts_spa]
  | 5, _ => simp [arts_spa]

set_option maxHeartbeats 4000000 in
theorem arts_none_any (lang : ByteArray) (h0 : ¬ lang = eng) (h1 : ¬ lang = ger) (h2 : ¬ lang = swe) (h3 : ¬ lang = spa) (w : World) : Calls Tryd.prog 51 #[.string lang] w fun e w' => ∃ v, e = .returned v ∧ SB v [] w' ∧ Below w.heap.size w w' := by
  have e0 := lang_ne lang [101, 110, 103] h0
  have e1 := lang_ne lang [103, 101, 114] h1
  have e2 := lang_ne lang [115, 119, 101] h2
  have e3 := lang_ne lang [115, 112, 97] h3
  clear h0 h1 h2 h3
  go_enter Tryd.func51, Tryd.ntmps51
  go_wp2
  go_ret
  exact ⟨_, rfl, .inl ⟨rfl, rfl⟩, Below.refl _ _⟩
theorem articles_any (lang : ByteArray) (w : World) : Calls Tryd.prog 51 #[.string lang] w fun e w' => ∃ v, e = .returned v ∧ SB v (arts lang) w' ∧ Below w.heap.size w w' := by
  unfold arts
  by_cases h0 : lang = eng
  · rw [if_pos h0]; subst h0; exact arts_eng_any w
  rw [if_neg h0]
  by_cases h1 : lang = ger
  · rw [if_pos h1]; subst h1; exact arts_ger_any w
  rw [if_neg h1]
  by_cases h2 : lang = swe
  · rw [if_pos h2]; subst h2; exact arts_swe_any w
  rw [if_neg h2]
  by_cases h3 : lang = spa
  · rw [if_pos h3]; subst h3; exact arts_spa_any w
  rw [if_neg h3]
  exact arts_none_any lang h0 h1 h2 h3 w

theorem arts_len (lang : ByteArray) : (arts lang).length ≤ 6 := by
  unfold arts
  repeat' split
  all_goals decide

set_option maxHeartbeats 4000000 in
theorem article_any (lang word : ByteArray) (b : Bool) (hb : isArt lang word = b) (w : World) :
    Calls Tryd.prog 32 #[.string lang, .string word] w fun e w' => e = .returned (.bool b) ∧ Below w.heap.size w w' := by
  have cA := Lib.hid (fun W => articles_any lang W)
  have hl := arts_len lang
  have HB := Lib.hid hb
  clear hb
  have HB2 : RowKit.Hid (((arts lang).any fun a => a.toList == word.toList) = b) := HB.out
  clear HB
  generalize arts lang = l at cA hl HB2
  go_enter Tryd.func32, Tryd.ntmps32
  go_wp2_with fail
  refine (cA.out _).mono ?_
  rintro e w1 ⟨v, rfl, hS, b1⟩
  rcases hS with ⟨rfl, rfl⟩ | ⟨g, cap, rfl, hc1, hc2, hg, hcell⟩
  · obtain rfl : b = false := HB2.out.symm
    go_wp2
    go_loop [6] (fun i => i = .int .i64 0) (fun _ => 0)
    case atStart => rfl
    case round =>
      obtain rfl := hrel
      go_wp2
      go_ret
      exact ⟨rfl, b1⟩
  · have HCell := Lib.hid hcell
    clear hcell
    obtain ⟨N, hN⟩ : ∃ N, l.length = N := ⟨_, rfl⟩
    rw [hN] at hc1 hl ⊢
    have HN := Lib.hid hN
    clear hN
    go_wp2
    go_loop [6] (fun i => ∃ k : Nat, k ≤ N ∧ i = .int .i64 k ∧ ((l.take k).any fun a => a.toList == word.toList) = false) (fun i => N - (intOf i).toNat)
    case atStart => exact ⟨0, Nat.zero_le _, rfl, by simp⟩
    case round =>
      obtain ⟨k, hk, rfl, hno⟩ := hrel
      have HNo := Lib.hid hno
      clear hno
      by_cases hlt : k < N
      · have hkw : k < l.length := by have := HN.out; omega
        have c1 : w1.cell? ⟨g, k, none⟩ = some (.string l[k]) := HCell.out k hkw
        have i1 : (0 : Int) ≤ (k : Int) := by omega
        have i2 : (k : Int) < (N : Int) := by omega
        have HT := Lib.hid (List.take_succ_eq_append_getElem hkw)
        have HM := Lib.hid (List.getElem_mem hkw)
        generalize l[k] = a at c1 HT HM
        clear hkw
        cases he : (a.toList == word.toList)
        · have HE := Lib.hid he
          go_wp2
          go_round
          case rel =>
            refine ⟨k + 1, by omega, by go_num, ?_⟩
            rw [HT.out, List.any_append, HNo.out]
            simp only [List.any_cons, List.any_nil, Bool.or_false, Bool.false_or]
            exact HE.out
          case measure => simp [intOf]; omega
        · have HE := Lib.hid he
          obtain rfl : b = true := by
            rw [← HB2.out, List.any_eq_true]
            exact ⟨a, HM.out, HE.out⟩
          go_wp2
          go_ret
          exact ⟨rfl, b1⟩
      · obtain rfl : k = N := by omega
        obtain rfl : b = false := by
          have := HNo.out
          rw [← HN.out, List.take_length] at this
          rw [← HB2.out, this]
        go_wp2
        go_ret
        exact ⟨rfl, b1⟩

def knownL (lang : ByteArray) : Bool := decide (lang = eng) || decide (lang = ger) || decide (lang = swe) || decide (lang = spa)
set_option maxHeartbeats 4000000 in
theorem refKnown_any (lang : ByteArray) (b : Bool) (hb : knownL lang = b) (w : World) :
    Calls Tryd.prog 14 #[.string lang] w fun e w' => e = .returned (.bool b) ∧ w = w' := by
  by_cases h0 : lang = eng
  · obtain rfl : b = true := by rw [← hb]; simp [knownL, h0]
    subst h0
    clear hb
    unfold eng
    go_enter Tryd.func14, Tryd.ntmps14
    go_wp2
    go_ret
    exact ⟨rfl, rfl⟩
  by_cases h1 : lang = ger
  · obtain rfl : b = true := by rw [← hb]; simp [knownL, h1]
    subst h1
    clear hb
    unfold ger
    go_enter Tryd.func14, Tryd.ntmps14
    go_wp2
    go_ret
    exact ⟨rfl, rfl⟩
  by_cases h2 : lang = swe
  · obtain rfl : b = true := by rw [← hb]; simp [knownL, h2]
    subst h2
    clear hb
    unfold swe
    go_enter Tryd.func14, Tryd.ntmps14
    go_wp2
    go_ret
    exact ⟨rfl, rfl⟩
  by_cases h3 : lang = spa
  · obtain rfl : b = true := by rw [← hb]; simp [knownL, h3]
    subst h3
    clear hb
    unfold spa
    go_enter Tryd.func14, Tryd.ntmps14
    go_wp2
    go_ret
    exact ⟨rfl, rfl⟩
  · obtain rfl : b = false := by rw [← hb]; simp [knownL, h0, h1, h2, h3]
    have e0 := lang_ne lang [101, 110, 103] h0
    have e1 := lang_ne lang [103, 101, 114] h1
    have e2 := lang_ne lang [115, 119, 101] h2
    have e3 := lang_ne lang [115, 112, 97] h3
    clear h0 h1 h2 h3 hb
    go_enter Tryd.func14, Tryd.ntmps14
    go_wp2
    go_ret
    exact ⟨rfl, rfl⟩
end Go.Proofs.YtjfeckccmfbkhaaDoor
