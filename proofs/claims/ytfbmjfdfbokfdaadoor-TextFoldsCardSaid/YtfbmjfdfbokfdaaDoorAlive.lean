/- The chapter's examples, as the statements' function alive asks them: it returns true, wherever the program's tables lie. -/
import Derived.Test.YtfbmjfdfbokfdaaDoorTextD
namespace Go.Proofs.YtfbmjfdfbokfdaaDoor
open Go.RowKit

theorem valid_is (s : ByteArray) (b : Bool) (hb : validT s.data.toList = b) (hz : s.size ≤ 9223372036854775807) (w : World) (hE : Env w) :
    Calls Tryd.prog 10 #[.string s] w fun e w' => e = .returned (.bool b) ∧ Below w.heap.size w w' := by
  have := valid_any s hz w hE
  rwa [hb] at this
theorem runes_is (s : ByteArray) (cs : List Nat) (h : OKs cs) (hs : s = T cs) (hz : s.size ≤ 9223372036854775807) (n : Nat) (hn : cs.length = n) (w : World) :
    Calls Tryd.prog 12 #[.string s] w fun e w' => e = .returned (.int .i64 n) ∧ Below w.heap.size w w' := by
  have := runes_any cs h s hs hz w
  rwa [hn] at this
theorem clip_is (s t : ByteArray) (cs : List Nat) (h : OKs cs) (hs : s = T cs) (n : Int) (hn0 : -9223372036854775808 ≤ n) (hn1 : n ≤ 9223372036854775807) (ht : T (cs.take n.toNat) = t) (w : World) :
    Calls Tryd.prog 14 #[.string s, .int .i64 n] w fun e w' => e = .returned (.string t) ∧ Below w.heap.size w w' := by
  have := clip_any cs h s hs n hn0 hn1 w
  rwa [ht] at this
theorem clean_is (s t : ByteArray) (cs : List Nat) (h : OKs cs) (hs : s = T cs) (hz : cs.length ≤ 1000000) (ht : T (cleanL cs) = t) (w : World) :
    Calls Tryd.prog 16 #[.string s] w fun e w' => e = .returned (.string t) ∧ Below w.heap.size w w' := by
  have := clean_any cs h s hs hz w
  rwa [ht] at this
theorem fold_is (s t : ByteArray) (cs : List Nat) (h : OKs cs) (hs : s = T cs) (hz : cs.length ≤ 1000000) (ht : T (foldL cs) = t) (w : World) (hE : Env w) :
    Calls Tryd.prog 20 #[.string s] w fun e w' => e = .returned (.string t) ∧ Below w.heap.size w w' := by
  have := fold_any cs h s hs hz w hE
  rwa [ht] at this

/-- A slice of strings, opened. -/
theorem Strs.open {B : Nat} {v : Value} {ws : List (List Nat)} {w : World} (h : Strs B v ws w) (hne : ws ≠ []) :
    ∃ g cap, v = .slice (some ⟨g, 0, none⟩) ws.length cap ∧ B ≤ g ∧ g < w.heap.size ∧ ws.length ≤ cap ∧ cap ≤ maxLen ∧ ∀ i (hi : i < ws.length), w.cell? ⟨g, i, none⟩ = some (.string (T ws[i])) := by
  rcases h.2 with ⟨_, h0⟩ | ⟨g, cap, cur, rfl, hb, hg, hc, hm, hs, ht⟩
  · exact absurd (List.eq_nil_of_length_eq_zero h0) hne
  · refine ⟨g, cap, rfl, hb, (Array.getElem?_eq_some_iff.1 hg).1, hc, hm, fun i hi => ?_⟩
    have := h.cells (g := g) rfl i (.string (T ws[i])) (by simp [strV, hi])
    have hadd : (⟨g, 0, none⟩ : Addr).add i = ⟨g, i, none⟩ := by unfold Addr.add; split <;> simp_all
    rwa [hadd] at this

theorem alive_words (w : World) (hE : Env w) :
    Calls Tryd.prog 23 #[.string ⟨#[76, 39, 195, 169, 116, 195, 169, 32, 49, 57, 57, 48, 33]⟩] w fun e w' => ∃ g cap, e = .returned (.slice (some ⟨g, 0, none⟩) 3 cap) ∧ 3 ≤ cap ∧ cap ≤ maxLen ∧
      w'.cell? ⟨g, 0, none⟩ = some (.string ⟨#[108]⟩) ∧ w'.cell? ⟨g, 1, none⟩ = some (.string ⟨#[101, 116, 101]⟩) ∧ w'.cell? ⟨g, 2, none⟩ = some (.string ⟨#[49, 57, 57, 48]⟩) ∧ Below w.heap.size w w' := by
  have := words_any [76, 39, 233, 116, 233, 32, 49, 57, 57, 48, 33] (by unfold OKs; decide) ⟨#[76, 39, 195, 169, 116, 195, 169, 32, 49, 57, 57, 48, 33]⟩ (by kernel_rfl) (by simp) w hE
  rw [show W [76, 39, 233, 116, 233, 32, 49, 57, 57, 48, 33] = [[108], [101, 116, 101], [49, 57, 57, 48]] by decide +kernel] at this
  refine this.mono ?_
  rintro e w' ⟨v, rfl, hS, hb⟩
  obtain ⟨g, cap, rfl, _, _, hc, hm, hcell⟩ := hS.open (by simp)
  refine ⟨g, cap, rfl, hc, hm, ?_, ?_, ?_, hb⟩
  · rw [hcell 0 (by simp)]; kernel_rfl
  · rw [hcell 1 (by simp)]; kernel_rfl
  · rw [hcell 2 (by simp)]; kernel_rfl

set_option maxHeartbeats 4000000 in
theorem alive_any (w : World) (hE : Env w) :
    Calls Tryd.prog 9 #[] w fun e w' => e = .returned (.bool true) ∧ Below w.heap.size w w' := by
  have h3 := hE.1
  have HE := Lib.hid hE
  clear hE
  go_enter Tryd.func9, Tryd.ntmps9
  go_wp2_with fail
  refine (valid_is _ false (by decide +kernel) (by decide) _ HE.out).mono ?_
  rintro e w1 ⟨rfl, b1⟩
  go_wp2_with fail
  refine (valid_is _ true (by decide +kernel) (by decide) _ (HE.out.after b1)).mono ?_
  rintro e w2 ⟨rfl, b2'⟩
  have b2 := b1.trans (b2'.mono b1.size)
  clear b2' b1
  go_wp2_with fail
  refine (runes_is _ [220, 110, 239] (by unfold OKs; decide) (by kernel_rfl) (by decide) 3 rfl _).mono ?_
  rintro e w3 ⟨rfl, b3'⟩
  have b3 := b2.trans (b3'.mono b2.size)
  clear b3' b2
  go_wp2_with fail
  refine (clip_is _ ⟨#[195, 156, 110]⟩ [220, 110, 239] (by unfold OKs; decide) (by kernel_rfl) 2 (by decide) (by decide) (by kernel_rfl) _).mono ?_
  rintro e w4 ⟨rfl, b4'⟩
  have b4 := b3.trans (b4'.mono b3.size)
  clear b4' b3
  go_wp2_with fail
  refine (clean_is _ ⟨#[97, 32, 98]⟩ [32, 32, 97, 32, 32, 98, 32] (by unfold OKs; decide) (by kernel_rfl) (by decide) (by kernel_rfl) _).mono ?_
  rintro e w5 ⟨rfl, b5'⟩
  have b5 := b4.trans (b5'.mono b4.size)
  clear b5' b4
  go_wp2_with fail
  refine (fold_is _ ⟨#[97, 101, 103, 105, 114, 32, 115, 116, 114, 97, 115, 115, 101]⟩ [198, 103, 105, 114, 32, 83, 116, 114, 97, 223, 101] (by unfold OKs; decide) (by kernel_rfl) (by decide) (by kernel_rfl) _ (HE.out.after b5)).mono ?_
  rintro e w6 ⟨rfl, b6'⟩
  have b6 := b5.trans (b6'.mono b5.size)
  clear b6' b5
  go_wp2_with fail
  refine (alive_words _ (HE.out.after b6)).mono ?_
  rintro e w7 ⟨g, cap, rfl, hc3, hcm, c0, c1, c2, b7'⟩
  have b7 := b6.trans (b7'.mono b6.size)
  clear b7' b6
  unfold maxLen at hcm
  go_wp2
  go_ret
  exact ⟨rfl, b7⟩
end Go.Proofs.YtfbmjfdfbokfdaaDoor
