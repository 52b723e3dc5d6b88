/- The statement CollateSeparates of layer 2 over this translation: it returns true, wherever the program's table lies. -/
import Derived.Test.YtjfeckccmfbkhaaDoorLaw02
import Derived.Laws.Concat
namespace Go.Proofs.YtjfeckccmfbkhaaDoor
open Go.RowKit

theorem around_T (ca : List Nat) : (⟨#[32, 34, 40]⟩ : ByteArray) ++ T ca ++ ⟨#[33, 41, 32]⟩ = T ([32, 34, 40] ++ ca ++ [33, 41, 32]) := by
  rw [← T_append, ← T_append]
  rfl
theorem blank_T (ca cb : List Nat) : T ca ++ ⟨#[32]⟩ ++ T cb = T (ca ++ [32] ++ cb) := by
  rw [← T_append, ← T_append]
  rfl
theorem blanks_T (ca cb : List Nat) : T ca ++ ⟨#[32, 32]⟩ ++ T cb = T (ca ++ [32, 32] ++ cb) := by
  rw [← T_append, ← T_append]
  rfl

set_option maxHeartbeats 8000000 in
theorem separates_any (lang a b : ByteArray) (w : World) (hE : Acc w) :
    Calls Tryd.prog 9 #[.string lang, .string a, .string b] w fun e w' => e = .returned (.bool true) ∧ Below w.heap.size w w' := by
  have HE := Lib.hid hE
  have CA := Lib.hid (fun W hE => alive_any W hE)
  clear hE
  cases hb : (smallS a && smallS b)
  · have cS := Lib.hid (small_any _ [a, b] _ (SL_two w a b) false (by rw [small_two]; exact hb))
    clear hb
    go_enter Tryd.func9, Tryd.ntmps9
    go_wp2_with fail
    refine cS.out.mono ?_
    rintro e w1 ⟨rfl, b1'⟩
    have b1 := below_new _ b1'
    clear b1'
    go_wp2_with fail
    refine (CA.out _ (HE.out.after b1)).mono ?_
    rintro e w2 ⟨rfl, b2'⟩
    have b2 := b1.trans (b2'.mono b1.size)
    clear b2' b1
    go_wp2
    go_ret
    exact ⟨rfl, b2⟩
  · have cS := Lib.hid (small_any _ [a, b] _ (SL_two w a b) true (by rw [small_two]; exact hb))
    rw [Bool.and_eq_true] at hb
    obtain ⟨ca, hca, rfl, hla, hsa⟩ := smallS_text hb.1
    obtain ⟨cb, hcb, rfl, hlb, hsb⟩ := smallS_text hb.2
    have o1 : OKs ([32, 34, 40] ++ ca ++ [33, 41, 32]) := OKs_append.2 ⟨OKs_append.2 ⟨by unfold OKs; decide, hca⟩, by unfold OKs; decide⟩
    have o2 : OKs (ca ++ [32] ++ cb) := OKs_append.2 ⟨OKs_append.2 ⟨hca, by unfold OKs; decide⟩, hcb⟩
    have o3 : OKs (ca ++ [32, 32] ++ cb) := OKs_append.2 ⟨OKs_append.2 ⟨hca, by unfold OKs; decide⟩, hcb⟩
    have hkl := keyL_len lang ca
    have c1 := Lib.hid (fun W hE => ckey_any lang ca hca _ (T (keyL lang ca)) rfl (by omega) rfl W hE)
    have c2 := Lib.hid (fun W hE => ckey_any lang _ o1 _ (T (keyL lang ca)) (around_T ca) (by simp; omega) (by rw [key_around lang _ _ _ (by decide) (by decide)]) W hE)
    have c3 := Lib.hid (fun W hE => ckey_any lang (keyL lang ca) (keyL_OK lang ca hca) (T (keyL lang ca)) (T (keyL lang (keyL lang ca))) rfl (by omega) rfl W hE)
    have c4 := Lib.hid (fun W hE => ckey_any lang _ o2 _ (T (keyL lang (ca ++ [32] ++ cb))) (blank_T ca cb) (by simp; omega) rfl W hE)
    have c5 := Lib.hid (fun W hE => ckey_any lang _ o3 _ (T (keyL lang (ca ++ [32] ++ cb))) (blanks_T ca cb) (by simp; omega) (by rw [key_blanks]) W hE)
    have hx : lang = eng → T (keyL lang (keyL lang ca)) = T (keyL lang ca) := by rintro rfl; rw [key_key]
    clear hb hca hcb hla hlb o1 o2 o3 hkl
    generalize T (keyL lang (ca ++ [32] ++ cb)) = u at c4 c5
    generalize T (keyL lang (keyL lang ca)) = t3 at c3 hx
    generalize T (keyL lang ca) = t at c1 c2 c3 hx
    generalize T ca = a at cS c1 c2 c4 c5 hsa ⊢
    generalize T cb = b at cS c4 c5 hsb ⊢
    by_cases hl : lang = eng
    · obtain rfl := hx hl
      subst hl
      unfold eng at *
      clear hx
      go_enter Tryd.func9, Tryd.ntmps9
      go_wp2_with fail
      refine cS.out.mono ?_
      rintro e w1 ⟨rfl, b1'⟩
      have b1 := below_new _ b1'
      clear b1'
      go_wp2_with fail
      refine (c1.out _ (HE.out.after b1)).mono ?_
      rintro e w2 ⟨rfl, b2'⟩
      have b2 := b1.trans (b2'.mono b1.size)
      clear b2' b1
      go_wp2_with fail
      refine (c2.out _ (HE.out.after b2)).mono ?_
      rintro e w3 ⟨rfl, b3'⟩
      have b3 := b2.trans (b3'.mono b2.size)
      clear b3' b2
      go_wp2_with fail
      refine (c3.out _ (HE.out.after b3)).mono ?_
      rintro e w4 ⟨rfl, b4'⟩
      have b4 := b3.trans (b4'.mono b3.size)
      clear b4' b3
      go_wp2_with fail
      refine (c4.out _ (HE.out.after b4)).mono ?_
      rintro e w5 ⟨rfl, b5'⟩
      have b5 := b4.trans (b5'.mono b4.size)
      clear b5' b4
      go_wp2_with fail
      refine (c5.out _ (HE.out.after b5)).mono ?_
      rintro e w6 ⟨rfl, b6'⟩
      have b6 := b5.trans (b6'.mono b5.size)
      clear b6' b5
      go_wp2_with fail
      refine (CA.out _ (HE.out.after b6)).mono ?_
      rintro e w7 ⟨rfl, b7'⟩
      have b7 := b6.trans (b7'.mono b6.size)
      clear b7' b6
      go_wp2
      go_ret
      exact ⟨rfl, b7⟩
    · have hne := lang_ne lang [101, 110, 103] hl
      clear hx hl
      cases he : (t3.toList == t.toList)
      all_goals
        go_enter Tryd.func9, Tryd.ntmps9
        go_wp2_with fail
        refine cS.out.mono ?_
        rintro e w1 ⟨rfl, b1'⟩
        have b1 := below_new _ b1'
        clear b1'
        go_wp2_with fail
        refine (c1.out _ (HE.out.after b1)).mono ?_
        rintro e w2 ⟨rfl, b2'⟩
        have b2 := b1.trans (b2'.mono b1.size)
        clear b2' b1
        go_wp2_with fail
        refine (c2.out _ (HE.out.after b2)).mono ?_
        rintro e w3 ⟨rfl, b3'⟩
        have b3 := b2.trans (b3'.mono b2.size)
        clear b3' b2
        go_wp2_with fail
        refine (c3.out _ (HE.out.after b3)).mono ?_
        rintro e w4 ⟨rfl, b4'⟩
        have b4 := b3.trans (b4'.mono b3.size)
        clear b4' b3
        go_wp2_with fail
        refine (c4.out _ (HE.out.after b4)).mono ?_
        rintro e w5 ⟨rfl, b5'⟩
        have b5 := b4.trans (b5'.mono b4.size)
        clear b5' b4
        go_wp2_with fail
        refine (c5.out _ (HE.out.after b5)).mono ?_
        rintro e w6 ⟨rfl, b6'⟩
        have b6 := b5.trans (b6'.mono b5.size)
        clear b6' b5
        go_wp2_with fail
        refine (CA.out _ (HE.out.after b6)).mono ?_
        rintro e w7 ⟨rfl, b7'⟩
        have b7 := b6.trans (b7'.mono b6.size)
        clear b7' b6
        go_wp2
        go_ret
        exact ⟨rfl, b7⟩
end Go.Proofs.YtjfeckccmfbkhaaDoor
