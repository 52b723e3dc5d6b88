/- The program's Skip over texts of at most ten thousand characters. -/
import Derived.Test.YtjfeckccmfbkhaaDoorCSkip
namespace Go.Proofs.YtjfeckccmfbkhaaDoor
open Go.RowKit

theorem SB_after {v : Value} {l : List ByteArray} {w w' : World} (h : SB v l w) (hb : Below w.heap.size w w') : SB v l w' := by
  rcases h with h | ⟨g, cap, rfl, h1, h2, hg, hc⟩
  · exact .inl h
  · exact .inr ⟨g, cap, rfl, h1, h2, Nat.lt_of_lt_of_le hg hb.size, fun i hi => (hb.cell (p := ⟨g, i, none⟩) hg).trans (hc i hi)⟩

set_option maxHeartbeats 8000000 in
theorem cskip_any (lang : ByteArray) (cs : List Nat) (h : OKs cs) (s t : ByteArray) (hs : s = T cs) (hz : cs.length ≤ 10000) (ht : T (skipL lang cs) = t) (w : World) (hE : Acc w) :
    Calls Tryd.prog 15 #[.string lang, .string s] w fun e w' => e = .returned (.string t) ∧ Below w.heap.size w w' := by
  subst hs
  have hwe := wordEnd_le cs
  obtain ⟨hb1, hb2, _, _⟩ := blanksEnd_facts cs
  have hsk : skipL lang cs = if isArt lang (T (foldL (cs.take (wordEnd cs)))) = true ∧ blanksEnd cs ≠ cs.length then cs.drop (blanksEnd cs) else cs := rfl
  have HE := Lib.hid hE
  clear hE
  by_cases hk : wordEnd cs = cs.length
  · rw [hsk, if_neg (fun h => h.2 (by omega))] at ht
    subst ht
    have cC := Lib.hid (fun W => cut_any cs h hz W (T cs) ⟨#[]⟩ false (.inr ⟨hk, rfl, rfl, rfl⟩))
    have cT : ∀ W, Calls Tryd.prog 28 #[.string ⟨#[]⟩, .string ⟨#[32]⟩] W fun e w' => e = .returned (.string ⟨#[]⟩) ∧ w' = W := fun W => Tryd.strings_TrimLeft_one ⟨#[]⟩ 32 (by decide) W
    have CT := Lib.hid cT
    clear cT h hz hk hb1 hb2 hwe hsk
    go_enter Tryd.func15, Tryd.ntmps15
    go_wp2_with fail
    refine (cC.out _).mono ?_
    rintro e w1 ⟨rfl, b1⟩
    go_wp2_with fail
    refine (CT.out _).mono ?_
    rintro e w2 ⟨rfl, rfl⟩
    go_wp2
    go_ret
    exact ⟨rfl, b1⟩
  have hk2 : wordEnd cs < cs.length := by omega
  have cC := Lib.hid (fun W => cut_any cs h hz W (T (cs.take (wordEnd cs))) (T (cs.drop (wordEnd cs + 1))) true (.inl ⟨hk2, rfl, rfl, rfl⟩))
  have cT : ∀ W, Calls Tryd.prog 28 #[.string (T (cs.drop (wordEnd cs + 1))), .string ⟨#[32]⟩] W fun e w' => e = .returned (.string (T (cs.drop (blanksEnd cs)))) ∧ w' = W := fun W => by
    have := Tryd.strings_TrimLeft_one (T (cs.drop (wordEnd cs + 1))) 32 (by decide) W
    rwa [left_T cs h hk2] at this
  have CT := Lib.hid cT
  clear cT
  by_cases hm : blanksEnd cs = cs.length
  · rw [hsk, if_neg (fun h => h.2 hm)] at ht
    subst ht
    rw [hm, List.drop_length, show T [] = ⟨#[]⟩ from rfl] at CT
    clear h hz hk hk2 hb1 hb2 hwe hsk hm
    generalize T (cs.take (wordEnd cs)) = wd at cC
    generalize T (cs.drop (wordEnd cs + 1)) = rest at cC CT
    generalize T cs = s at cC
    go_enter Tryd.func15, Tryd.ntmps15
    go_wp2_with fail
    refine (cC.out _).mono ?_
    rintro e w1 ⟨rfl, b1⟩
    go_wp2_with fail
    refine (CT.out _).mono ?_
    rintro e w2 ⟨rfl, rfl⟩
    go_wp2
    go_ret
    exact ⟨rfl, b1⟩
  have hne : cs.drop (blanksEnd cs) ≠ [] := by
    intro h0
    have := congrArg List.length h0
    rw [List.length_drop] at this
    simp at this
    omega
  obtain ⟨f1, f2⟩ := T_facts _ hne
  have cF := Lib.hid (fun W hE => fold_any (cs.take (wordEnd cs)) (OKs_take h _) _ rfl (by rw [List.length_take]; omega) W hE)
  have cA := Lib.hid (fun W => carticles_any lang W)
  obtain ⟨b, hb⟩ : ∃ b, isArt lang (T (foldL (cs.take (wordEnd cs)))) = b := ⟨_, rfl⟩
  have cB : ∀ v W, SB v (arts lang) W → Calls Tryd.prog 29 #[v, .string (T (foldL (cs.take (wordEnd cs))))] W fun e w' => e = .returned (.bool b) ∧ w' = W := fun v W hS => by
    have := contains_any v (arts lang) (T (foldL (cs.take (wordEnd cs)))) W hS
    rw [← hb]
    exact this
  have CB := Lib.hid cB
  rw [hsk, hb] at ht
  clear h hz hk hk2 hb1 hb2 hwe hsk hne cB hb
  generalize T (foldL (cs.take (wordEnd cs))) = fd at cF CB
  generalize T (cs.take (wordEnd cs)) = wd at cC cF
  generalize T (cs.drop (wordEnd cs + 1)) = rest at cC CT
  generalize arts lang = al at cA CB
  cases b
  · rw [if_neg (fun h => by cases h.1)] at ht
    subst ht
    generalize T (cs.drop (blanksEnd cs)) = left at CT f1 f2
    generalize T cs = s at cC
    clear hm
    go_enter Tryd.func15, Tryd.ntmps15
    go_wp2_with fail
    refine (cC.out _).mono ?_
    rintro e w1 ⟨rfl, b1⟩
    go_wp2_with fail
    refine (CT.out _).mono ?_
    rintro e w2 ⟨rfl, rfl⟩
    go_wp2_with fail
    refine (cA.out _).mono ?_
    rintro e w3 ⟨v, rfl, hS, b3'⟩
    have b3 := b1.trans (b3'.mono b1.size)
    clear b3' b1
    go_wp2_with fail
    refine (cF.out _ (HE.out.after b3)).mono ?_
    rintro e w4 ⟨rfl, b4'⟩
    have hS2 := SB_after hS b4'
    have b4 := b3.trans (b4'.mono b3.size)
    clear b4' b3 hS
    go_wp2_with fail
    refine (CB.out _ _ hS2).mono ?_
    rintro e w5 ⟨rfl, rfl⟩
    go_wp2
    go_ret
    exact ⟨rfl, b4⟩
  · rw [if_pos ⟨rfl, hm⟩] at ht
    subst ht
    generalize T (cs.drop (blanksEnd cs)) = left at CT f1 f2
    generalize T cs = s at cC
    clear hm
    go_enter Tryd.func15, Tryd.ntmps15
    go_wp2_with fail
    refine (cC.out _).mono ?_
    rintro e w1 ⟨rfl, b1⟩
    go_wp2_with fail
    refine (CT.out _).mono ?_
    rintro e w2 ⟨rfl, rfl⟩
    go_wp2_with fail
    refine (cA.out _).mono ?_
    rintro e w3 ⟨v, rfl, hS, b3'⟩
    have b3 := b1.trans (b3'.mono b1.size)
    clear b3' b1
    go_wp2_with fail
    refine (cF.out _ (HE.out.after b3)).mono ?_
    rintro e w4 ⟨rfl, b4'⟩
    have hS2 := SB_after hS b4'
    have b4 := b3.trans (b4'.mono b3.size)
    clear b4' b3 hS
    go_wp2_with fail
    refine (CB.out _ _ hS2).mono ?_
    rintro e w5 ⟨rfl, rfl⟩
    go_wp2
    go_ret
    exact ⟨rfl, b4⟩
end Go.Proofs.YtjfeckccmfbkhaaDoor
