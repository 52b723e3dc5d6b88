/- The statement BarcodeBooks of layer 5 over this translation: it returns true. -/
import Derived.Test.YtnbjgkhngolhfaaDoorLaw05B
namespace Go.Proofs.YtnbjgkhngolhfaaDoor
open Go.RowKit Go.PlainAid

set_option maxHeartbeats 16000000 in
set_option maxRecDepth 100000 in
theorem lawBooks_any (s : ByteArray) (at_ : Int) (w : World) (hs : s.size ≤ 9223372036854775807) (ha0 : 0 ≤ at_) (ha1 : at_ ≤ 255) (hT : Tab w) :
    Calls Tryd.prog 10 #[.string s, .int .u8 at_] w fun e w' => e = .returned (.bool true) ∧ Below w.heap.size w w' := by
  obtain ⟨l, rfl⟩ : ∃ l, S l = s := ⟨s.data.toList, rfl⟩
  obtain ⟨aa, rfl⟩ : ∃ aa : Nat, at_ = (aa : Int) := ⟨at_.toNat, by omega⟩
  have c0 := Lib.hid (fun W (hW : Below w.heap.size w W) => alive_any W (hT.on hW))
  have b0 := Below.refl w.heap.size w
  have hsz := S_size l
  by_cases h1000 : 1000 < l.length
  · have d1 : decide ((1000 : Int) < (l.length : Int)) = true := by simp; omega
    generalize S l = s at *
    generalize l.length = m at *
    go_enter Tryd.func10, Tryd.ntmps10
    go_wp2_with fail
    refine (c0.out _ (by assumption)).mono ?_
    rintro e w1 ⟨rfl, c⟩
    have b1 := b0.trans (c.mono b0.size)
    clear c b0
    go_wp2
    go_ret
    exact ⟨rfl, b1⟩
  have d1 : decide ((1000 : Int) < (l.length : Int)) = false := by simp; omega
  obtain ⟨⟨t, f⟩, hp⟩ : ∃ v, isbnI l = v := ⟨_, rfl⟩
  have c1 := Lib.hid (fun W (hW : Below w.heap.size w W) => pIsbn l (by omega) t f hp W (hT.on hW))
  have hn : l.length ≤ 1000 := by omega
  by_cases hf : f = 0
  · subst hf
    have r1 : Int.tmod (aa : Int) 14 = ((aa % 14 : Nat) : Int) := by rw [Int.tmod_eq_emod_of_nonneg (by omega)]; omega
    have r2 : (aa : Int) % 14 = ((aa % 14 : Nat) : Int) := by omega
    have hk : aa % 14 ≤ 13 := by omega
    obtain ⟨k, hkk⟩ : ∃ k, aa % 14 = k := ⟨_, rfl⟩
    rw [hkk] at r1 r2 hk
    obtain ⟨h13, h2, h3, h4⟩ := isbn_again l t hp k
    obtain ⟨v, hv⟩ : ∃ v, ([45] ++ t.take k ++ [32, 45, 32] ++ t.drop k ++ [32] : List UInt8) = v := ⟨_, rfl⟩
    rw [hv] at h3
    have hvl : v.length ≤ 1000 := by
      rw [← hv]
      simp only [List.length_append, List.length_take, List.length_drop, List.length_cons, List.length_nil]
      omega
    have c2 := Lib.hid (fun W (hW : Below w.heap.size w W) => pIsbn t (by omega) t 0 h2 W (hT.on hW))
    have c3 := Lib.hid (fun W (hW : OKB w W) => (pIsbn v (by omega) t 0 h3 W (hT.on (show Below w.heap.size w W from hW))).mono fun e w' hh => And.intro hh.1 (OKB.after hW hh.2))
    have c4 := Lib.hid (fun W (hW : Below w.heap.size w W) => pIsbn (l ++ [45]) (by rw [List.length_append]; simp; omega) t 0 h4 W (hT.on hW))
    have hu : (S t).size = 13 := by rw [S_size, h13]
    have hst : (⟨#[45]⟩ : ByteArray) ++ (S t).extract 0 k ++ (⟨#[32, 45, 32]⟩ : ByteArray) ++ (S t).extract k 13 ++ (⟨#[32]⟩ : ByteArray) = S v := by
      rw [S_extract, S_extract, show (⟨#[45]⟩ : ByteArray) = S [45] from rfl, show (⟨#[32, 45, 32]⟩ : ByteArray) = S [32, 45, 32] from rfl, show (⟨#[32]⟩ : ByteArray) = S [32] from rfl, S_append, S_append, S_append, S_append, ← hv, ← h13, List.take_length]
      rfl
    have z1 : ((S t).extract 0 k).size = k := by simp [hu]; omega
    have z2 : ((S t).extract k 13).size = 13 - k := by simp [hu]
    have hl2 : S l ++ (⟨#[45]⟩ : ByteArray) = S (l ++ [45]) := S_append l [45]
    have i0 : (0 : Int) ≤ (k : Int) := by omega
    have i1 : (k : Int) ≤ 13 := by omega
    have q1 : ¬ 9223372036854775807 < 1 + k := by omega
    have q2 : ¬ 9223372036854775807 < 1 + k + 3 := by omega
    have q3 : ¬ 9223372036854775807 < 1 + k + 3 + (13 - k) := by omega
    have q4 : ¬ 9223372036854775807 < 1 + k + 3 + (13 - k) + 1 := by omega
    clear hp h1000 h2 h3 h4 hv hkk hvl
    generalize S (l ++ [45]) = sl at *
    generalize S v = sv at *
    generalize S t = u at *
    generalize S l = s at *
    generalize l.length = m at *
    go_enter Tryd.func10, Tryd.ntmps10
    go_wp2_with fail
    refine (c1.out _ (by assumption)).mono ?_
    rintro e w1 ⟨rfl, c⟩
    have b1 := b0.trans (c.mono b0.size)
    clear c b0
    go_wp2_with fail
    refine (c2.out _ (by assumption)).mono ?_
    rintro e w2 ⟨rfl, c⟩
    have b2 := b1.trans (c.mono b1.size)
    clear c b1
    have hO : OKB w w2 := b2
    clear b2
    go_wp2
    go_region_held3 (fun w' => OKB w w') (simp [*, OKB_drew])
      (first | (go_at_call 19; refine (c3.out _ ?_).mono ?_; (first | assumption | (rw [OKB_drew]; assumption)); rintro e w' ⟨rfl, hO⟩))
    all_goals
      go_wp2_with fail
      refine (c4.out _ (by first | exact hO | exact (OKB_drew _ _).1 hO | exact (OKB_drew _ _).2 hO | assumption)).mono ?_
      rintro e w4 ⟨rfl, c⟩
      have b4 : Below w.heap.size w w4 := by first | exact OKB.after hO c | exact OKB.after ((OKB_drew _ _).2 hO) c | exact OKB.after ((OKB_drew _ _).1 hO) c
      clear c
      go_wp2_with fail
      refine (c0.out _ (by assumption)).mono ?_
      rintro e w5 ⟨rfl, c⟩
      have b5 := b4.trans (c.mono b4.size)
      clear c
      go_wp2
      go_ret
      exact ⟨rfl, b5⟩
  · have tf : (f == 0) = false := by simpa using hf
    have tf2 : (f != 0) = true := by simpa using hf
    have ht : t = [] := isbnT_bad _ t f hp hf
    subst ht
    rw [show S [] = (⟨#[]⟩ : ByteArray) from rfl] at c1
    clear hp h1000
    generalize S l = s at *
    generalize l.length = m at *
    go_enter Tryd.func10, Tryd.ntmps10
    go_wp2_with fail
    refine (c1.out _ (by assumption)).mono ?_
    rintro e w1 ⟨rfl, c⟩
    have b1 := b0.trans (c.mono b0.size)
    clear c b0
    go_wp2_with fail
    refine (c0.out _ (by assumption)).mono ?_
    rintro e w2 ⟨rfl, c⟩
    have b2 := b1.trans (c.mono b1.size)
    clear c b1
    go_wp2
    go_ret
    exact ⟨rfl, b2⟩
end Go.Proofs.YtnbjgkhngolhfaaDoor
