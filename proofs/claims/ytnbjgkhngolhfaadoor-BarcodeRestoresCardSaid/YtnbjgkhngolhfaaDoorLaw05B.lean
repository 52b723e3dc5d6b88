/- The statements BarcodeRestores and BarcodeSerials of layer 5 over this translation: they return true. -/
import Derived.Test.YtnbjgkhngolhfaaDoorLaw05
import Derived.Test.YtnbjgkhngolhfaaDoorLaw05P
import Derived.Deep.RegionHeld3
namespace Go.Proofs.YtnbjgkhngolhfaaDoor
open Go.RowKit Go.PlainAid

/-- What lay in a world lies still. -/
def OKB (w w' : World) : Prop := Below w.heap.size w w'
theorem OKB_drew (w w' : World) : OKB w w'.drew ↔ OKB w w' :=
  ⟨fun b => ⟨b.os, b.tape, b.output, b.size, b.block⟩, fun b => ⟨b.os, b.tape, b.output, b.size, b.block⟩⟩
theorem OKB.after {w w1 w2 : World} (h : OKB w w1) (hb : Below w1.heap.size w1 w2) : OKB w w2 := Below.trans h (hb.mono h.size)

theorem make_ok (k n : Int) (t : List UInt8) (h : makeI k n = (t, 0)) : parseI t = (k, n, 0) := by
  unfold makeI at h
  by_cases hk : k = 2 ∨ k = 3
  · rw [if_pos hk] at h
    by_cases hn : 0 ≤ n ∧ n ≤ 9999
    · rw [if_pos hn] at h
      simp only [Prod.mk.injEq, and_true] at h
      obtain ⟨a, rfl⟩ : ∃ a : Nat, k = (a : Int) := ⟨k.toNat, by omega⟩
      obtain ⟨b, rfl⟩ : ∃ b : Nat, n = (b : Int) := ⟨n.toNat, by omega⟩
      rw [← h]
      exact parse_make a b (by omega) (by omega)
    · rw [if_neg hn] at h
      simp at h
  · rw [if_neg hk] at h
    simp at h
theorem make_len (k n : Int) (t : List UInt8) (e : Int) (h : makeI k n = (t, e)) : t.length ≤ 14 := by
  unfold makeI at h
  split at h
  · split at h
    · simp only [Prod.mk.injEq] at h
      rw [← h.1, mkL_length]
      exact Nat.le_refl _
    · simp only [Prod.mk.injEq] at h
      rw [← h.1]
      exact Nat.zero_le _
  · simp only [Prod.mk.injEq] at h
    rw [← h.1]
    exact Nat.zero_le _

set_option maxHeartbeats 16000000 in
set_option maxRecDepth 100000 in
theorem lawRestores_any (k n : Int) (s : ByteArray) (w : World) (hs : s.size ≤ 9223372036854775807) (hT : Tab w) :
    Calls Tryd.prog 8 #[.int .i64 k, .int .i64 n, .string s] w fun e w' => e = .returned (.bool true) ∧ Below w.heap.size w w' := by
  obtain ⟨l, rfl⟩ : ∃ l, S l = s := ⟨s.data.toList, rfl⟩
  have c0 := Lib.hid (fun W (hW : Below w.heap.size w W) => alive_any W (hT.on hW))
  have b0 := Below.refl w.heap.size w
  have hsz := S_size l
  by_cases h1000 : 1000 < l.length
  · have d1 : decide ((1000 : Int) < (l.length : Int)) = true := by simp; omega
    generalize S l = s at *
    generalize l.length = m at *
    go_enter Tryd.func8, Tryd.ntmps8
    go_wp2_with fail
    refine (c0.out _ (by assumption)).mono ?_
    rintro e w1 ⟨rfl, c⟩
    have b1 := b0.trans (c.mono b0.size)
    clear c b0
    go_wp2
    go_ret
    exact ⟨rfl, b1⟩
  have d1 : decide ((1000 : Int) < (l.length : Int)) = false := by simp; omega
  obtain ⟨⟨t, e1⟩, hm⟩ : ∃ v, makeI k n = v := ⟨_, rfl⟩
  obtain ⟨⟨x, y, f⟩, hp⟩ : ∃ v, parseI l = v := ⟨_, rfl⟩
  have c1 := Lib.hid (fun W (hW : Below w.heap.size w W) => pMake k n t e1 hm W (hT.on hW))
  have c3 := Lib.hid (fun W (hW : Below w.heap.size w W) => pParse l (by omega) x y f hp W)
  have hn : l.length ≤ 1000 := by omega
  have hfin : (f = 0 → makeI x y = (l, 0)) := fun h => make_parse l x y (by rw [hp, h])
  have htl := make_len k n t e1 hm
  have hmk : e1 = 0 → parseI t = (k, n, 0) := fun h => make_ok k n t (by rw [hm, h])
  clear hm hp h1000
  by_cases he : e1 = 0
  · subst he
    have c2 := Lib.hid (fun W (hW : Below w.heap.size w W) => pParse t (by omega) k n 0 (hmk rfl) W)
    clear hmk
    by_cases hf : f = 0
    · subst hf
      have c4 := Lib.hid (fun W (hW : Below w.heap.size w W) => pMake x y l 0 (hfin rfl) W (hT.on hW))
      clear hfin
      generalize S l = s at *
      generalize S t = u at *
      generalize l.length = m at *
      go_enter Tryd.func8, Tryd.ntmps8
      go_wp2_with fail
      refine (c1.out _ (by assumption)).mono ?_
      rintro e w1 ⟨rfl, c⟩
      have b1 := b0.trans (c.mono b0.size)
      clear c b0
      go_wp2_with fail
      refine (c2.out _ (by assumption)).mono ?_
      rintro e w2 ⟨rfl, c⟩
      have b2 := b1.trans (c.mono b1.size)
      clear c b1
      go_wp2_with fail
      refine (c3.out _ (by assumption)).mono ?_
      rintro e w3 ⟨rfl, c⟩
      have b3 := b2.trans (c.mono b2.size)
      clear c b2
      go_wp2_with fail
      refine (c4.out _ (by assumption)).mono ?_
      rintro e w4 ⟨rfl, c⟩
      have b4 := b3.trans (c.mono b3.size)
      clear c b3
      go_wp2_with fail
      refine (c0.out _ (by assumption)).mono ?_
      rintro e w5 ⟨rfl, c⟩
      have b5 := b4.trans (c.mono b4.size)
      clear c b4
      go_wp2
      go_ret
      exact ⟨rfl, b5⟩
    · have tf : (f == 0) = false := by simpa using hf
      clear hfin
      generalize S l = s at *
      generalize S t = u at *
      generalize l.length = m at *
      go_enter Tryd.func8, Tryd.ntmps8
      go_wp2_with fail
      refine (c1.out _ (by assumption)).mono ?_
      rintro e w1 ⟨rfl, c⟩
      have b1 := b0.trans (c.mono b0.size)
      clear c b0
      go_wp2_with fail
      refine (c2.out _ (by assumption)).mono ?_
      rintro e w2 ⟨rfl, c⟩
      have b2 := b1.trans (c.mono b1.size)
      clear c b1
      go_wp2_with fail
      refine (c3.out _ (by assumption)).mono ?_
      rintro e w3 ⟨rfl, c⟩
      have b3 := b2.trans (c.mono b2.size)
      clear c b2
      go_wp2_with fail
      refine (c0.out _ (by assumption)).mono ?_
      rintro e w5 ⟨rfl, c⟩
      have b5 := b3.trans (c.mono b3.size)
      clear c b3
      go_wp2
      go_ret
      exact ⟨rfl, b5⟩
  · have te : (e1 == 0) = false := by simpa using he
    clear hmk
    by_cases hf : f = 0
    · subst hf
      have c4 := Lib.hid (fun W (hW : Below w.heap.size w W) => pMake x y l 0 (hfin rfl) W (hT.on hW))
      clear hfin
      generalize S l = s at *
      generalize S t = u at *
      generalize l.length = m at *
      go_enter Tryd.func8, Tryd.ntmps8
      go_wp2_with fail
      refine (c1.out _ (by assumption)).mono ?_
      rintro e w1 ⟨rfl, c⟩
      have b1 := b0.trans (c.mono b0.size)
      clear c b0
      go_wp2_with fail
      refine (c3.out _ (by assumption)).mono ?_
      rintro e w3 ⟨rfl, c⟩
      have b3 := b1.trans (c.mono b1.size)
      clear c b1
      go_wp2_with fail
      refine (c4.out _ (by assumption)).mono ?_
      rintro e w4 ⟨rfl, c⟩
      have b4 := b3.trans (c.mono b3.size)
      clear c b3
      go_wp2_with fail
      refine (c0.out _ (by assumption)).mono ?_
      rintro e w5 ⟨rfl, c⟩
      have b5 := b4.trans (c.mono b4.size)
      clear c b4
      go_wp2
      go_ret
      exact ⟨rfl, b5⟩
    · have tf : (f == 0) = false := by simpa using hf
      clear hfin
      generalize S l = s at *
      generalize S t = u at *
      generalize l.length = m at *
      go_enter Tryd.func8, Tryd.ntmps8
      go_wp2_with fail
      refine (c1.out _ (by assumption)).mono ?_
      rintro e w1 ⟨rfl, c⟩
      have b1 := b0.trans (c.mono b0.size)
      clear c b0
      go_wp2_with fail
      refine (c3.out _ (by assumption)).mono ?_
      rintro e w3 ⟨rfl, c⟩
      have b3 := b1.trans (c.mono b1.size)
      clear c b1
      go_wp2_with fail
      refine (c0.out _ (by assumption)).mono ?_
      rintro e w5 ⟨rfl, c⟩
      have b5 := b3.trans (c.mono b3.size)
      clear c b3
      go_wp2
      go_ret
      exact ⟨rfl, b5⟩

set_option maxHeartbeats 16000000 in
set_option maxRecDepth 100000 in
theorem lawSerials_any (s : ByteArray) (w : World) (hs : s.size ≤ 9223372036854775807) (hT : Tab w) :
    Calls Tryd.prog 11 #[.string s] w fun e w' => e = .returned (.bool true) ∧ Below w.heap.size w w' := by
  obtain ⟨l, rfl⟩ : ∃ l, S l = s := ⟨s.data.toList, rfl⟩
  have c0 := Lib.hid (fun W (hW : Below w.heap.size w W) => alive_any W (hT.on hW))
  have b0 := Below.refl w.heap.size w
  have hsz := S_size l
  by_cases h1000 : 1000 < l.length
  · have d1 : decide ((1000 : Int) < (l.length : Int)) = true := by simp; omega
    generalize S l = s at *
    generalize l.length = m at *
    go_enter Tryd.func11, Tryd.ntmps11
    go_wp2_with fail
    refine (c0.out _ (by assumption)).mono ?_
    rintro e w1 ⟨rfl, c⟩
    have b1 := b0.trans (c.mono b0.size)
    clear c b0
    go_wp2
    go_ret
    exact ⟨rfl, b1⟩
  have d1 : decide ((1000 : Int) < (l.length : Int)) = false := by simp; omega
  obtain ⟨⟨t, f⟩, hp⟩ : ∃ v, issnI l = v := ⟨_, rfl⟩
  have c1 := Lib.hid (fun W (hW : Below w.heap.size w W) => pIssn l (by omega) t f hp W)
  have hn : l.length ≤ 1000 := by omega
  by_cases hf : f = 0
  · subst hf
    obtain ⟨h9, h2, h3⟩ := issn_again l t hp
    have c2 := Lib.hid (fun W (hW : Below w.heap.size w W) => pIssn t (by omega) t 0 h2 W)
    have c3 := Lib.hid (fun W (hW : OKB w W) => (pIssn (t.take 4 ++ t.drop 5) (by rw [List.length_append, List.length_take, List.length_drop]; omega) t 0 h3 W).mono fun e w' hh => And.intro hh.1 (OKB.after hW hh.2))
    have hu : (S t).size = 9 := by rw [S_size, h9]
    have hst : (S t).extract 0 4 ++ (S t).extract 5 9 = S (t.take 4 ++ t.drop 5) := by
      rw [S_extract, S_extract, S_append, ← h9, List.take_length]
      rfl
    have z1 : ((S t).extract 0 4).size = 4 := by simp [hu]
    have z2 : ((S t).extract 5 9).size = 4 := by simp [hu]
    clear hp h1000 h2 h3
    generalize S (t.take 4 ++ t.drop 5) = v at *
    generalize S t = u at *
    generalize S l = s at *
    generalize l.length = m at *
    go_enter Tryd.func11, Tryd.ntmps11
    go_wp2_with fail
    refine (c1.out _ (by assumption)).mono ?_
    rintro e w1 ⟨rfl, c⟩
    have b1 := b0.trans (c.mono b0.size)
    clear c b0
    go_wp2_with fail
    refine (c2.out _ (by assumption)).mono ?_
    rintro e w2 ⟨rfl, c⟩
    have b2 := b1.trans (c.mono b1.size)
    clear c b1
    have hO : OKB w w2 := b2
    clear b2
    go_wp2
    go_region_held3 (fun w' => OKB w w') (simp [*, OKB_drew])
      (first | (go_at_call 21; refine (c3.out _ ?_).mono ?_; (first | assumption | (rw [OKB_drew]; assumption)); rintro e w' ⟨rfl, hO⟩))
    all_goals
      go_wp2_with fail
      refine (c0.out _ (by first | exact hO | exact (OKB_drew _ _).1 hO | exact (OKB_drew _ _).2 hO | assumption)).mono ?_
      rintro e w5 ⟨rfl, c⟩
      go_wp2
      go_ret
      first | exact ⟨rfl, OKB.after hO c⟩ | exact ⟨rfl, OKB.after ((OKB_drew _ _).2 hO) c⟩ | exact ⟨rfl, OKB.after ((OKB_drew _ _).1 hO) c⟩
  · have tf : (f == 0) = false := by simpa using hf
    have tf2 : (f != 0) = true := by simpa using hf
    have ht : t = [] := issnT_bad _ t f hp hf
    subst ht
    rw [show S [] = (⟨#[]⟩ : ByteArray) from rfl] at c1
    clear hp h1000
    generalize S l = s at *
    generalize l.length = m at *
    go_enter Tryd.func11, Tryd.ntmps11
    go_wp2_with fail
    refine (c1.out _ (by assumption)).mono ?_
    rintro e w1 ⟨rfl, c⟩
    have b1 := b0.trans (c.mono b0.size)
    clear c b0
    go_wp2_with fail
    refine (c0.out _ (by assumption)).mono ?_
    rintro e w2 ⟨rfl, c⟩
    have b2 := b1.trans (c.mono b1.size)
    clear c b1
    go_wp2
    go_ret
    exact ⟨rfl, b2⟩
end Go.Proofs.YtnbjgkhngolhfaaDoor
