/- The statement MoneyBack of layer 4 over this translation: it returns true. -/
import Derived.Test.YtbemenflkebpnaaDoorLaw04
import Derived.Test.YtbemenflkebpnaaDoorLaw04P
namespace Go.Proofs.YtbemenflkebpnaaDoor
open Go.RowKit Go.PlainAid

theorem permI_in (n r : Nat) (hn : n ≤ 100000000) (hr : r ≤ 1000) : permI (n : Int) (r : Int) = (perm n r : Int) := by
  unfold permI
  rw [if_pos ⟨(rightI_iff n).2 (by omega), by omega, by omega⟩]
  rfl

set_option maxHeartbeats 8000000 in
set_option maxRecDepth 100000 in
theorem lawBack_out (n r : Int) (h : ¬ (rightI n = true ∧ 0 ≤ r ∧ r ≤ 1000)) (w : World) (hT : Tab w) :
    Calls Tryd.prog 7 #[.int .i64 n, .int .i64 r] w fun e w' => e = .returned (.bool true) ∧ Below w.heap.size w w' := by
  have c0 := Lib.hid (fun W (hW : Below w.heap.size w W) => alive_any W (hT.on hW))
  have b0 := Below.refl w.heap.size w
  cases hn : rightI n
  · have hf : fmtI n = ⟨#[]⟩ := by unfold fmtI; rw [hn]; rfl
    have c1 := Lib.hid (fun W (hW : Below w.heap.size w W) => pRight n false hn W)
    have c2 := Lib.hid (fun W (hW : Below w.heap.size w W) => pFormat n ⟨#[]⟩ hf W (hT.on hW))
    clear h hn hf
    go_enter Tryd.func7, Tryd.ntmps7
    go_wp2_with fail
    refine (c0.out _ (by assumption)).mono ?_
    rintro e w1 ⟨rfl, b1⟩
    clear b0
    go_wp2_with fail
    refine (c1.out _ (by assumption)).mono ?_
    rintro e w2 ⟨rfl, c⟩
    have b2 := b1.trans (c.mono b1.size)
    clear c b1
    go_wp2_with fail
    refine (c1.out _ (by assumption)).mono ?_
    rintro e w3 ⟨rfl, c⟩
    have b3 := b2.trans (c.mono b2.size)
    clear c b2
    go_wp2_with fail
    refine (c2.out _ (by assumption)).mono ?_
    rintro e w4 ⟨rfl, c⟩
    have b4 := b3.trans (c.mono b3.size)
    clear c b3
    go_wp2
    go_ret
    exact ⟨rfl, b4⟩
  have c1 := Lib.hid (fun W (hW : Below w.heap.size w W) => pRight n true hn W)
  by_cases h1 : r < 0
  · have d1 : decide (r < 0) = true := decide_eq_true h1
    clear h hn
    go_enter Tryd.func7, Tryd.ntmps7
    go_wp2_with fail
    refine (c0.out _ (by assumption)).mono ?_
    rintro e w1 ⟨rfl, b1⟩
    clear b0
    go_wp2_with fail
    refine (c1.out _ (by assumption)).mono ?_
    rintro e w2 ⟨rfl, c⟩
    have b2 := b1.trans (c.mono b1.size)
    clear c b1
    go_wp2_with fail
    refine (c1.out _ (by assumption)).mono ?_
    rintro e w3 ⟨rfl, c⟩
    have b3 := b2.trans (c.mono b2.size)
    clear c b2
    go_wp2
    go_ret
    exact ⟨rfl, b3⟩
  · have d1 : decide (r < 0) = false := decide_eq_false h1
    have d2 : decide (1000 < r) = true := decide_eq_true (by rcases Int.lt_or_le 1000 r with h2 | h2; exact h2; exact absurd ⟨hn, by omega, h2⟩ h)
    clear h hn
    go_enter Tryd.func7, Tryd.ntmps7
    go_wp2_with fail
    refine (c0.out _ (by assumption)).mono ?_
    rintro e w1 ⟨rfl, b1⟩
    clear b0
    go_wp2_with fail
    refine (c1.out _ (by assumption)).mono ?_
    rintro e w2 ⟨rfl, c⟩
    have b2 := b1.trans (c.mono b1.size)
    clear c b1
    go_wp2_with fail
    refine (c1.out _ (by assumption)).mono ?_
    rintro e w3 ⟨rfl, c⟩
    have b3 := b2.trans (c.mono b2.size)
    clear c b2
    go_wp2
    go_ret
    exact ⟨rfl, b3⟩

set_option maxHeartbeats 16000000 in
set_option maxRecDepth 100000 in
theorem lawBack_in (n r : Nat) (hn : n ≤ 100000000) (hr : r ≤ 1000) (w : World) (hT : Tab w) :
    Calls Tryd.prog 7 #[.int .i64 (n : Int), .int .i64 (r : Int)] w fun e w' => e = .returned (.bool true) ∧ Below w.heap.size w w' := by
  have hri : rightI (n : Int) = true := (rightI_iff n).2 (by omega)
  have hf : fmtI (n : Int) = fmtM n := by unfold fmtI; rw [if_pos hri]; rfl
  have c0 := Lib.hid (fun W (hW : Below w.heap.size w W) => alive_any W (hT.on hW))
  have c1 := Lib.hid (fun W (hW : Below w.heap.size w W) => pRight (n : Int) true hri W)
  have c2 := Lib.hid (fun W (hW : Below w.heap.size w W) => pFormat (n : Int) (fmtM n) hf W (hT.on hW))
  have c3 := Lib.hid (fun W (hW : Below w.heap.size w W) => pParse (fmtM n) (fmtM_size n hn).2 (n : Int) 0 (parM_fmt n hn) W)
  have c4 := Lib.hid (fun W (hW : Below w.heap.size w W) => pPerm (n : Int) (r : Int) (perm n r : Nat) (permI_in n r hn hr) W)
  have c5 := Lib.hid (fun W (hW : Below w.heap.size w W) => pPerm (n : Int) (1000 - (r : Int)) (perm n (1000 - r) : Nat) (by rw [← permI_in n (1000 - r) hn (by omega)]; congr 1; omega) W)
  have c6 := Lib.hid (fun (h : n < 100000000) W (hW : Below w.heap.size w W) => pPerm ((n : Int) + 1) (r : Int) (perm (n + 1) r : Nat) (by rw [← permI_in (n + 1) r (by omega) hr]; rfl) W)
  have c7 := Lib.hid (fun (h : r < 1000) W (hW : Below w.heap.size w W) => pPerm (n : Int) ((r : Int) + 1) (perm n (r + 1) : Nat) (by rw [← permI_in n (r + 1) hn (by omega)]; rfl) W)
  have f1 := perm_le n r hr
  have f2 := perm_two n r hr
  have f3 := perm_mono n (n + 1) r r (by omega) (Nat.le_refl _)
  have f4 := perm_mono n n r (r + 1) (Nat.le_refl _) (by omega)
  have f5 := perm_le n (1000 - r) (by omega)
  have hsz := (fmtM_size n hn).2
  generalize fmtM n = f at *
  generalize perm n r = p at *
  generalize perm n (1000 - r) = p2 at *
  generalize perm (n + 1) r = p3 at *
  generalize perm n (r + 1) = p4 at *
  have b0 := Below.refl w.heap.size w
  have d1 : decide ((r : Int) < 0) = false := by simp
  have d2 : decide ((1000 : Int) < (r : Int)) = false := by simp; omega
  have d3 : decide ((p : Int) < 0) = false := by simp
  have d4 : decide ((n : Int) < (p : Int)) = false := by simp; omega
  obtain ⟨o, ho⟩ : ∃ o : Int, (p : Int) + (p2 : Int) - (n : Int) = o := ⟨_, rfl⟩
  have d5 : decide (o < -1) = false := decide_eq_false (by omega)
  have d6 : decide (1 < o) = false := decide_eq_false (by omega)
  have d8 : decide ((p3 : Int) < (p : Int)) = false := by simp; omega
  have d9 : decide ((p : Int) ≤ (p4 : Int)) = true := by simp; omega
  have g1 : (0 : Int) ≤ (p : Int) ∧ (p : Int) ≤ 100000000 := by omega
  have g2 : (0 : Int) ≤ (p2 : Int) ∧ (p2 : Int) ≤ 100000000 := by omega
  clear hf hri f1 f2 f3 f4 f5
  generalize (p : Int) = P at *
  generalize (p2 : Int) = P2 at *
  generalize (p3 : Int) = P3 at *
  generalize (p4 : Int) = P4 at *
  by_cases hn1 : n < 100000000
  · have d7 : decide ((n : Int) < 100000000) = true := by simp; omega
    have c6 := Lib.hid (c6.out hn1)
    by_cases hr1 : r = 1000
    · subst hr1
      clear c7
      go_enter Tryd.func7, Tryd.ntmps7
      go_wp2_with fail
      refine (c0.out _ (by assumption)).mono ?_
      rintro e w1 ⟨rfl, b1⟩
      clear b0
      go_wp2_with fail
      refine (c1.out _ (by assumption)).mono ?_
      rintro e w2 ⟨rfl, c⟩
      have b2 := b1.trans (c.mono b1.size)
      clear c b1
      go_wp2_with fail
      refine (c2.out _ (by assumption)).mono ?_
      rintro e w3 ⟨rfl, c⟩
      have b3 := b2.trans (c.mono b2.size)
      clear c b2
      go_wp2_with fail
      refine (c3.out _ (by assumption)).mono ?_
      rintro e w4 ⟨rfl, c⟩
      have b4 := b3.trans (c.mono b3.size)
      clear c b3
      go_wp2_with fail
      refine (c4.out _ (by assumption)).mono ?_
      rintro e w5 ⟨rfl, c⟩
      have b5 := b4.trans (c.mono b4.size)
      clear c b4
      go_wp2_with fail
      refine (c5.out _ (by assumption)).mono ?_
      rintro e w6 ⟨rfl, c⟩
      have b6 := b5.trans (c.mono b5.size)
      clear c b5
      go_wp2_with fail
      refine (c6.out _ (by assumption)).mono ?_
      rintro e w7 ⟨rfl, c⟩
      have b7 := b6.trans (c.mono b6.size)
      clear c b6
      go_wp2
      go_ret
      exact ⟨rfl, b7⟩
    · have d10 : ((r : Int) == 1000) = false := by simp; omega
      have c7 := Lib.hid (c7.out (by omega))
      go_enter Tryd.func7, Tryd.ntmps7
      go_wp2_with fail
      refine (c0.out _ (by assumption)).mono ?_
      rintro e w1 ⟨rfl, b1⟩
      clear b0
      go_wp2_with fail
      refine (c1.out _ (by assumption)).mono ?_
      rintro e w2 ⟨rfl, c⟩
      have b2 := b1.trans (c.mono b1.size)
      clear c b1
      go_wp2_with fail
      refine (c2.out _ (by assumption)).mono ?_
      rintro e w3 ⟨rfl, c⟩
      have b3 := b2.trans (c.mono b2.size)
      clear c b2
      go_wp2_with fail
      refine (c3.out _ (by assumption)).mono ?_
      rintro e w4 ⟨rfl, c⟩
      have b4 := b3.trans (c.mono b3.size)
      clear c b3
      go_wp2_with fail
      refine (c4.out _ (by assumption)).mono ?_
      rintro e w5 ⟨rfl, c⟩
      have b5 := b4.trans (c.mono b4.size)
      clear c b4
      go_wp2_with fail
      refine (c5.out _ (by assumption)).mono ?_
      rintro e w6 ⟨rfl, c⟩
      have b6 := b5.trans (c.mono b5.size)
      clear c b5
      go_wp2_with fail
      refine (c6.out _ (by assumption)).mono ?_
      rintro e w7 ⟨rfl, c⟩
      have b7 := b6.trans (c.mono b6.size)
      clear c b6
      go_wp2_with fail
      refine (c7.out _ (by assumption)).mono ?_
      rintro e w8 ⟨rfl, c⟩
      have b8 := b7.trans (c.mono b7.size)
      clear c b7
      go_wp2
      go_ret
      exact ⟨rfl, b8⟩
  · have d7 : decide ((n : Int) < 100000000) = false := by simp; omega
    clear c6
    by_cases hr1 : r = 1000
    · subst hr1
      clear c7
      go_enter Tryd.func7, Tryd.ntmps7
      go_wp2_with fail
      refine (c0.out _ (by assumption)).mono ?_
      rintro e w1 ⟨rfl, b1⟩
      clear b0
      go_wp2_with fail
      refine (c1.out _ (by assumption)).mono ?_
      rintro e w2 ⟨rfl, c⟩
      have b2 := b1.trans (c.mono b1.size)
      clear c b1
      go_wp2_with fail
      refine (c2.out _ (by assumption)).mono ?_
      rintro e w3 ⟨rfl, c⟩
      have b3 := b2.trans (c.mono b2.size)
      clear c b2
      go_wp2_with fail
      refine (c3.out _ (by assumption)).mono ?_
      rintro e w4 ⟨rfl, c⟩
      have b4 := b3.trans (c.mono b3.size)
      clear c b3
      go_wp2_with fail
      refine (c4.out _ (by assumption)).mono ?_
      rintro e w5 ⟨rfl, c⟩
      have b5 := b4.trans (c.mono b4.size)
      clear c b4
      go_wp2_with fail
      refine (c5.out _ (by assumption)).mono ?_
      rintro e w6 ⟨rfl, c⟩
      have b6 := b5.trans (c.mono b5.size)
      clear c b5
      go_wp2
      go_ret
      exact ⟨rfl, b6⟩
    · have d10 : ((r : Int) == 1000) = false := by simp; omega
      have c7 := Lib.hid (c7.out (by omega))
      go_enter Tryd.func7, Tryd.ntmps7
      go_wp2_with fail
      refine (c0.out _ (by assumption)).mono ?_
      rintro e w1 ⟨rfl, b1⟩
      clear b0
      go_wp2_with fail
      refine (c1.out _ (by assumption)).mono ?_
      rintro e w2 ⟨rfl, c⟩
      have b2 := b1.trans (c.mono b1.size)
      clear c b1
      go_wp2_with fail
      refine (c2.out _ (by assumption)).mono ?_
      rintro e w3 ⟨rfl, c⟩
      have b3 := b2.trans (c.mono b2.size)
      clear c b2
      go_wp2_with fail
      refine (c3.out _ (by assumption)).mono ?_
      rintro e w4 ⟨rfl, c⟩
      have b4 := b3.trans (c.mono b3.size)
      clear c b3
      go_wp2_with fail
      refine (c4.out _ (by assumption)).mono ?_
      rintro e w5 ⟨rfl, c⟩
      have b5 := b4.trans (c.mono b4.size)
      clear c b4
      go_wp2_with fail
      refine (c5.out _ (by assumption)).mono ?_
      rintro e w6 ⟨rfl, c⟩
      have b6 := b5.trans (c.mono b5.size)
      clear c b5
      go_wp2_with fail
      refine (c7.out _ (by assumption)).mono ?_
      rintro e w7 ⟨rfl, c⟩
      have b7 := b6.trans (c.mono b6.size)
      clear c b6
      go_wp2
      go_ret
      exact ⟨rfl, b7⟩

theorem lawBack_any (n r : Int) (w : World) (hT : Tab w) :
    Calls Tryd.prog 7 #[.int .i64 n, .int .i64 r] w fun e w' => e = .returned (.bool true) ∧ Below w.heap.size w w' := by
  by_cases h : rightI n = true ∧ 0 ≤ r ∧ r ≤ 1000
  · obtain ⟨h1, h2, h3⟩ := h
    rw [rightI_iff] at h1
    obtain ⟨a, rfl⟩ : ∃ a : Nat, n = (a : Int) := ⟨n.toNat, by omega⟩
    obtain ⟨b, rfl⟩ : ∃ b : Nat, r = (b : Int) := ⟨r.toNat, by omega⟩
    exact lawBack_in a b (by omega) (by omega) w hT
  · exact lawBack_out n r h w hT
end Go.Proofs.YtbemenflkebpnaaDoor
