/- Package rules: isTag, isCodes, isChoice. libraryref09: Tag, Codes, Within. -/
import Derived.Test.YtjfdolmcecgdgaaDoorUA09
import Derived.BigQuiet
import Derived.Laws.Cover1
import Derived.Deep.CutRange
import Derived.Deep.DeepCutAuto
namespace Go.Proofs.YtjfdolmcecgdgaaDoor
open Go.RowKit Go.PlainAid

theorem below_drawn9 (a w : World) (n : Nat) (h : Below a.heap.size a w) : Below a.heap.size a (w.drewN n) := h.trans ⟨rfl, rfl, rfl, Nat.le_refl _, fun _ _ => rfl⟩
/-- A text of three digits or so, against 010. -/
theorem less_three9 (l : List UInt8) (h3 : l.length = 3) (h0 : 48 ≤ (l.getD 0 0).toNat) (h1 : 48 ≤ (l.getD 1 0).toNat) (h2 : 48 ≤ (l.getD 2 0).toNat) : Op.bytesLess l [48, 49, 48] = (decide (l.getD 0 0 = 48) && decide (l.getD 1 0 = 48)) := by
  match l, h3 with
  | [a, b, c], _ =>
    have g0 : 48 ≤ a.toNat := h0
    have g1 : 48 ≤ b.toNat := h1
    have g2 : 48 ≤ c.toNat := h2
    have na : ¬ a < 48 := fun k => by have := UInt8.lt_iff_toNat_lt.1 k; simp at this; omega
    have nc : ¬ c < 48 := fun k => by have := UInt8.lt_iff_toNat_lt.1 k; simp at this; omega
    have nb : (b < 49) ↔ b = 48 := by
      rw [UInt8.lt_iff_toNat_lt, ← UInt8.toNat_inj]
      simp
      omega
    show (decide (a < 48) || (a == 48 && (decide (b < 49) || (b == 49 && (decide (c < 48) || (c == 48 && false)))))) = _
    rw [decide_eq_false na, decide_eq_false nc]
    simp [nb]
    rw [show (a == 48) = decide (a = 48) from rfl]
theorem tag_bad (l : List UInt8) (k : Nat) (hk : k < l.length) (h : digB (l.getD k 0) = false) : tagB l = false := by
  unfold tagB
  by_cases h3 : l.length = 3
  · rw [h3] at hk
    match k, hk, h with
    | 0, _, h => rw [h]; simp
    | 1, _, h => rw [h]; simp
    | 2, _, h => rw [h]; simp
  · rw [decide_eq_false h3]; simp
theorem tag_all (l : List UInt8) (h3 : l.length = 3) (h : ∀ j, j < l.length → digB (l.getD j 0) = true) : Op.bytesLess l [48, 49, 48] = !(tagB l) := by
  have g0 := h 0 (by omega)
  have g1 := h 1 (by omega)
  have g2 := h 2 (by omega)
  rw [less_three9 l h3 ((digB_iff _).1 g0).1 ((digB_iff _).1 g1).1 ((digB_iff _).1 g2).1]
  unfold tagB
  rw [g0, g1, g2, decide_eq_true h3]
  simp
theorem tag_long (l : List UInt8) (h3 : l.length ≠ 3) : tagB l = false := by
  unfold tagB
  rw [decide_eq_false h3]
  simp

set_option maxHeartbeats 8000000 in
theorem uTag_any (l : List UInt8) (hz : l.length ≤ 1000000) (b : Bool) (hb : tagB l = b) (w : World) :
    Calls Tryd.prog 36 #[.string (S l)] w fun e w' => e = .returned (.bool b) ∧ w' = w := by
  have hbt := get_bt (S l)
  obtain ⟨n, hn⟩ : ∃ n, l.length = n := ⟨_, rfl⟩
  have hsz : (S l).size = n := by rw [S_size, hn]
  obtain ⟨j, hj, hg, hbad⟩ : ∃ j, j ≤ n ∧ (∀ i, i < j → digB (l.getD i 0) = true) ∧ (j < n → digB (l.getD j 0) = false) := by
    rcases first_bad (fun i => digB (l.getD i 0)) n with h | ⟨j, hj, h1, h2⟩
    · exact ⟨n, Nat.le_refl _, h, fun h => by omega⟩
    · exact ⟨j, by omega, h1, fun _ => h2⟩
  have hbj : j < n → b = false := fun h => by rw [← hb]; exact tag_bad l j (by omega) (hbad h)
  have hbl : n ≠ 3 → b = false := fun h => by rw [← hb]; exact tag_long l (by omega)
  have hbs : j = n → n = 3 → Op.bytesLess (S l).toList [48, 49, 48] = !b := fun h1 h2 => by
    rw [ByteArray.toList_eq]
    show Op.bytesLess l [48, 49, 48] = !b
    rw [← hb]
    exact tag_all l (by omega) (fun i hi => hg i (by omega))
  have HG := Lib.hid hg
  have HB := Lib.hid hbad
  have HBJ := Lib.hid hbj
  have HBL := Lib.hid hbl
  have HBS2 := Lib.hid hbs
  have HBS := Lib.hid (fun i => bt_S l i)
  have cD := Lib.hid (fun x r (hr : digB x = r) W => uDigit_any x r hr W)
  rw [hn] at hz
  clear hg hbad hbj hbl hbs hn hb
  generalize S l = s at *
  go_enter Tryd.func36, Tryd.ntmps36
  go_wp2
  go_loopw [6] (fun i wr => ∃ k : Nat, k ≤ j ∧ i = .int .i64 (k : Int) ∧ w = wr) (fun i _ => j - (intOf i).toNat)
  case atStart => exact ⟨0, Nat.zero_le _, rfl, rfl⟩
  case round =>
    obtain ⟨k, hk, rfl, rfl⟩ := hrel
    by_cases hkn : k < n
    · have hki : (k : Int) < (n : Int) := by omega
      have hk0 : (0 : Int) ≤ (k : Int) := by omega
      have hbk := HBS.out k
      by_cases hlt : k < j
      · have hc := cD.out _ true (HG.out k hlt) w
        rw [← hbk] at hc
        clear hbk
        go_wp2_with fail
        refine hc.mono ?_
        rintro e w1 ⟨rfl, rfl⟩
        go_wp2
        go_roundw
        case rel => exact ⟨k + 1, by omega, by go_num, trivial⟩
        case measure => simp [intOf]; omega
      · obtain rfl : k = j := by omega
        have hc := cD.out _ false (HB.out hkn) w
        rw [← hbk] at hc
        clear hbk
        obtain rfl : b = false := HBJ.out hkn
        go_wp2_with fail
        refine hc.mono ?_
        rintro e w1 ⟨rfl, rfl⟩
        go_wp2
        go_ret
        exact ⟨rfl, rfl⟩
    · obtain rfl : k = n := by omega
      obtain rfl : j = k := by omega
      by_cases h3 : j = 3
      · have hle := HBS2.out rfl h3
        have t3 : ((j : Int) == 3) = true := by simp; omega
        have HLE : RowKit.Hid ((!Op.bytesLess s.toList [48, 49, 48]) = b) := by unfold RowKit.Hid; rw [hle, Bool.not_not]
        clear hle h3
        go_wp2
        go_ret
        exact ⟨by rw [HLE.out]; rfl, rfl⟩
      · obtain rfl : b = false := HBL.out h3
        have t3 : ((j : Int) == 3) = false := by simp; omega
        clear h3
        go_wp2
        go_ret
        exact ⟨rfl, rfl⟩

set_option maxHeartbeats 8000000 in
theorem refTag9_any (l : List UInt8) (b : Bool) (hb : tagB l = b) (w : World) :
    Calls Tryd.prog 27 #[.string (S l)] w fun e w' => e = .returned (.bool b) ∧ w' = w := by
  have hbt := get_bt (S l)
  obtain ⟨n, hn⟩ : ∃ n, l.length = n := ⟨_, rfl⟩
  have hsz : (S l).size = n := by rw [S_size, hn]
  by_cases h3 : n = 3
  · obtain ⟨j, hj, hg, hbad⟩ : ∃ j, j ≤ n ∧ (∀ i, i < j → digB (l.getD i 0) = true) ∧ (j < n → digB (l.getD j 0) = false) := by
      rcases first_bad (fun i => digB (l.getD i 0)) n with h | ⟨j, hj, h1, h2⟩
      · exact ⟨n, Nat.le_refl _, h, fun h => by omega⟩
      · exact ⟨j, by omega, h1, fun _ => h2⟩
    have hbj : j < n → b = false := fun h => by rw [← hb]; exact tag_bad l j (by omega) (hbad h)
    have hbs : j = n → Op.bytesLess (S l).toList [48, 49, 48] = !b := fun h1 => by
      rw [ByteArray.toList_eq]
      show Op.bytesLess l [48, 49, 48] = !b
      rw [← hb]
      exact tag_all l (by omega) (fun i hi => hg i (by omega))
    have HG := Lib.hid (fun i hi => (digB_iff _).1 (hg i hi))
    have HB := Lib.hid hbad
    have HBJ := Lib.hid hbj
    have HBS2 := Lib.hid hbs
    have HBS := Lib.hid (fun i => bt_S l i)
    clear hg hbad hbj hbs hn hb
    subst h3
    generalize S l = s at *
    go_enter Tryd.func27, Tryd.ntmps27
    go_wp2
    go_loopw [3] (fun i wr => ∃ k : Nat, k ≤ j ∧ i = .int .i64 (k : Int) ∧ w = wr) (fun i _ => j - (intOf i).toNat)
    case atStart => exact ⟨0, Nat.zero_le _, rfl, rfl⟩
    case round =>
      obtain ⟨k, hk, rfl, rfl⟩ := hrel
      by_cases hkn : k < 3
      · have hki : (k : Int) < 3 := by omega
        have hk0 : (0 : Int) ≤ (k : Int) := by omega
        have hbk := HBS.out k
        by_cases hlt : k < j
        · have hd := HG.out k hlt
          have t1 : decide (bt s k < 48) = false := decide_eq_false (by omega)
          have t2 : decide (57 < bt s k) = false := decide_eq_false (by omega)
          clear hbk hd
          go_wp2
          go_roundw
          case rel => exact ⟨k + 1, by omega, by go_num, trivial⟩
          case measure => simp [intOf]; omega
        · obtain rfl : k = j := by omega
          have hd := HB.out hkn
          obtain rfl : b = false := HBJ.out hkn
          by_cases h48 : bt s k < 48
          · have t1 : decide (bt s k < 48) = true := decide_eq_true h48
            clear hbk hd h48
            go_wp2
            go_ret
            exact ⟨rfl, rfl⟩
          · have t1 : decide (bt s k < 48) = false := decide_eq_false h48
            have t2 : decide (57 < bt s k) = true := decide_eq_true (by
              rw [hbk] at h48 ⊢
              by_cases h57 : (l.getD k 0).toNat ≤ 57
              · rw [(digB_iff _).2 ⟨by omega, h57⟩] at hd
                cases hd
              · omega)
            clear hbk hd h48
            go_wp2
            go_ret
            exact ⟨rfl, rfl⟩
      · obtain rfl : k = 3 := by omega
        obtain rfl : j = 3 := by omega
        have hle := HBS2.out rfl
        have HLE : RowKit.Hid ((!Op.bytesLess s.toList [48, 49, 48]) = b) := by unfold RowKit.Hid; rw [hle, Bool.not_not]
        clear hle
        go_wp2
        go_ret
        exact ⟨by rw [HLE.out]; rfl, rfl⟩
  · obtain rfl : b = false := by rw [← hb]; exact tag_long l (by omega)
    have t1 : ((n : Int) == 3) = false := by simp; omega
    clear hn h3 hb
    generalize S l = s at *
    go_enter Tryd.func27, Tryd.ntmps27
    go_wp2
    go_ret
    exact ⟨rfl, rfl⟩
end Go.Proofs.YtjfdolmcecgdgaaDoor
