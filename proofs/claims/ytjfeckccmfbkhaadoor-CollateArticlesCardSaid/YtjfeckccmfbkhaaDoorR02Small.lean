/- libraryref02.Small, at every list of strings. -/
import Derived.Test.YtjfeckccmfbkhaaDoorRValid
import Derived.Test.YtjfeckccmfbkhaaDoorCSortAll
namespace Go.Proofs.YtjfeckccmfbkhaaDoor
open Go.RowKit

def smallS (s : ByteArray) : Bool := decide (s.size ≤ 300) && validT s.data.toList
def smallB (l : List ByteArray) : Bool := decide (l.length ≤ 40) && l.all smallS

set_option maxHeartbeats 8000000 in
theorem small_any (v : Value) (l : List ByteArray) (w : World) (hv : SL v l w) (b : Bool) (hb : smallB l = b) :
    Calls Tryd.prog 11 #[v] w fun e w' => e = .returned (.bool b) ∧ Below w.heap.size w w' := by
  obtain ⟨a, cap, rfl, hcap, hcell⟩ := hv
  have HCell := Lib.hid hcell
  have HB := Lib.hid hb
  clear hcell hb
  obtain ⟨n, hN⟩ : ∃ n, l.length = n := ⟨_, rfl⟩
  rw [hN] at hcap ⊢
  have HN := Lib.hid hN
  clear hN
  by_cases h40 : 40 < n
  · have d1 : decide ((40 : Int) < (n : Int)) = true := by simp; omega
    obtain rfl : b = false := by
      rw [← HB.out]
      unfold smallB
      rw [decide_eq_false (by have := HN.out; omega)]
      rfl
    go_enter Tryd.func11, Tryd.ntmps11
    go_wp2
    go_ret
    exact ⟨rfl, Below.refl _ _⟩
  · have d1 : decide ((40 : Int) < (n : Int)) = false := by simp; omega
    go_enter Tryd.func11, Tryd.ntmps11
    go_wp2
    go_loopw [3] (fun i wr => ∃ k : Nat, k ≤ n ∧ i = .int .i64 k ∧ RowKit.Hid ((l.take k).all smallS = true) ∧ Below w.heap.size w wr) (fun i _ => n - (intOf i).toNat)
    case atStart => exact ⟨0, Nat.zero_le _, rfl, rfl, Below.refl _ _⟩
    case round =>
      obtain ⟨k, hk, rfl, HS, hbw⟩ := hrel
      by_cases hlt : k < n
      · have hkl : k < l.length := by have := HN.out; omega
        obtain ⟨g, o, rfl, hg, hc0⟩ := HCell.out k l[k] (List.getElem?_eq_getElem hkl)
        have hc : wr.cell? ⟨g, o + k, none⟩ = some (.string l[k]) := (hbw.cell (p := ⟨g, o + k, none⟩) hg).trans hc0
        have HT := Lib.hid (List.take_succ_eq_append_getElem hkl)
        have HM := Lib.hid (List.getElem_mem hkl)
        have i1 : (0 : Int) ≤ (k : Int) := by omega
        have i2 : (k : Int) < (n : Int) := by omega
        clear hc0
        generalize l[k] = x at hc HT HM
        have bad : smallS x = false → b = false := by
          intro h
          rw [← HB.out]
          unfold smallB
          have : l.all smallS = false := by
            rw [List.all_eq_false]
            exact ⟨x, HM.out, by rw [h]; simp⟩
          rw [this, Bool.and_false]
        have Bad := Lib.hid bad
        clear bad
        by_cases h3 : 300 < x.size
        · have d2 : decide ((300 : Int) < (x.size : Int)) = true := by simp; omega
          obtain rfl : b = false := Bad.out (by unfold smallS; rw [decide_eq_false (by omega)]; rfl)
          have Hbw := Lib.hid hbw
          clear hbw
          go_wp2
          go_ret
          exact ⟨rfl, Hbw.out⟩
        · have d2 : decide ((300 : Int) < (x.size : Int)) = false := by simp; omega
          have cV := Lib.hid (fun W => refValid_any x (by omega) W)
          have hsm : smallS x = validT x.data.toList := by unfold smallS; rw [decide_eq_true (by omega), Bool.true_and]
          have HSm := Lib.hid hsm
          clear hsm
          generalize validT x.data.toList = vb at cV HSm
          cases vb
          · obtain rfl : b = false := Bad.out HSm.out
            have Hbw := Lib.hid hbw
            clear hbw
            go_wp2_with fail
            refine (cV.out _).mono ?_
            rintro e w1 ⟨rfl, b1⟩
            have Hb1 := Lib.hid (Hbw.out.trans (b1.mono Hbw.out.size))
            clear b1
            go_wp2
            go_ret
            exact ⟨rfl, Hb1.out⟩
          · have Hbw := Lib.hid hbw
            clear hbw
            go_wp2_with fail
            refine (cV.out _).mono ?_
            rintro e w1 ⟨rfl, b1⟩
            have Hb1 := Lib.hid (Hbw.out.trans (b1.mono Hbw.out.size))
            clear b1
            go_wp2
            go_roundw
            case rel =>
              refine ⟨k + 1, by omega, by go_num, ?_, Hb1.out⟩
              unfold RowKit.Hid
              rw [HT.out, List.all_append, HS.out]
              simp [HSm.out]
            case measure => simp [intOf]; omega
      · have hke : k = n := by omega
        obtain rfl : b = true := by
          rw [← HB.out]
          unfold smallB
          have h1 := HS.out
          rw [hke, ← HN.out, List.take_length] at h1
          rw [h1, decide_eq_true (by have := HN.out; omega)]
          rfl
        have Hbw := Lib.hid hbw
        clear hbw
        go_wp2
        go_ret
        exact ⟨rfl, Hbw.out⟩

theorem SL_one (w : World) (s : ByteArray) : SL (.slice (some ⟨w.heap.size, 0, none⟩) 1 1) [s] (w.alloc (.cells #[.string s] 9)) := by
  refine ⟨_, 1, rfl, by simp, fun i x hi => ⟨w.heap.size, 0, rfl, by simp, ?_⟩⟩
  match i, hi with
  | 0, hi => simp at hi; subst hi; simp
  | (i + 1), hi => simp at hi
theorem SL_two (w : World) (s t : ByteArray) : SL (.slice (some ⟨w.heap.size, 0, none⟩) 2 2) [s, t] (w.alloc (.cells #[.string s, .string t] 9)) := by
  refine ⟨_, 2, rfl, by simp, fun i x hi => ⟨w.heap.size, 0, rfl, by simp, ?_⟩⟩
  match i, hi with
  | 0, hi => simp at hi; subst hi; simp
  | 1, hi => simp at hi; subst hi; simp
  | (i + 2), hi => simp at hi
/-- A small string is a text of at most three hundred characters. -/
theorem smallS_text {s : ByteArray} (h : smallS s = true) : ∃ cs, OKs cs ∧ s = T cs ∧ cs.length ≤ 300 ∧ (T cs).size ≤ 300 := by
  unfold smallS at h
  rw [Bool.and_eq_true] at h
  obtain ⟨h1, h2⟩ := h
  obtain ⟨cs, hc, hs⟩ := text_of h2
  subst hs
  have h3 : (T cs).size ≤ 300 := by simpa using h1
  exact ⟨cs, hc, rfl, Nat.le_trans (len_le cs) h3, h3⟩
end Go.Proofs.YtjfeckccmfbkhaaDoor
