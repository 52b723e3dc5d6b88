/- Merged: TLetter, Strs. -/
import Derived.Test.YtjfbbpppdlaapaaDoorQ01
import Derived.Test.YtjfbbpppdlaapaaDoorQ02
import Derived.Laws.AppendOwn
namespace Go.Proofs.YtjfbbpppdlaapaaDoor

section
open Go.RowKit
set_option maxHeartbeats 1000000 in
theorem letter_any (c : Nat) (hc : c ≤ 1114111) (b : Bool) (hb : letterc c = b) (w : World) :
    Calls Tryd.prog 55 #[.int .i32 (c : Int)] w fun e w' => e = .returned (.bool b) ∧ w = w' := by
  have H := Lib.hid hb
  clear hb
  by_cases h6 : 256 ≤ c
  · obtain rfl : b = true := by have := H.out; rw [← this]; simp [letterc, h6]
    have d1 : decide ((97 : Int) ≤ (c : Int)) = true := by simp; omega
    have d2 : decide ((c : Int) ≤ 122) = false := by simp; omega
    have d3 : decide ((48 : Int) ≤ (c : Int)) = true := by simp; omega
    have d4 : decide ((c : Int) ≤ 57) = false := by simp; omega
    have d5 : decide ((256 : Int) ≤ (c : Int)) = true := by simp; omega
    clear H h6
    go_enter Tryd.func55, Tryd.ntmps55
    go_wp2
    go_ret
    exact ⟨rfl, rfl⟩
  · have d5 : decide ((256 : Int) ≤ (c : Int)) = false := by simp; omega
    by_cases h1 : 97 ≤ c
    · have d1 : decide ((97 : Int) ≤ (c : Int)) = true := by simp; omega
      by_cases h2 : c ≤ 122
      · obtain rfl : b = true := by have := H.out; rw [← this]; simp [letterc, h1, h2]
        have d2 : decide ((c : Int) ≤ 122) = true := by simp; omega
        clear H h1 h2 h6
        go_enter Tryd.func55, Tryd.ntmps55
        go_wp2
        go_ret
        exact ⟨rfl, rfl⟩
      · obtain rfl : b = false := by have := H.out; rw [← this]; simp [letterc, h2]; omega
        have d2 : decide ((c : Int) ≤ 122) = false := by simp; omega
        have d3 : decide ((48 : Int) ≤ (c : Int)) = true := by simp; omega
        have d4 : decide ((c : Int) ≤ 57) = false := by simp; omega
        clear H h1 h2 h6
        go_enter Tryd.func55, Tryd.ntmps55
        go_wp2
        go_ret
        exact ⟨rfl, rfl⟩
    · have d1 : decide ((97 : Int) ≤ (c : Int)) = false := by simp; omega
      by_cases h3 : 48 ≤ c
      · have d3 : decide ((48 : Int) ≤ (c : Int)) = true := by simp; omega
        by_cases h4 : c ≤ 57
        · obtain rfl : b = true := by have := H.out; rw [← this]; simp [letterc, h3, h4]
          have d4 : decide ((c : Int) ≤ 57) = true := by simp; omega
          clear H h1 h3 h4 h6
          go_enter Tryd.func55, Tryd.ntmps55
          go_wp2
          go_ret
          exact ⟨rfl, rfl⟩
        · obtain rfl : b = false := by have := H.out; rw [← this]; simp [letterc, h4]; omega
          have d4 : decide ((c : Int) ≤ 57) = false := by simp; omega
          clear H h1 h3 h4 h6
          go_enter Tryd.func55, Tryd.ntmps55
          go_wp2
          go_ret
          exact ⟨rfl, rfl⟩
      · obtain rfl : b = false := by have := H.out; rw [← this]; simp [letterc]; omega
        have d3 : decide ((48 : Int) ≤ (c : Int)) = false := by simp; omega
        clear H h1 h3 h6
        go_enter Tryd.func55, Tryd.ntmps55
        go_wp2
        go_ret
        exact ⟨rfl, rfl⟩
end

section
open Go.RowKit
def strV (x : List Nat) : Value := .string (T x)

/-- A slice of strings in memory from block B on: these words. -/
abbrev Strs (B : Nat) (v : Value) (ws : List (List Nat)) (w : World) : Prop := w.ownsRow B 9 1 v ws.length (ws.map strV)

theorem infoStr : (Tryd.prog.info? 9).map (fun i => (i.zero, i.size, i.bytes)) = some (some (.string ⟨#[]⟩), 1, 16) := by kernel_rfl

theorem ownsRow_iterAt {w : World} {B e size n : Nat} {v : Value} {xs : List Value} (h : w.ownsRow B e size v n xs) {k : Nat} (hk : k < B) (s : ByteArray) (p : Nat) : (w.iterAt k s p).ownsRow B e size v n xs := by
  refine ⟨h.1, ?_⟩
  rcases h.2 with hn | ⟨g, cap, cur, hv, hb, hg, rest⟩
  · exact .inl hn
  · exact .inr ⟨g, cap, cur, hv, hb, (Lib.iterAt_other w k g s p (by omega)).trans hg, rest⟩

/-- A slice of strings, opened. -/
theorem Strs.open {B : Nat} {v : Value} {ws : List (List Nat)} {w : World} (h : Strs B v ws w) (hne : ws ≠ []) :
    ∃ g cap, v = .slice (some ⟨g, 0, none⟩) ws.length cap ∧ B ≤ g ∧ g < w.heap.size ∧ ws.length ≤ cap ∧ cap ≤ maxLen ∧ ∀ i (hi : i < ws.length), w.cell? ⟨g, i, none⟩ = some (.string (T ws[i])) := by
  rcases h.2 with ⟨_, h0⟩ | ⟨g, cap, cur, rfl, hb, hg, hc, hm, hs, ht⟩
  · exact absurd (List.eq_nil_of_length_eq_zero h0) hne
  · refine ⟨g, cap, rfl, hb, (Array.getElem?_eq_some_iff.1 hg).1, hc, hm, fun i hi => ?_⟩
    have := h.cells (g := g) rfl i (.string (T ws[i])) (by simp [strV, hi])
    have hadd : (⟨g, 0, none⟩ : Addr).add i = ⟨g, i, none⟩ := by unfold Addr.add; split <;> simp_all
    rwa [hadd] at this

theorem Strs.form {B : Nat} {v : Value} {ws : List (List Nat)} {w : World} (h : Strs B v ws w) : ∃ ao cap, v = .slice ao ws.length cap := by
  rcases h.2 with ⟨hv, h0⟩ | ⟨g, cap, cur, hv, _⟩
  · exact ⟨none, 0, by rw [hv, h0]⟩
  · exact ⟨_, _, hv⟩

theorem Strs.below {B B' : Nat} {v : Value} {ws : List (List Nat)} {w w' : World} (h : Strs B v ws w) (hb : Below B' w w') (hB : w.heap.size ≤ B') : Strs B v ws w' := by
  refine ⟨h.1, ?_⟩
  rcases h.2 with hn | ⟨g, cap, cur, hv, hB', hg, rest⟩
  · exact .inl hn
  · have hlt : g < w.heap.size := (Array.getElem?_eq_some_iff.1 hg).1
    exact .inr ⟨g, cap, cur, hv, hB', (hb.block g (by omega)).trans hg, rest⟩

theorem Strs.after {B : Nat} {v : Value} {ws : List (List Nat)} {w w' : World} (h : Strs B v ws w) (hb : Below w.heap.size w w') : Strs B v ws w' := h.below hb (Nat.le_refl _)

theorem cut_T (cs : List Nat) (k : Nat) (hk : k < cs.length) : (T cs).extract (off cs k) (off cs (k + 1)) = T [cs[k]] := by
  rw [extract_T]
  congr 1
  rw [List.take_succ_eq_append_getElem hk, List.drop_append_of_le_length (by rw [List.length_take]; omega), List.drop_eq_nil_of_le (by rw [List.length_take]; omega)]
  rfl

theorem T_append (a b : List Nat) : T a ++ T b = T (a ++ b) := by
  apply eq_T
  rw [ByteArray.data_append, Array.toList_append, T_list, T_list, enc_append]

theorem T_bound (a : List Nat) : (T a).size ≤ 4 * a.length := by rw [T_size]; exact enc_le a

theorem T_facts (x : List Nat) (h : x ≠ []) : (T x).toList.isEmpty = false ∧ ¬ (T x).toList = [] := by
  have h1 : 0 < (T x).size := by
    rcases Nat.eq_zero_or_pos (T x).size with h0 | h0
    · exact absurd ((T_size_zero x).1 h0) h
    · exact h0
  have h2 : (T x).toList = enc x := by
    rw [← T_list]
    exact ByteArray.toList_eq _
  have h3 : ¬ enc x = [] := by
    intro h0
    rw [T_size, h0] at h1
    exact absurd h1 (by simp)
  rw [h2]
  refine ⟨?_, h3⟩
  cases he : enc x with
  | nil => exact absurd he h3
  | cons _ _ => rfl
end

end Go.Proofs.YtjfbbpppdlaapaaDoor
