/- Merged: RFoldC, Strs, RFold, RLetter. -/
import Derived.Test.YtfjfpefpdlecbaaGreatDoorQ01
import Derived.Test.YtfjfpefpdlecbaaGreatDoorQ04
import Derived.Laws.AppendOwn
import Derived.Test.YtfjfpefpdlecbaaGreatDoorQ08
namespace Go.Proofs.YtfjfpefpdlecbaaGreatDoor

section
open Go.RowKit
/-- What the reference's fold returns: nothing for a character that stays. -/
def ff (c : Nat) : List Nat := if 65 ≤ c ∧ c ≤ 90 then [c + 32] else if c < 192 ∨ 255 < c ∨ c = 215 ∨ c = 247 then [] else accL.getD (c - 192) []

theorem ff_fold (c : Nat) : foldc c = if ff c = [] then [c] else ff c := by
  by_cases h : c < 256
  · have : ∀ i : Fin 256, foldc i.val = if ff i.val = [] then [i.val] else ff i.val := by decide +kernel
    exact this ⟨c, h⟩
  · have e1 : foldc c = [c] := by unfold foldc; rw [if_neg (by omega), if_neg (by omega)]
    have e2 : ff c = [] := by unfold ff; rw [if_neg (by omega), if_pos (by omega)]
    rw [e1, e2]; rfl

theorem ret_string {a b : ByteArray} (h : a = b) : Ending.returned (.string a) = .returned (.string b) := by rw [h]

set_option maxHeartbeats 8000000 in
theorem refFold_low (c : Nat) (h : 65 ≤ c ∧ c ≤ 90) (w : World) :
    Calls Tryz.prog 144 #[.int .i64 (c : Int)] w fun e w' => e = .returned (.string (T (ff c))) ∧ w = w' := by
  have hc : c = 65 ∨ c = 66 ∨ c = 67 ∨ c = 68 ∨ c = 69 ∨ c = 70 ∨ c = 71 ∨ c = 72 ∨ c = 73 ∨ c = 74 ∨ c = 75 ∨ c = 76 ∨ c = 77 ∨ c = 78 ∨ c = 79 ∨ c = 80 ∨ c = 81 ∨ c = 82 ∨ c = 83 ∨ c = 84 ∨ c = 85 ∨ c = 86 ∨ c = 87 ∨ c = 88 ∨ c = 89 ∨ c = 90 := by omega
  clear h
  rcases hc with rfl | rfl | rfl | rfl | rfl | rfl | rfl | rfl | rfl | rfl | rfl | rfl | rfl | rfl | rfl | rfl | rfl | rfl | rfl | rfl | rfl | rfl | rfl | rfl | rfl | rfl
  all_goals
    go_enter Tryz.func144, Tryz.ntmps144
    go_wp2
    go_ret
    exact ⟨ret_string (by kernel_rfl), rfl⟩

set_option maxHeartbeats 8000000 in
theorem refFold_high (c : Nat) (h : 192 ≤ c ∧ c ≤ 255) (w : World) :
    Calls Tryz.prog 144 #[.int .i64 (c : Int)] w fun e w' => e = .returned (.string (T (ff c))) ∧ w = w' := by
  have hc : c = 192 ∨ c = 193 ∨ c = 194 ∨ c = 195 ∨ c = 196 ∨ c = 197 ∨ c = 198 ∨ c = 199 ∨ c = 200 ∨ c = 201 ∨ c = 202 ∨ c = 203 ∨ c = 204 ∨ c = 205 ∨ c = 206 ∨ c = 207 ∨ c = 208 ∨ c = 209 ∨ c = 210 ∨ c = 211 ∨ c = 212 ∨ c = 213 ∨ c = 214 ∨ c = 215 ∨ c = 216 ∨ c = 217 ∨ c = 218 ∨ c = 219 ∨ c = 220 ∨ c = 221 ∨ c = 222 ∨ c = 223 ∨ c = 224 ∨ c = 225 ∨ c = 226 ∨ c = 227 ∨ c = 228 ∨ c = 229 ∨ c = 230 ∨ c = 231 ∨ c = 232 ∨ c = 233 ∨ c = 234 ∨ c = 235 ∨ c = 236 ∨ c = 237 ∨ c = 238 ∨ c = 239 ∨ c = 240 ∨ c = 241 ∨ c = 242 ∨ c = 243 ∨ c = 244 ∨ c = 245 ∨ c = 246 ∨ c = 247 ∨ c = 248 ∨ c = 249 ∨ c = 250 ∨ c = 251 ∨ c = 252 ∨ c = 253 ∨ c = 254 ∨ c = 255 := by omega
  clear h
  rcases hc with rfl | rfl | rfl | rfl | rfl | rfl | rfl | rfl | rfl | rfl | rfl | rfl | rfl | rfl | rfl | rfl | rfl | rfl | rfl | rfl | rfl | rfl | rfl | rfl | rfl | rfl | rfl | rfl | rfl | rfl | rfl | rfl | rfl | rfl | rfl | rfl | rfl | rfl | rfl | rfl | rfl | rfl | rfl | rfl | rfl | rfl | rfl | rfl | rfl | rfl | rfl | rfl | rfl | rfl | rfl | rfl | rfl | rfl | rfl | rfl | rfl | rfl | rfl | rfl
  all_goals
    go_enter Tryz.func144, Tryz.ntmps144
    go_wp2
    go_ret
    exact ⟨ret_string (by kernel_rfl), rfl⟩

set_option maxHeartbeats 4000000 in
theorem refFold_none (c : Nat) (hc : c ≤ 1114111) (h : c < 65 ∨ (90 < c ∧ c < 192) ∨ 255 < c) (w : World) :
    Calls Tryz.prog 144 #[.int .i64 (c : Int)] w fun e w' => e = .returned (.string (T (ff c))) ∧ w = w' := by
  have e0 : T (ff c) = ⟨#[]⟩ := by
    unfold ff
    rw [if_neg (by omega), if_pos (by omega)]
    rfl
  rw [e0]
  clear e0
  rcases h with h | ⟨h1, h2⟩ | h
  · have d1 : decide ((65 : Int) ≤ (c : Int)) = false := by simp; omega
    have d2 : decide ((c : Int) < 192) = true := by simp; omega
    go_enter Tryz.func144, Tryz.ntmps144
    go_wp2
    go_ret
    exact ⟨rfl, rfl⟩
  · have d1 : decide ((65 : Int) ≤ (c : Int)) = true := by simp; omega
    have d3 : decide ((c : Int) ≤ 90) = false := by simp; omega
    have d2 : decide ((c : Int) < 192) = true := by simp; omega
    go_enter Tryz.func144, Tryz.ntmps144
    go_wp2
    go_ret
    exact ⟨rfl, rfl⟩
  · have d1 : decide ((65 : Int) ≤ (c : Int)) = true := by simp; omega
    have d3 : decide ((c : Int) ≤ 90) = false := by simp; omega
    have d2 : decide ((c : Int) < 192) = false := by simp; omega
    have d4 : decide ((255 : Int) < (c : Int)) = true := by simp; omega
    go_enter Tryz.func144, Tryz.ntmps144
    go_wp2
    go_ret
    exact ⟨rfl, rfl⟩

theorem refFold_any (c : Nat) (hc : c ≤ 1114111) (w : World) :
    Calls Tryz.prog 144 #[.int .i64 (c : Int)] w fun e w' => e = .returned (.string (T (ff c))) ∧ w = w' := by
  by_cases h1 : 65 ≤ c ∧ c ≤ 90
  · exact refFold_low c h1 w
  by_cases h2 : 192 ≤ c ∧ c ≤ 255
  · exact refFold_high c h2 w
  · exact refFold_none c hc (by omega) w

theorem accL_len : ∀ i : Fin 64, (accL.getD i.val []).length ≤ 2 := by decide

theorem ff_len (c : Nat) : (ff c).length ≤ 2 := by
  unfold ff
  split
  · simp
  · split
    · simp
    · have := accL_len ⟨c - 192, by omega⟩
      exact this
end

section
open Go.RowKit
def strV (x : List Nat) : Value := .string (T x)

/-- A slice of strings in memory from block B on: these words. -/
abbrev Strs (B : Nat) (v : Value) (ws : List (List Nat)) (w : World) : Prop := w.ownsRow B 9 1 v ws.length (ws.map strV)

theorem infoStr : (Tryz.prog.info? 9).map (fun i => (i.zero, i.size, i.bytes)) = some (some (.string ⟨#[]⟩), 1, 16) := by kernel_rfl

theorem ownsRow_iterAt {w : World} {B e size n : Nat} {v : Value} {xs : List Value} (h : w.ownsRow B e size v n xs) {k : Nat} (hk : k < B) (s : ByteArray) (p : Nat) : (w.iterAt k s p).ownsRow B e size v n xs := by
  refine ⟨h.1, ?_⟩
  rcases h.2 with hn | ⟨g, cap, cur, hv, hb, hg, rest⟩
  · exact .inl hn
  · exact .inr ⟨g, cap, cur, hv, hb, (Lib.iterAt_other w k g s p (by omega)).trans hg, rest⟩

/-- A slice of strings, opened. -/
theorem Strs.open {B : Nat} {v : Value} {ws : List (List Nat)} {w : World} (h : Strs B v ws w) (hne : ws ≠ []) :
    ∃ g cap, v = .slice (some ⟨g, 0, none⟩) ws.length cap ∧ B ≤ g ∧ g < w.heap.size ∧ ws.length ≤ cap ∧ cap ≤ maxLen ∧ ∀ i (hi : i < ws.length), w.cell? ⟨g, i, none⟩ = some (.string (T ws[i])) := by
  rcases h.2 with ⟨_, h0⟩ | ⟨g, cap, cur, rfl, hb, hg, hc, hm, hs, ht⟩
  · exact absurd (List.eq_nil_of_length_eq_zero h0) hne
  · refine ⟨g, cap, rfl, hb, (Array.getElem?_eq_some_iff.1 hg).1, hc, hm, fun i hi => ?_⟩
    have := h.cells (g := g) rfl i (.string (T ws[i])) (by simp [strV, hi])
    have hadd : (⟨g, 0, none⟩ : Addr).add i = ⟨g, i, none⟩ := by unfold Addr.add; split <;> simp_all
    rwa [hadd] at this

theorem Strs.form {B : Nat} {v : Value} {ws : List (List Nat)} {w : World} (h : Strs B v ws w) : ∃ ao cap, v = .slice ao ws.length cap := by
  rcases h.2 with ⟨hv, h0⟩ | ⟨g, cap, cur, hv, _⟩
  · exact ⟨none, 0, by rw [hv, h0]⟩
  · exact ⟨_, _, hv⟩

theorem Strs.below {B B' : Nat} {v : Value} {ws : List (List Nat)} {w w' : World} (h : Strs B v ws w) (hb : Below B' w w') (hB : w.heap.size ≤ B') : Strs B v ws w' := by
  refine ⟨h.1, ?_⟩
  rcases h.2 with hn | ⟨g, cap, cur, hv, hB', hg, rest⟩
  · exact .inl hn
  · have hlt : g < w.heap.size := (Array.getElem?_eq_some_iff.1 hg).1
    exact .inr ⟨g, cap, cur, hv, hB', (hb.block g (by omega)).trans hg, rest⟩

theorem Strs.after {B : Nat} {v : Value} {ws : List (List Nat)} {w w' : World} (h : Strs B v ws w) (hb : Below w.heap.size w w') : Strs B v ws w' := h.below hb (Nat.le_refl _)

theorem cut_T (cs : List Nat) (k : Nat) (hk : k < cs.length) : (T cs).extract (off cs k) (off cs (k + 1)) = T [cs[k]] := by
  rw [extract_T]
  congr 1
  rw [List.take_succ_eq_append_getElem hk, List.drop_append_of_le_length (by rw [List.length_take]; omega), List.drop_eq_nil_of_le (by rw [List.length_take]; omega)]
  rfl

theorem T_append (a b : List Nat) : T a ++ T b = T (a ++ b) := by
  apply eq_T
  rw [ByteArray.data_append, Array.toList_append, T_list, T_list, enc_append]

theorem T_bound (a : List Nat) : (T a).size ≤ 4 * a.length := by rw [T_size]; exact enc_le a

theorem T_facts (x : List Nat) (h : x ≠ []) : (T x).toList.isEmpty = false ∧ ¬ (T x).toList = [] := by
  have h1 : 0 < (T x).size := by
    rcases Nat.eq_zero_or_pos (T x).size with h0 | h0
    · exact absurd ((T_size_zero x).1 h0) h
    · exact h0
  have h2 : (T x).toList = enc x := by
    rw [← T_list]
    exact ByteArray.toList_eq _
  have h3 : ¬ enc x = [] := by
    intro h0
    rw [T_size, h0] at h1
    exact absurd h1 (by simp)
  rw [h2]
  refine ⟨?_, h3⟩
  cases he : enc x with
  | nil => exact absurd he h3
  | cons _ _ => rfl
end

section
open Go.RowKit
theorem foldL_len_take' (cs : List Nat) (j : Nat) : (foldL (cs.take j)).length ≤ 2 * j := by
  have h1 := fold_len (cs.take j)
  have h2 : (cs.take j).length ≤ j := List.length_take_le _ _
  omega

set_option maxHeartbeats 4000000 in
theorem refFoldL_any (cs : List Nat) (h : OKs cs) (s t : ByteArray) (hs : s = T cs) (hz : s.size ≤ 1000000) (ht : T (foldL cs) = t) (w : World) :
    Calls Tryz.prog 92 #[.string s] w fun e w' => e = .returned (.string t) ∧ Below w.heap.size w w' := by
  subst hs
  have hll := len_le cs
  have HTT := Lib.hid ht
  clear ht
  have HH := Lib.hid h
  clear h
  go_enter Tryz.func92, Tryz.ntmps92
  go_wp2
  go_loopw [3, 4] (fun o i wr => ∃ k : Nat, k ≤ cs.length ∧ o = .string (T (foldL (cs.take k))) ∧ i = .int .i64 (off cs k) ∧ Below w.heap.size w wr) (fun _ i _ => (T cs).size - (intOf i).toNat)
  case atStart => exact ⟨0, Nat.zero_le _, rfl, by rw [off_zero]; rfl, Below.refl _ _⟩
  case round =>
    obtain ⟨k, hk, rfl, rfl, hbw⟩ := hrel
    have hsz := hbw.size
    have hole := off_le cs k
    by_cases hlt : k < cs.length
    · have hol := off_lt cs k hlt
      have hoj := off_inj cs k (k + 1) (by omega) (by omega)
      have hole2 := off_le cs (k + 1)
      have hoj2 : off cs k ≤ off cs (k + 1) := by omega
      have HD := Lib.hid (fun W => decode_refT cs HH.out hz k hlt W)
      have HSz := Lib.hid (fun W => size_refT cs HH.out hz k hlt W)
      have hwp := wid_pos cs[k]
      have hok := okc_le (OKs_get HH.out hlt)
      have HOS := Lib.hid (off_succ cs k hlt)
      have HCT := Lib.hid (cut_T cs k hlt)
      have HS := Lib.hid (foldL_take cs k hlt)
      have hl1 := foldL_len_take' cs k
      have hb1 := T_bound (foldL (cs.take k))
      have hb2 := T_bound [cs[k]]
      generalize cs[k] = c at HD HSz hwp HOS hok HS HCT hb2
      have hb3 := T_bound (ff c)
      have hfl := ff_len c
      simp only [List.length_singleton] at hb2
      have s1 : (T (foldL (cs.take k))).size ≤ 8000000 := by omega
      have s2 : (T [c]).size ≤ 4 := by omega
      have s3 : (T (ff c)).size ≤ 8 := by omega
      clear hb1 hb2 hb3 hfl
      have HSUM : RowKit.Hid ((off cs k : Int) + (wid c : Int) = (off cs (k + 1) : Int)) := by unfold RowKit.Hid; have := HOS.out; omega
      by_cases hne : ff c = []
      · have HF : RowKit.Hid (foldc c = [c]) := by unfold RowKit.Hid; rw [ff_fold, if_pos hne]
        have HA := Lib.hid (T_append (foldL (cs.take k)) [c])
        have cF := fun W => refFold_any c (by omega) W
        rw [hne] at cF
        rw [show T [] = ⟨#[]⟩ from rfl] at cF
        have HCF := Lib.hid cF
        clear cF hne s3
        go_wp2_with fail
        refine (HD.out _).mono ?_
        rintro e w1 ⟨rfl, b1⟩
        go_wp2_with fail
        refine (HSz.out _).mono ?_
        rintro e w2 ⟨rfl, b2⟩
        have b3 := (hbw.trans (b1.mono hsz)).trans (b2.mono (Nat.le_trans hsz b1.size))
        clear b1 b2
        go_wp2_with fail
        refine (HCF.out _).mono ?_
        rintro e w3 ⟨rfl, rfl⟩
        have ew : (off cs k : Int) + (wid c : Int) = (off cs (k + 1) : Int) := HSUM.out
        rw [← HCT.out] at s2
        go_wp2
        go_roundw
        case rel =>
          refine ⟨k + 1, by omega, ?_, ?_, b3⟩
          · rw [HS.out, HF.out, HCT.out, HA.out]
          · first | rfl | go_num
        case measure => simp [intOf]; omega
      · have HF : RowKit.Hid (foldc c = ff c) := by unfold RowKit.Hid; rw [ff_fold, if_neg hne]
        have HA := Lib.hid (T_append (foldL (cs.take k)) (ff c))
        obtain ⟨f1, f2⟩ := T_facts _ hne
        have HCF := Lib.hid (fun W => refFold_any c (by omega) W)
        clear hne
        go_wp2_with fail
        refine (HD.out _).mono ?_
        rintro e w1 ⟨rfl, b1⟩
        go_wp2_with fail
        refine (HSz.out _).mono ?_
        rintro e w2 ⟨rfl, b2⟩
        have b3 := (hbw.trans (b1.mono hsz)).trans (b2.mono (Nat.le_trans hsz b1.size))
        clear b1 b2
        go_wp2_with fail
        refine (HCF.out _).mono ?_
        rintro e w3 ⟨rfl, rfl⟩
        have ew : (off cs k : Int) + (wid c : Int) = (off cs (k + 1) : Int) := HSUM.out
        go_wp2
        go_roundw
        case rel =>
          refine ⟨k + 1, by omega, ?_, ?_, b3⟩
          · rw [HS.out, HF.out, HA.out]
          · first | rfl | go_num
        case measure => simp [intOf]; omega
    · obtain rfl : k = cs.length := by omega
      have hof := T_off cs
      have hnl : ¬ (off cs cs.length < (T cs).size) := by omega
      clear hof
      have htl : cs.take cs.length = cs := List.take_length
      rw [htl]
      clear htl
      go_wp2
      go_ret
      refine ⟨?_, hbw⟩
      rw [← HTT.out]
      rfl
end

section
open Go.RowKit
set_option maxHeartbeats 1000000 in
theorem refLetter_any (c : Nat) (hc : c ≤ 1114111) (b : Bool) (hb : letterc c = b) (w : World) :
    Calls Tryz.prog 95 #[.int .i64 (c : Int)] w fun e w' => e = .returned (.bool b) ∧ w = w' := by
  have H := Lib.hid hb
  clear hb
  by_cases h6 : 256 ≤ c
  · obtain rfl : b = true := by have := H.out; rw [← this]; simp [letterc, h6]
    have d1 : decide ((97 : Int) ≤ (c : Int)) = true := by simp; omega
    have d2 : decide ((c : Int) ≤ 122) = false := by simp; omega
    have d3 : decide ((48 : Int) ≤ (c : Int)) = true := by simp; omega
    have d4 : decide ((c : Int) ≤ 57) = false := by simp; omega
    have d5 : decide ((256 : Int) ≤ (c : Int)) = true := by simp; omega
    clear H h6
    go_enter Tryz.func95, Tryz.ntmps95
    go_wp2
    go_ret
    exact ⟨rfl, rfl⟩
  · have d5 : decide ((256 : Int) ≤ (c : Int)) = false := by simp; omega
    by_cases h1 : 97 ≤ c
    · have d1 : decide ((97 : Int) ≤ (c : Int)) = true := by simp; omega
      by_cases h2 : c ≤ 122
      · obtain rfl : b = true := by have := H.out; rw [← this]; simp [letterc, h1, h2]
        have d2 : decide ((c : Int) ≤ 122) = true := by simp; omega
        clear H h1 h2 h6
        go_enter Tryz.func95, Tryz.ntmps95
        go_wp2
        go_ret
        exact ⟨rfl, rfl⟩
      · obtain rfl : b = false := by have := H.out; rw [← this]; simp [letterc, h2]; omega
        have d2 : decide ((c : Int) ≤ 122) = false := by simp; omega
        have d3 : decide ((48 : Int) ≤ (c : Int)) = true := by simp; omega
        have d4 : decide ((c : Int) ≤ 57) = false := by simp; omega
        clear H h1 h2 h6
        go_enter Tryz.func95, Tryz.ntmps95
        go_wp2
        go_ret
        exact ⟨rfl, rfl⟩
    · have d1 : decide ((97 : Int) ≤ (c : Int)) = false := by simp; omega
      by_cases h3 : 48 ≤ c
      · have d3 : decide ((48 : Int) ≤ (c : Int)) = true := by simp; omega
        by_cases h4 : c ≤ 57
        · obtain rfl : b = true := by have := H.out; rw [← this]; simp [letterc, h3, h4]
          have d4 : decide ((c : Int) ≤ 57) = true := by simp; omega
          clear H h1 h3 h4 h6
          go_enter Tryz.func95, Tryz.ntmps95
          go_wp2
          go_ret
          exact ⟨rfl, rfl⟩
        · obtain rfl : b = false := by have := H.out; rw [← this]; simp [letterc, h4]; omega
          have d4 : decide ((c : Int) ≤ 57) = false := by simp; omega
          clear H h1 h3 h4 h6
          go_enter Tryz.func95, Tryz.ntmps95
          go_wp2
          go_ret
          exact ⟨rfl, rfl⟩
      · obtain rfl : b = false := by have := H.out; rw [← this]; simp [letterc]; omega
        have d3 : decide ((48 : Int) ≤ (c : Int)) = false := by simp; omega
        clear H h1 h3 h6
        go_enter Tryz.func95, Tryz.ntmps95
        go_wp2
        go_ret
        exact ⟨rfl, rfl⟩
end

end Go.Proofs.YtfjfpefpdlecbaaGreatDoor
