/- The program's Skip over texts of at most ten thousand characters. -/
import Derived.Test.YtjfeckccmfbkhaaDoorShelfB
import Derived.Test.YtjfeckccmfbkhaaDoorCArt
import Derived.Test.YtjfeckccmfbkhaaDoorR02Skip
import Derived.Test.YtjfeckccmfbkhaaDoorTFold
import Derived.Shelf.RegionOpenPlain
import Derived.Lib.TrimByte
namespace Go.Proofs.YtjfeckccmfbkhaaDoor
open Go.RowKit

theorem ib_append (l : List UInt8) (c : UInt8) : ∀ x : List UInt8, (∀ b ∈ x, b ≠ c) → Lib.indexByte (x ++ l) c = if Lib.indexByte l c = -1 then -1 else Lib.indexByte l c + x.length
  | [], _ => by
    simp only [List.nil_append, List.length_nil]
    split
    · rename_i h; exact h
    · simp
  | b :: x, h => by
    have ih := ib_append l c x (fun b hb => h b (List.mem_cons_of_mem _ hb))
    have hb := h b (List.mem_cons_self ..)
    rw [List.cons_append, Lib.indexByte, if_neg (by simpa using hb), ih]
    have hpos : -1 ≤ Lib.indexByte l c := by
      have : ∀ l : List UInt8, -1 ≤ Lib.indexByte l c := by
        intro l
        induction l with
        | nil => simp [Lib.indexByte]
        | cons a l ih =>
          rw [Lib.indexByte]
          split
          · omega
          · split <;> omega
      exact this l
    by_cases h1 : Lib.indexByte l c = -1
    · simp [h1]
    · simp only [if_neg h1]
      have hn : ¬ (Lib.indexByte l c + (x.length : Int) == -1) = true := by simp; omega
      rw [if_neg hn]
      simp only [List.length_cons]
      omega
theorem wordEnd_cons (c : Nat) (cs : List Nat) : wordEnd (c :: cs) = if c = 32 then 0 else wordEnd cs + 1 := by
  unfold wordEnd
  rw [List.takeWhile_cons]
  by_cases h : c = 32 <;> simp [h]
theorem off_cons (c : Nat) (cs : List Nat) (k : Nat) : off (c :: cs) (k + 1) = wid c + off cs k := by
  unfold off wid
  rw [List.take_succ_cons, enc_cons, List.length_append]
theorem rune_no32 (c : Nat) (h : okc c) (hc : c ≠ 32) : ∀ b ∈ Lib.encodeRune (c : Int), b ≠ 32 := by
  intro b hb e
  subst e
  exact hc (rune_32 c h 32 hb rfl)
theorem ib_T (cs : List Nat) : OKs cs → Lib.indexByte (enc cs) 32 = if wordEnd cs < cs.length then ((off cs (wordEnd cs) : Nat) : Int) else -1 := by
  induction cs with
  | nil => intro _; rfl
  | cons c cs ih =>
    intro h
    obtain ⟨h1, h2⟩ := OKs_cons.1 h
    have ih := ih h2
    rw [wordEnd_cons, enc_cons]
    by_cases hc : c = 32
    · subst hc
      rw [if_pos rfl, if_pos (by simp)]
      rw [off_zero]
      rfl
    · rw [if_neg hc, ib_append _ _ _ (rune_no32 c h1 hc), ih]
      simp only [List.length_cons]
      by_cases h3 : wordEnd cs < cs.length
      · rw [if_pos h3, if_neg (show ¬ ((off cs (wordEnd cs) : Nat) : Int) = -1 by omega), if_pos (show wordEnd cs + 1 < cs.length + 1 by omega), off_cons]
        unfold wid
        omega
      · rw [if_neg h3, if_pos rfl, if_neg (show ¬ wordEnd cs + 1 < cs.length + 1 by omega)]
theorem dw_T (cs : List Nat) : OKs cs → (enc cs).dropWhile (· == 32) = enc (cs.dropWhile (· == 32)) := by
  induction cs with
  | nil => intro _; rfl
  | cons c cs ih =>
    intro h
    obtain ⟨h1, h2⟩ := OKs_cons.1 h
    by_cases hc : c = 32
    · subst hc
      have e : enc (32 :: cs) = 32 :: enc cs := by rw [enc_cons]; rfl
      rw [e]
      simp only [List.dropWhile_cons]
      exact ih h2
    · have e2 : (c :: cs).dropWhile (· == 32) = c :: cs := by simp [hc]
      rw [e2, enc_cons]
      have hn := rune_no32 c h1 hc
      have hw := wid_pos c
      unfold wid at hw
      cases hx : Lib.encodeRune (c : Int) with
      | nil => rw [hx] at hw; simp at hw
      | cons b x =>
        have hb := hn b (by rw [hx]; exact List.mem_cons_self ..)
        rw [List.cons_append, List.dropWhile_cons, if_neg (by simpa using hb)]
theorem drop_len (p : Nat → Bool) : ∀ l : List Nat, l.dropWhile p = l.drop (l.takeWhile p).length
  | [] => rfl
  | a :: l => by
    rw [List.dropWhile_cons, List.takeWhile_cons]
    split
    · rw [List.length_cons, List.drop_succ_cons]; exact drop_len p l
    · rfl
theorem left_T (cs : List Nat) (h : OKs cs) (hk : wordEnd cs < cs.length) : (⟨(Lib.trimLeftB (T (cs.drop (wordEnd cs + 1))).data.toList 32).toArray⟩ : ByteArray) = T (cs.drop (blanksEnd cs)) := by
  unfold Lib.trimLeftB
  rw [T_list, dw_T _ (OKs_drop h _)]
  have e : (cs.drop (wordEnd cs + 1)).dropWhile (· == 32) = cs.drop (blanksEnd cs) := by
    have h32 := wordEnd_at cs hk
    have h1 : cs.drop (wordEnd cs) = 32 :: cs.drop (wordEnd cs + 1) := by
      rw [List.drop_eq_getElem_cons hk, h32]
    have h2 : (cs.drop (wordEnd cs)).dropWhile (· == 32) = (cs.drop (wordEnd cs + 1)).dropWhile (· == 32) := by
      rw [h1]; rfl
    rw [← h2, drop_len, List.drop_drop]
    unfold blanksEnd
    rfl
  rw [e]
  rfl

set_option maxHeartbeats 4000000 in
set_option maxRecDepth 1000000 in
theorem cutLite_any (cs : List Nat) (h : OKs cs) (hz : cs.length ≤ 10000) (w : World) (a b : ByteArray) (f : Bool)
    (hc : (wordEnd cs < cs.length ∧ a = T (cs.take (wordEnd cs)) ∧ b = T (cs.drop (wordEnd cs + 1)) ∧ f = true) ∨ (wordEnd cs = cs.length ∧ a = T cs ∧ b = ⟨#[]⟩ ∧ f = false)) :
    Calls Tryd.prog 42 #[.string (T cs), .string ⟨#[32]⟩] w fun e w' => e = .returned (.tuple #[.string a, .string b, .bool f]) ∧ ∃ n, w' = w.drewN n := by
  have mixed : Tryd.prog.follows Departure.mixedOrders = true := by kernel_rfl
  have hTz := T_bound cs
  have hTz2 : (T cs).size ≤ 40000 := by omega
  clear hTz
  have hI := Tryd.stringslite_Index_one (T cs) 32 w
  rw [T_list, ib_T cs h] at hI
  rcases hc with ⟨hk, rfl, rfl, rfl⟩ | ⟨hk, rfl, rfl, rfl⟩
  · rw [if_pos hk] at hI
    have hlt := off_lt cs (wordEnd cs) hk
    have hex := Lib.hid (extract_T0 cs (wordEnd cs))
    have h1 : off cs (wordEnd cs + 1) = off cs (wordEnd cs) + 1 := by
      rw [off_succ cs _ hk, wordEnd_at cs hk]; rfl
    have hex2 : RowKit.Hid ((T cs).extract (off cs (wordEnd cs) + 1) (T cs).size = T (cs.drop (wordEnd cs + 1))) := by
      unfold RowKit.Hid
      have := extract_T cs (wordEnd cs + 1) cs.length
      rwa [T_off, List.take_length, h1] at this
    clear h1 h
    generalize off cs (wordEnd cs) = i at hI hlt hex hex2
    have c1 : (0 : Int) ≤ ↑i := by omega
    have c2 : (↑i : Int) ≤ ↑(T cs).size := by omega
    have c3 : (0 : Int) ≤ ↑i + 1 := by omega
    have c4 : (↑i + 1 : Int) ≤ ↑(T cs).size := by omega
    have c5 : (↑i + 1 : Int).toNat = i + 1 := by omega
    rw [← hex.out, ← hex2.out]
    clear hex hex2 hk
    have HI := Lib.hid hI
    clear hI
    go_enter Tryd.func42, Tryd.ntmps42
    go_wp2_with (go_at_call 63; refine HI.out.mono ?_; rintro e w' ⟨rfl, rfl⟩)
    go_region_o
    go_wp2
    go_ret3
    exact ⟨rfl, 1, rfl⟩
  · rw [if_neg (by omega)] at hI
    have HI := Lib.hid hI
    clear hI hk h
    go_enter Tryd.func42, Tryd.ntmps42
    go_wp2_with (go_at_call 63; refine HI.out.mono ?_; rintro e w' ⟨rfl, rfl⟩)
    go_ret3
    exact ⟨rfl, 0, rfl⟩

set_option maxHeartbeats 4000000 in
theorem cut_any (cs : List Nat) (h : OKs cs) (hz : cs.length ≤ 10000) (w : World) (a b : ByteArray) (f : Bool)
    (hc : (wordEnd cs < cs.length ∧ a = T (cs.take (wordEnd cs)) ∧ b = T (cs.drop (wordEnd cs + 1)) ∧ f = true) ∨ (wordEnd cs = cs.length ∧ a = T cs ∧ b = ⟨#[]⟩ ∧ f = false)) :
    Calls Tryd.prog 27 #[.string (T cs), .string ⟨#[32]⟩] w fun e w' => e = .returned (.tuple #[.string a, .string b, .bool f]) ∧ Below w.heap.size w w' := by
  have HC := Lib.hid (cutLite_any cs h hz w a b f hc)
  clear h hc hz
  go_enter Tryd.func27, Tryd.ntmps27
  go_wp2_with fail
  refine HC.out.mono ?_
  rintro e w' ⟨rfl, n, rfl⟩
  go_wp2
  go_ret3
  exact ⟨rfl, rfl, rfl, rfl, Nat.le_refl _, fun _ _ => rfl⟩

/-- slices.Contains at the articles. -/
theorem contains_any (v : Value) (l : List ByteArray) (x : ByteArray) (w : World) (h : SB v l w) :
    Calls Tryd.prog 29 #[v, .string x] w fun e w' => e = .returned (.bool (l.any fun a => a.toList == x.toList)) ∧ w' = w := by
  have key : ∀ zs : List ByteArray, Lib.containsS zs x = zs.any fun a => a.toList == x.toList := by
    intro zs
    rw [Bool.eq_iff_iff, Lib.containsS_iff, List.any_eq_true]
    constructor
    · intro hx; exact ⟨x, hx, by simp⟩
    · rintro ⟨a, ha, e⟩
      have e1 : a.toList = x.toList := by simpa using e
      rw [ByteArray.toList_eq, ByteArray.toList_eq] at e1
      have e2 : a = x := by
        obtain ⟨⟨a⟩⟩ := a
        obtain ⟨⟨x⟩⟩ := x
        simp only at e1
        rw [e1]
      rw [← e2]; exact ha
  rcases h with ⟨rfl, rfl⟩ | ⟨g, cap, rfl, hc1, hc2, hg, hcell⟩
  · refine (Tryd.slices_Contains_string_empty none 0 x w).mono ?_
    rintro e w' ⟨rfl, hw⟩
    exact ⟨rfl, hw⟩
  · have hcon := Tryd.slices_Contains_string g 0 l.length cap l x w (Nat.le_refl _) (by omega) (fun j hj => by
      rw [Nat.zero_add, hcell j hj]
      simp [List.getD, hj])
    rw [List.take_length, key] at hcon
    exact hcon
end Go.Proofs.YtjfeckccmfbkhaaDoor
