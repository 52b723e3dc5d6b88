/- libraryref02.Skip over texts of at most ten thousand characters. -/
import Derived.Test.YtjfeckccmfbkhaaDoorR02Art
import Derived.Test.YtjfeckccmfbkhaaDoorRFold
import Derived.PlainAid
namespace Go.Proofs.YtjfeckccmfbkhaaDoor
open Go.RowKit Go.PlainAid

theorem bt_T (cs : List Nat) (i : Nat) : bt (T cs) i = (((enc cs).getD i 0).toNat : Int) := by
  unfold bt
  split
  · rename_i h
    have h' : i < (enc cs).length := by rwa [T_size] at h
    have e : (T cs)[i]'h = (enc cs)[i]'h' := by
      show (T cs).data[i] = _
      simp [T]
    rw [e]
    simp [List.getD, h']
  · rename_i h
    rw [T_size] at h
    simp [List.getD, show ¬ i < (enc cs).length from h]
/-- A byte of a character is a blank only in a blank. -/
theorem rune_32 (c : Nat) (h : okc c) : ∀ b ∈ Lib.encodeRune (c : Int), b.toNat = 32 → c = 32 := by
  intro b hb h32
  unfold Lib.encodeRune at hb
  unfold okc at h
  by_cases h1 : c ≤ 127
  · rw [Lib.encodeRuneZ_one (by omega) (by omega)] at hb
    simp at hb
    subst hb
    simp at h32
    omega
  by_cases h2 : c ≤ 2047
  · rw [Lib.encodeRuneZ_two (by omega) (by omega)] at hb
    have e0 := toByteNat (192 + (c : Int) / 64) (by omega) (by omega)
    have e1 := toByteNat (128 + (c : Int) % 64) (by omega) (by omega)
    simp only [List.map_cons, List.map_nil, List.mem_cons, List.not_mem_nil, or_false] at hb
    rcases hb with rfl | rfl
    · rw [e0] at h32; omega
    · rw [e1] at h32; omega
  · rw [Lib.encodeRuneZ_three (by omega)] at hb
    have e0 := toByteNat (224 + (c : Int) / 4096) (by omega) (by omega)
    have e1 := toByteNat (128 + (c : Int) / 64 % 64) (by omega) (by omega)
    have e2 := toByteNat (128 + (c : Int) % 64) (by omega) (by omega)
    simp only [List.map_cons, List.map_nil, List.mem_cons, List.not_mem_nil, or_false] at hb
    rcases hb with rfl | rfl | rfl
    · rw [e0] at h32; omega
    · rw [e1] at h32; omega
    · rw [e2] at h32; omega
theorem enc_32 (cs : List Nat) (h : OKs cs) : ∀ b ∈ enc cs, b.toNat = 32 → 32 ∈ cs := by
  intro b hb h32
  unfold enc at hb
  obtain ⟨c, hc, hb'⟩ := List.mem_flatMap.1 hb
  rw [← rune_32 c (h c hc) b hb' h32]
  exact hc
/-- The byte at a character's place is a blank exactly if the character is one. -/
theorem bt_at (cs : List Nat) (h : OKs cs) (j : Nat) (hj : j < cs.length) : bt (T cs) (off cs j) = 32 ↔ cs[j] = 32 := by
  have hw := wid_pos cs[j]
  have e : (enc cs).getD (off cs j) 0 = (Lib.encodeRune (cs[j] : Int)).getD 0 0 := by
    have h1 := drop_T cs j
    rw [T_list, List.drop_eq_getElem_cons hj, enc_cons] at h1
    have h2 := congrArg (fun l => l.getD 0 0) h1
    simp only [List.getD, List.getElem?_drop, Nat.add_zero] at h2
    simp only [List.getD, h2]
    rw [List.getElem?_append_left (by unfold wid at hw; omega)]
  rw [bt_T, e]
  have hmem : (Lib.encodeRune (cs[j] : Int)).getD 0 0 ∈ Lib.encodeRune (cs[j] : Int) := by
    unfold wid at hw
    simp only [List.getD]
    rw [List.getElem?_eq_getElem (by omega)]
    exact List.getElem_mem _
  constructor
  · intro h0
    exact rune_32 cs[j] (OKs_get h hj) _ hmem (by omega)
  · intro h0
    rw [h0]
    decide
theorem bt_before (cs : List Nat) (h : OKs cs) (k : Nat) (hk : 32 ∉ cs.take k) (i : Nat) (hi : i < off cs k) : bt (T cs) i ≠ 32 := by
  intro h0
  rw [bt_T] at h0
  have hi' : i < (enc (cs.take k)).length := hi
  have e : (enc cs).getD i 0 = (enc (cs.take k))[i] := by
    rw [enc_take_drop cs k]
    simp only [List.getD]
    rw [List.getElem?_append_left hi', List.getElem?_eq_getElem hi']
    rfl
  rw [e] at h0
  exact hk (enc_32 _ (OKs_take h k) _ (List.getElem_mem hi') (by omega))

/-- Where the first word ends. -/
def wordEnd (cs : List Nat) : Nat := (cs.takeWhile (· != 32)).length
/-- Where the blanks behind it end. -/
def blanksEnd (cs : List Nat) : Nat := wordEnd cs + ((cs.drop (wordEnd cs)).takeWhile (· == 32)).length
/-- A title without its article. -/
def skipL (lang : ByteArray) (cs : List Nat) : List Nat :=
  if isArt lang (T (foldL (cs.take (wordEnd cs)))) = true ∧ blanksEnd cs ≠ cs.length then cs.drop (blanksEnd cs) else cs

theorem tw_len (p : Nat → Bool) : ∀ l : List Nat, (l.takeWhile p).length ≤ l.length ∧ (∀ i (hi : i < l.length), i < (l.takeWhile p).length → p l[i] = true) ∧ (∀ (hi : (l.takeWhile p).length < l.length), p (l[(l.takeWhile p).length]) = false)
  | [] => by simp
  | c :: l => by
    obtain ⟨h1, h2, h3⟩ := tw_len p l
    cases hp : p c
    · simp [hp]
    · simp only [List.takeWhile_cons, hp, if_true, List.length_cons]
      refine ⟨by omega, fun i hi hlt => ?_, fun hi => ?_⟩
      · cases i with
        | zero => exact hp
        | succ i => exact h2 i (by simpa using hi) (by omega)
      · exact h3 (by omega)
theorem wordEnd_le (cs : List Nat) : wordEnd cs ≤ cs.length := (tw_len _ cs).1
theorem wordEnd_no (cs : List Nat) : 32 ∉ cs.take (wordEnd cs) := by
  intro h
  obtain ⟨i, hi, e⟩ := List.getElem_of_mem h
  rw [List.length_take] at hi
  have := (tw_len (· != 32) cs).2.1 i (by omega) (by unfold wordEnd at hi; omega)
  rw [List.getElem_take] at e
  rw [e] at this
  cases this
theorem wordEnd_at (cs : List Nat) (h : wordEnd cs < cs.length) : cs[wordEnd cs] = 32 := by
  have h2 : (cs[wordEnd cs] != 32) = false := (tw_len (· != 32) cs).2.2 h
  simpa using h2
theorem blanksEnd_facts (cs : List Nat) : wordEnd cs ≤ blanksEnd cs ∧ blanksEnd cs ≤ cs.length ∧ (∀ i (hi : i < cs.length), wordEnd cs ≤ i → i < blanksEnd cs → cs[i] = 32) ∧ (∀ hi : blanksEnd cs < cs.length, cs[blanksEnd cs] ≠ 32) := by
  have h0 := wordEnd_le cs
  obtain ⟨h1, h2, h3⟩ := tw_len (· == 32) (cs.drop (wordEnd cs))
  rw [List.length_drop] at h1
  unfold blanksEnd
  refine ⟨by omega, by omega, fun i hi hw hlt => ?_, fun hi => ?_⟩
  · have := h2 (i - wordEnd cs) (by rw [List.length_drop]; omega) (by omega)
    rw [List.getElem_drop] at this
    simp only [show wordEnd cs + (i - wordEnd cs) = i by omega] at this
    simpa using this
  · have := h3 (by rw [List.length_drop]; omega)
    rw [List.getElem_drop] at this
    simpa using this

set_option maxHeartbeats 8000000 in
theorem refSkip_any (lang : ByteArray) (cs : List Nat) (h : OKs cs) (s t : ByteArray) (hs : s = T cs) (hz : cs.length ≤ 10000) (ht : T (skipL lang cs) = t) (w : World) :
    Calls Tryd.prog 16 #[.string lang, .string s] w fun e w' => e = .returned (.string t) ∧ Below w.heap.size w w' := by
  subst hs
  have HTT := Lib.hid ht
  clear ht
  have hTz := T_bound cs
  have hwe := wordEnd_le cs
  have hno := wordEnd_no cs
  have hat := wordEnd_at cs
  obtain ⟨hb1, hb2, hb3, hb4⟩ := blanksEnd_facts cs
  have hTk := T_bound (cs.take (wordEnd cs))
  have hlk : (cs.take (wordEnd cs)).length ≤ cs.length := by rw [List.length_take]; omega
  have HF := Lib.hid (fun W => refFoldL_any (cs.take (wordEnd cs)) (OKs_take h _) (T (cs.take (wordEnd cs))) (T (foldL (cs.take (wordEnd cs)))) rfl (by omega) rfl W)
  have HEX := Lib.hid (extract_T0 cs (wordEnd cs))
  have HEY := Lib.hid (show (T cs).extract (off cs (blanksEnd cs)) (T cs).size = T (cs.drop (blanksEnd cs)) by
    have := extract_T cs (blanksEnd cs) cs.length
    rwa [T_off, List.take_length] at this)
  have hbf := bt_before cs h (wordEnd cs) hno
  have hba : ∀ j, j < cs.length → (bt (T cs) (off cs j) = 32 ↔ cs[j]? = some 32) := by
    intro j hj
    rw [bt_at cs h j hj, List.getElem?_eq_getElem hj]
    simp
  have hend : wordEnd cs < cs.length → bt (T cs) (off cs (wordEnd cs)) = 32 := fun hlt => (bt_at cs h _ hlt).2 (hat hlt)
  have hbl : ∀ j, wordEnd cs ≤ j → j < blanksEnd cs → bt (T cs) (off cs j) = 32 := fun j h1 h2 => (bt_at cs h j (by omega)).2 (hb3 j (by omega) h1 h2)
  have hbx : blanksEnd cs < cs.length → bt (T cs) (off cs (blanksEnd cs)) ≠ 32 := fun hlt e => hb4 hlt ((bt_at cs h _ hlt).1 e)
  have hone : ∀ j, wordEnd cs ≤ j → j < blanksEnd cs → off cs (j + 1) = off cs j + 1 := by
    intro j h1 h2
    rw [off_succ cs j (by omega), hb3 j (by omega) h1 h2]
    rfl
  have HSK : RowKit.Hid (skipL lang cs = if isArt lang (T (foldL (cs.take (wordEnd cs)))) = true ∧ blanksEnd cs ≠ cs.length then cs.drop (blanksEnd cs) else cs) := by unfold RowKit.Hid skipL; rfl
  have hlen2 := len_le cs
  have hoW := off_le cs (wordEnd cs)
  have hoB := off_le cs (blanksEnd cs)
  have hoWl : wordEnd cs < cs.length → off cs (wordEnd cs) < (T cs).size := off_lt cs _
  have hoBl : blanksEnd cs < cs.length → off cs (blanksEnd cs) < (T cs).size := off_lt cs _
  have hofl := T_off cs
  have hoi : ∀ j, j < blanksEnd cs → off cs j < (T cs).size := fun j hj => off_lt cs j (by omega)
  generalize wordEnd cs = k at *
  generalize blanksEnd cs = m at *
  generalize T (foldL (cs.take k)) = fd at HF HSK
  clear hno hat hb3 hb4 hTk hlk hba h
  have HB1 := Lib.hid hbf
  have HEnd := Lib.hid hend
  have HBl := Lib.hid hbl
  have HBx := Lib.hid hbx
  have HOne := Lib.hid hone
  have HoW := Lib.hid hoWl
  have HoB := Lib.hid hoBl
  have HOi := Lib.hid hoi
  have HOf := Lib.hid hofl
  clear hbf hend hbl hbx hone hoWl hoBl hoi hofl
  have hget := get_bt (T cs)
  go_enter Tryd.func16, Tryd.ntmps16
  go_wp2
  go_loop [5] (fun i => ∃ p : Nat, p ≤ off cs k ∧ i = .int .i64 p) (fun i => (T cs).size - (intOf i).toNat)
  case atStart => exact ⟨0, Nat.zero_le _, rfl⟩
  case round =>
    obtain ⟨p, hp, rfl⟩ := hrel
    by_cases hlt : p < off cs k
    · have i1 : (p : Int) < ((T cs).size : Int) := by omega
      have i2 : p < (T cs).size := by omega
      have e1 : (bt (T cs) p == 32) = false := by simp; exact HB1.out p hlt
      have e2 : (bt (T cs) p != 32) = true := by simp; exact HB1.out p hlt
      go_wp2
      go_round
      case rel => exact ⟨p + 1, by omega, by go_num⟩
      case measure => simp [intOf]; omega
    · obtain rfl : p = off cs k := by omega
      clear hlt hp
      have hexit : (off cs k < (T cs).size ∧ bt (T cs) (off cs k) = 32) ∨ off cs k = (T cs).size := by
        rcases Nat.lt_or_ge k cs.length with hl | hl
        · exact .inl ⟨HoW.out hl, HEnd.out hl⟩
        · obtain rfl : k = cs.length := by omega
          exact .inr HOf.out
      have tail : ∀ A : Bool, isArt lang fd = A → (A = true ∧ m ≠ cs.length ∧ t = T (cs.drop m)) ∨ ((A = false ∨ m = cs.length) ∧ t = T cs) := by
        intro A hA
        have h1 := HTT.out
        rw [HSK.out, hA] at h1
        by_cases hm : A = true ∧ m ≠ cs.length
        · rw [if_pos hm] at h1; exact .inl ⟨hm.1, hm.2, h1.symm⟩
        · rw [if_neg hm] at h1
          refine .inr ⟨?_, h1.symm⟩
          cases A
          · exact .inl rfl
          · right
            by_cases h2 : m = cs.length
            · exact h2
            · exact absurd ⟨rfl, h2⟩ hm
      have HTail := Lib.hid tail
      clear tail
      rcases hexit with ⟨x1, x2⟩ | x1
      all_goals
        have X := Lib.hid x1
        first
          | (have xe : (bt (T cs) (off cs k) == 32) = true := by (rw [x2]; rfl))
          | ((have xl : ¬ (off cs k < (T cs).size) := by (rw [x1]; omega)); clear x1)
        try clear x2
        try (have xe2 : (bt (T cs) (off cs k) != 32) = false := by (rw [bne, xe]; rfl))
        go_wp2_with fail
        rw [HEX.out]
        refine (HF.out _).mono ?_
        rintro e w1 ⟨rfl, b1⟩
        go_wp2_with fail
        cases hA : isArt lang fd
        · have HA := Lib.hid hA
          clear hA
          refine (article_any lang fd false HA.out _).mono ?_
          rintro e w2 ⟨rfl, b2'⟩
          have b2 := b1.trans (b2'.mono b1.size)
          clear b2' b1
          go_wp2
          go_ret
          refine ⟨?_, b2⟩
          rcases HTail.out false HA.out with ⟨h0, _⟩ | ⟨_, h0⟩
          · cases h0
          · rw [h0]; rfl
        · have HA := Lib.hid hA
          clear hA
          refine (article_any lang fd true HA.out _).mono ?_
          rintro e w2 ⟨rfl, b2'⟩
          have b2 := b1.trans (b2'.mono b1.size)
          clear b2' b1
          go_wp2
          try clear xe
          try clear xe2
          try clear xl
          try clear x1
          go_loop [5] (fun i => ∃ j : Nat, k ≤ j ∧ j ≤ m ∧ i = .int .i64 (off cs j)) (fun i => (T cs).size - (intOf i).toNat)
          case atStart => exact ⟨k, Nat.le_refl _, hb1, rfl⟩
          case round =>
            obtain ⟨j, hj1, hj2, rfl⟩ := hrel
            by_cases hlt : j < m
            · have o1 := HOi.out j hlt
              have e1 : (bt (T cs) (off cs j) == 32) = true := by rw [HBl.out j hj1 hlt]; rfl
              have e2 : (bt (T cs) (off cs j) != 32) = false := by rw [bne, e1]; rfl
              have HO1 := Lib.hid (HOne.out j hj1 hlt)
              go_wp2
              go_round
              case rel => exact ⟨j + 1, by omega, by omega, by rw [HO1.out]; go_num⟩
              case measure => simp [intOf]; omega
            · obtain rfl : j = m := by omega
              by_cases hml : j < cs.length
              · have o1 := HoB.out hml
                have e1 : (bt (T cs) (off cs j) == 32) = false := by simp; exact HBx.out hml
                have n1 : ¬ off cs j = (T cs).size := by omega
                have n2 : (off cs j == (T cs).size) = false := by simp; omega
                have o2 : off cs j ≤ (T cs).size := by omega
                go_wp2
                go_ret
                refine ⟨?_, b2⟩
                rcases HTail.out true HA.out with ⟨_, _, h0⟩ | ⟨h0, _⟩
                · rw [h0, ← HEY.out]; rfl
                · rcases h0 with h0 | h0
                  · cases h0
                  · omega
              · obtain rfl : j = cs.length := by omega
                have o1 : ¬ (off cs cs.length < (T cs).size) := by rw [HOf.out]; omega
                have HO2 := HOf.out
                have n2 : (off cs cs.length == (T cs).size) = true := by rw [HO2]; simp
                clear HO2
                go_wp2
                go_ret
                refine ⟨?_, b2⟩
                rcases HTail.out true HA.out with ⟨_, h0, _⟩ | ⟨_, h0⟩
                · exact absurd rfl h0
                · rw [h0]; rfl
end Go.Proofs.YtjfeckccmfbkhaaDoor
