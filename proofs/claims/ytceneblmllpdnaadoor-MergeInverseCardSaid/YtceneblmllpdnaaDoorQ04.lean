/- Merged: Plain, Iter. -/
import Derived.Lib.ValidLaws
import Derived.Test.YtceneblmllpdnaaDoorProg
import Derived.Lib.OthersKept
import Derived.Lib.Hide
import Derived.WalkKit
import Derived.WalkLawsBesides
namespace Go.Proofs.YtceneblmllpdnaaDoor

section
open Go.Lib
/-- A character that a text may have. -/
def okc (c : Nat) : Prop := (32 ≤ c ∧ c ≤ 126) ∨ (160 ≤ c ∧ c ≤ 55295) ∨ (57344 ≤ c ∧ c ≤ 65535)
instance (c : Nat) : Decidable (okc c) := by unfold okc; infer_instance
def OKs (cs : List Nat) : Prop := ∀ c ∈ cs, okc c
/-- The bytes of characters. -/
def enc (cs : List Nat) : List UInt8 := cs.flatMap fun (c : Nat) => encodeRune (c : Int)
/-- The string of characters. -/
def T (cs : List Nat) : ByteArray := ⟨(enc cs).toArray⟩
/-- The width of a character. -/
def wid (c : Nat) : Nat := (encodeRune (c : Int)).length
/-- The place of character number k. -/
def off (cs : List Nat) (k : Nat) : Nat := (enc (cs.take k)).length

theorem enc_nil : enc [] = [] := rfl
theorem enc_cons (c : Nat) (cs : List Nat) : enc (c :: cs) = encodeRune (c : Int) ++ enc cs := by simp [enc]
theorem enc_append (a b : List Nat) : enc (a ++ b) = enc a ++ enc b := by simp [enc]
theorem enc_one (c : Nat) : enc [c] = encodeRune (c : Int) := by simp [enc]
theorem wid_pos (c : Nat) : 1 ≤ wid c ∧ wid c ≤ 4 := by
  have := encodeRuneZ_length (c : Int)
  simpa [wid, encodeRune] using this
theorem OKs_nil : OKs [] := by intro c h; cases h
theorem OKs_append {a b : List Nat} : OKs (a ++ b) ↔ OKs a ∧ OKs b := by
  unfold OKs
  constructor
  · intro h
    exact ⟨fun c hc => h c (by simp [hc]), fun c hc => h c (by simp [hc])⟩
  · rintro ⟨h, k⟩ c hc
    rcases List.mem_append.1 hc with x | x
    · exact h c x
    · exact k c x
theorem OKs_cons {c : Nat} {b : List Nat} : OKs (c :: b) ↔ okc c ∧ OKs b := by
  unfold OKs; simp
theorem OKs_take {a : List Nat} (h : OKs a) (k : Nat) : OKs (a.take k) := fun c hc => h c (List.mem_of_mem_take hc)
theorem OKs_drop {a : List Nat} (h : OKs a) (k : Nat) : OKs (a.drop k) := fun c hc => h c (List.mem_of_mem_drop hc)
theorem OKs_get {a : List Nat} (h : OKs a) {k : Nat} (hk : k < a.length) : okc a[k] := h _ (List.getElem_mem hk)

theorem T_list (cs : List Nat) : (T cs).data.toList = enc cs := by simp [T]
theorem T_size (cs : List Nat) : (T cs).size = (enc cs).length := by simp [T, ByteArray.size]
theorem T_off (cs : List Nat) : off cs cs.length = (T cs).size := by simp [off, T_size]
theorem eq_T {s : ByteArray} {cs : List Nat} (h : s.data.toList = enc cs) : s = T cs := by
  obtain ⟨d⟩ := s
  obtain ⟨l⟩ := d
  simp only at h
  subst h
  rfl
theorem T_eq_iff {a b : List Nat} : T a = T b ↔ enc a = enc b := by
  constructor
  · intro h
    rw [← T_list, ← T_list, h]
  · intro h
    unfold T; rw [h]
theorem off_zero (cs : List Nat) : off cs 0 = 0 := by simp [off, enc]
theorem off_succ (cs : List Nat) (k : Nat) (h : k < cs.length) : off cs (k + 1) = off cs k + wid cs[k] := by
  unfold off wid
  rw [List.take_succ_eq_append_getElem h, enc_append, enc_one, List.length_append]
theorem enc_take_drop (cs : List Nat) (k : Nat) : enc cs = enc (cs.take k) ++ enc (cs.drop k) := by
  rw [← enc_append, List.take_append_drop]
theorem off_le (cs : List Nat) (k : Nat) : off cs k ≤ (T cs).size := by
  rw [T_size, enc_take_drop cs k, List.length_append]
  unfold off; omega
theorem off_lt (cs : List Nat) (k : Nat) (h : k < cs.length) : off cs k < (T cs).size := by
  have h1 := off_succ cs k h
  have h2 := off_le cs (k + 1)
  have h3 := wid_pos cs[k]
  omega
theorem le_off (cs : List Nat) : ∀ k, k ≤ cs.length → k ≤ off cs k
  | 0, _ => by omega
  | k + 1, h => by
    have := le_off cs k (by omega)
    have h1 := off_succ cs k (by omega)
    have h3 := wid_pos cs[k]
    omega
theorem len_le (cs : List Nat) : cs.length ≤ (T cs).size := by
  have := le_off cs cs.length (Nat.le_refl _)
  rw [T_off] at this
  exact this
theorem off_mono (cs : List Nat) (i j : Nat) (h : i ≤ j) : off cs i ≤ off cs j := by
  have : cs.take j = cs.take i ++ (cs.take j).drop i := by
    have := (List.take_append_drop i (cs.take j)).symm
    rwa [List.take_take, Nat.min_eq_left h] at this
  unfold off
  rw [this, enc_append, List.length_append]
  omega
theorem off_inj (cs : List Nat) (i j : Nat) (hi : i < j) (hj : j ≤ cs.length) : off cs i < off cs j := by
  have h1 := off_succ cs i (by omega)
  have h2 := off_mono cs (i + 1) j (by omega)
  have h3 := wid_pos (cs[i]'(by omega))
  omega

theorem toByteNat (z : Int) (_h0 : 0 ≤ z) (h1 : z < 256) : (z.toNat.toUInt8).toNat = z.toNat := by
  simp
  omega
/-- A character that a text may have is read as it was written. -/
theorem decodeL_enc (c : Nat) (t : List UInt8) (h : okc c) : decodeL (encodeRune (c : Int) ++ t) = (c, wid c) := by
  rw [decodeL_N]
  unfold wid encodeRune
  by_cases h1 : c ≤ 127
  · rw [encodeRuneZ_one (by omega) (by omega)]
    have e0 := toByteNat (c : Int) (by omega) (by omega)
    simp only [List.map_cons, List.map_nil, List.cons_append, List.nil_append, List.getD_cons_zero, List.length_cons, List.length_nil]
    rw [e0]
    simp only [decodeN, Int.toNat_natCast]
    rw [if_pos (by omega)]
  by_cases h2 : c ≤ 2047
  · rw [encodeRuneZ_two (by omega) (by omega)]
    have e0 := toByteNat (192 + (c : Int) / 64) (by omega) (by omega)
    have e1 := toByteNat (128 + (c : Int) % 64) (by omega) (by omega)
    simp only [List.map_cons, List.map_nil, List.cons_append, List.nil_append, List.getD_cons_zero, List.getD_cons_succ, List.length_cons, List.length_nil]
    rw [e0, e1]
    simp only [decodeN]
    rw [if_neg (by omega), if_pos (by omega), if_pos (by omega)]
    refine Prod.ext ?_ rfl
    simp only
    omega
  · rw [encodeRuneZ_three (by unfold okc at h; omega)]
    have e0 := toByteNat (224 + (c : Int) / 4096) (by omega) (by unfold okc at h; omega)
    have e1 := toByteNat (128 + (c : Int) / 64 % 64) (by omega) (by omega)
    have e2 := toByteNat (128 + (c : Int) % 64) (by omega) (by omega)
    simp only [List.map_cons, List.map_nil, List.cons_append, List.nil_append, List.getD_cons_zero, List.getD_cons_succ, List.length_cons, List.length_nil]
    rw [e0, e1, e2]
    unfold okc at h
    simp only [decodeN]
    rw [if_neg (by omega), if_neg (by omega), if_pos (by omega), if_pos (by omega)]
    refine Prod.ext ?_ rfl
    simp only
    omega
theorem wid_le (c : Nat) (h : okc c) : wid c ≤ 3 := by
  unfold wid encodeRune
  by_cases h1 : c ≤ 127
  · rw [encodeRuneZ_one (by omega) (by omega)]; simp
  by_cases h2 : c ≤ 2047
  · rw [encodeRuneZ_two (by omega) (by omega)]; simp
  · rw [encodeRuneZ_three (by unfold okc at h; omega)]; simp

theorem drop_T (cs : List Nat) (k : Nat) : (T cs).data.toList.drop (off cs k) = enc (cs.drop k) := by
  rw [T_list, enc_take_drop cs k]
  exact List.drop_left' rfl
theorem decode_T (cs : List Nat) (h : OKs cs) (k : Nat) (hk : k < cs.length) : Utf8.decode (T cs) (off cs k) = (cs[k], wid cs[k]) := by
  rw [← decodeL_drop, drop_T, List.drop_eq_getElem_cons hk, enc_cons]
  exact decodeL_enc _ _ (OKs_get h hk)

/-- Pieces of a text at characters' places. -/
theorem extract_T (cs : List Nat) (i j : Nat) : (T cs).extract (off cs i) (off cs j) = T ((cs.take j).drop i) := by
  apply eq_T
  rw [ByteArray.data_extract]
  simp only [T, Array.toList_extract, List.extract_eq_take_drop]
  by_cases hij : i ≤ j
  · have h1 : cs.take j = cs.take i ++ (cs.take j).drop i := by
      have := (List.take_append_drop i (cs.take j)).symm
      rwa [List.take_take, Nat.min_eq_left hij] at this
    have h2 : enc cs = enc (cs.take i) ++ (enc ((cs.take j).drop i) ++ enc (cs.drop j)) := by
      rw [enc_take_drop cs j]
      conv => lhs; rw [h1]
      rw [enc_append, List.append_assoc]
    have h3 : off cs j - off cs i = (enc ((cs.take j).drop i)).length := by
      unfold off
      conv => lhs; rw [h1]
      rw [enc_append, List.length_append]
      omega
    rw [h2, h3]
    unfold off
    rw [List.drop_left' rfl, List.take_left' rfl]
  · have := off_mono cs j i (by omega)
    have e : (cs.take j).drop i = [] := List.drop_eq_nil_of_le (by simp; omega)
    rw [e, show off cs j - off cs i = 0 by omega]
    simp [enc]
theorem extract_T0 (cs : List Nat) (j : Nat) : (T cs).extract 0 (off cs j) = T (cs.take j) := by
  have := extract_T cs 0 j
  rwa [off_zero, List.drop_zero] at this

/-! ### which strings are texts -/
/-- The characters of a string, with fuel. -/
def runesF : Nat → List UInt8 → List Nat
  | 0, _ => []
  | n + 1, l => if l = [] then [] else (decodeL l).1 :: runesF n (l.drop (decodeL l).2)
def runes (l : List UInt8) : List Nat := runesF l.length l
def allow (c : Nat) : Bool := (decide (32 ≤ c) && decide (c ≤ 126)) || (decide (160 ≤ c) && decide (c ≤ 65535))
/-- Is a string a text? -/
def validT (l : List UInt8) : Bool := validD l && (runes l).all allow

theorem runesF_fuel : ∀ (n m : Nat) (l : List UInt8), l.length ≤ n → l.length ≤ m → runesF n l = runesF m l
  | 0, m, l, hn, _ => by
    have : l = [] := List.eq_nil_of_length_eq_zero (by omega)
    subst this
    cases m <;> simp [runesF]
  | n + 1, 0, l, _, hm => by
    have : l = [] := List.eq_nil_of_length_eq_zero (by omega)
    subst this
    simp [runesF]
  | n + 1, m + 1, l, hn, hm => by
    unfold runesF
    by_cases hne : l = []
    · simp [hne]
    · have hw := decodeL_width l
      have hl : 0 < l.length := List.length_pos_iff.2 hne
      rw [if_neg hne, if_neg hne, runesF_fuel n m (l.drop (decodeL l).2) (by rw [List.length_drop]; omega) (by rw [List.length_drop]; omega)]
theorem runes_nil : runes [] = [] := rfl
theorem runes_step (l : List UInt8) (hne : l ≠ []) : runes l = (decodeL l).1 :: runes (l.drop (decodeL l).2) := by
  have hl : 0 < l.length := List.length_pos_iff.2 hne
  have hw := decodeL_width l
  obtain ⟨n, hn⟩ : ∃ n, l.length = n + 1 := ⟨l.length - 1, by omega⟩
  unfold runes
  rw [hn]
  show (if l = [] then [] else _) = _
  rw [if_neg hne, runesF_fuel n (l.drop (decodeL l).2).length _ (by rw [List.length_drop]; omega) (Nat.le_refl _)]
theorem runes_enc : ∀ cs : List Nat, OKs cs → runes (enc cs) = cs
  | [], _ => rfl
  | c :: cs, h => by
    obtain ⟨h1, h2⟩ := OKs_cons.1 h
    have hd := decodeL_enc c (enc cs) h1
    have hw := wid_pos c
    have hne : enc (c :: cs) ≠ [] := by
      rw [enc_cons]
      intro e
      have := congrArg List.length e
      unfold wid at hw
      simp at this
      simp [this.1] at hw
    rw [runes_step _ hne]
    rw [enc_cons, hd]
    have : List.drop (c, wid c).2 (encodeRune (c : Int) ++ enc cs) = enc cs := List.drop_left' rfl
    rw [this, runes_enc cs h2]
theorem okc_allow (c : Nat) (h : okc c) : allow c = true := by
  unfold okc at h
  unfold allow
  simp
  omega
theorem validD_enc : ∀ cs : List Nat, OKs cs → validD (enc cs) = true
  | [], _ => rfl
  | c :: cs, h => by
    obtain ⟨h1, h2⟩ := OKs_cons.1 h
    have hd := decodeL_enc c (enc cs) h1
    have hw := wid_pos c
    have hne : enc (c :: cs) ≠ [] := by
      rw [enc_cons]
      intro e
      have := congrArg List.length e
      unfold wid at hw
      simp at this
      simp [this.1] at hw
    rw [validD_step _ hne]
    rw [enc_cons, hd]
    have : List.drop (c, wid c).2 (encodeRune (c : Int) ++ enc cs) = enc cs := List.drop_left' rfl
    rw [this, validD_enc cs h2]
    rw [if_neg]
    rintro ⟨e1, e2⟩
    simp only at e1 e2
    subst e1
    revert e2
    decide
theorem validT_enc (cs : List Nat) (h : OKs cs) : validT (enc cs) = true := by
  unfold validT
  rw [validD_enc cs h, runes_enc cs h]
  simp only [Bool.true_and, List.all_eq_true]
  exact fun c hc => okc_allow c (h c hc)
/-- What was read from valid bytes is no surrogate. -/
theorem decodeL_scalar (l : List UInt8) : (decodeL l).1 < 55296 ∨ 57343 < (decodeL l).1 := by
  rw [decodeL_N]
  have k0 := (l.getD 0 0).toNat_lt
  rcases decodeN_shape l.length (l.getD 0 0).toNat (l.getD 1 0).toNat (l.getD 2 0).toNat (l.getD 3 0).toNat with ⟨c, e⟩ | ⟨c1, c2, c3, cv, e⟩ | ⟨c1, c2, c3, c4, cv, cs, e⟩ | ⟨c1, c2, c3, c4, c5, cv, cw, e⟩ | e
  all_goals (rw [e]; dsimp only; omega)
theorem enc_runes : ∀ (n : Nat) (l : List UInt8), l.length ≤ n → validD l = true → enc (runes l) = l
  | 0, l, hn, _ => by
    have : l = [] := List.eq_nil_of_length_eq_zero (by omega)
    subst this
    rfl
  | n + 1, l, hn, hv => by
    by_cases hne : l = []
    · subst hne; rfl
    · have hw := decodeL_width l
      have hl : 0 < l.length := List.length_pos_iff.2 hne
      rw [validD_step l hne] at hv
      by_cases hb : (decodeL l).1 = 65533 ∧ (decodeL l).2 = 1
      · rw [if_pos hb] at hv; cases hv
      · rw [if_neg hb] at hv
        rw [runes_step l hne, enc_cons, encode_decode l hne hb, enc_runes n _ (by rw [List.length_drop]; omega) hv, List.take_append_drop]
theorem runes_scalar : ∀ (n : Nat) (l : List UInt8), l.length ≤ n → ∀ c ∈ runes l, c < 55296 ∨ 57343 < c
  | 0, l, hn => by
    have : l = [] := List.eq_nil_of_length_eq_zero (by omega)
    subst this
    intro c hc
    cases hc
  | n + 1, l, hn => by
    by_cases hne : l = []
    · subst hne
      intro c hc
      cases hc
    · have hw := decodeL_width l
      have hl : 0 < l.length := List.length_pos_iff.2 hne
      intro c hc
      rw [runes_step l hne] at hc
      rcases List.mem_cons.1 hc with e | h
      · subst e; exact decodeL_scalar l
      · exact runes_scalar n _ (by rw [List.length_drop]; omega) c h
/-- A string is a text exactly if it is the bytes of characters that a text may have. -/
theorem validT_text (l : List UInt8) (h : validT l = true) : ∃ cs, OKs cs ∧ l = enc cs := by
  unfold validT at h
  simp only [Bool.and_eq_true, List.all_eq_true] at h
  refine ⟨runes l, ?_, (enc_runes l.length l (Nat.le_refl _) h.1).symm⟩
  intro c hc
  have h1 := h.2 c hc
  have h2 := runes_scalar l.length l (Nat.le_refl _) c hc
  unfold allow at h1
  unfold okc
  simp at h1
  omega
theorem text_of {s : ByteArray} (h : validT s.data.toList = true) : ∃ cs, OKs cs ∧ s = T cs := by
  obtain ⟨cs, h1, h2⟩ := validT_text _ h
  exact ⟨cs, h1, eq_T h2⟩
theorem validT_T (cs : List Nat) (h : OKs cs) : validT (T cs).data.toList = true := by rw [T_list]; exact validT_enc cs h
/-- Different characters, different bytes. -/
theorem enc_inj {a b : List Nat} (ha : OKs a) (hb : OKs b) (h : enc a = enc b) : a = b := by
  rw [← runes_enc a ha, ← runes_enc b hb, h]
theorem T_inj {a b : List Nat} (ha : OKs a) (hb : OKs b) : T a = T b ↔ a = b :=
  ⟨fun h => enc_inj ha hb (T_eq_iff.1 h), fun h => by rw [h]⟩
theorem T_nil : T [] = ⟨#[]⟩ := rfl
theorem T_size_zero (cs : List Nat) : (T cs).size = 0 ↔ cs = [] := by
  constructor
  · intro h
    have := len_le cs
    exact List.eq_nil_of_length_eq_zero (by omega)
  · intro h
    subst h
    rfl
theorem enc_le (cs : List Nat) : (enc cs).length ≤ 4 * cs.length := by
  induction cs with
  | nil => simp [enc]
  | cons c cs ih =>
    have := wid_pos c
    unfold wid at this
    rw [enc_cons, List.length_append, List.length_cons]
    omega
def blankc (c : Nat) : Bool := c == 32 || c == 160
def letterc (c : Nat) : Bool := (decide (97 ≤ c) && decide (c ≤ 122)) || (decide (48 ≤ c) && decide (c ≤ 57)) || decide (256 ≤ c)
end

section
open Go.RowKit
theorem next_T {P : Program} (w : World) (k : Nat) (cs : List Nat) (h : OKs cs) (j : Nat) (hk : w.heap[k]? = some (.stringIter (T cs) (off cs j))) (hj : j < cs.length) (ty : TypeId) :
    (Instr.next (.pointer (some ⟨k, 0, none⟩)) true ty).run P w = .ok (.tuple #[.bool true, .int .i64 (off cs j), .int .i32 (cs[j] : Nat)]) (w.iterAt k (T cs) (off cs (j + 1))) := by
  have := Lib.run_next_any_at (P := P) w k (T cs) (off cs j) ty hk (off_lt cs j hj)
  rw [decode_T cs h j hj] at this
  rw [this, off_succ cs j hj]

theorem end_T {P : Program} (w : World) (k : Nat) (cs : List Nat) (j : Nat) (hk : w.heap[k]? = some (.stringIter (T cs) (off cs j))) (hj : j = cs.length) (ty : TypeId) :
    (Instr.next (.pointer (some ⟨k, 0, none⟩)) true ty).run P w = .ok (.tuple #[.bool false]) w := by
  refine Lib.run_next_end_at (P := P) w k (T cs) (off cs j) ty hk ?_
  rw [hj, T_off]; omega

theorem pos_T (w : World) (k : Nat) (s : ByteArray) (p : Nat) (hk : w.heap[k]? = some (.stringIter s p)) : w.iterPos k = p := by
  simp [World.iterPos, hk]

theorem okc_le {c : Nat} (h : okc c) : c ≤ 65535 := by unfold okc at h; omega
end

end Go.Proofs.YtceneblmllpdnaaDoor
