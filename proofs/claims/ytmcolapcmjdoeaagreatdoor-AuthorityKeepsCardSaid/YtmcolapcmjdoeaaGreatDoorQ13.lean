/- Merged: RDec, RDecT, RSize. -/
import Derived.Test.YtmcolapcmjdoeaaGreatDoorQ12
namespace Go.Proofs.YtmcolapcmjdoeaaGreatDoor

section
open Go.RowKit Go.PlainAid
/-- A character that was read, and that a text may have. -/
def goodP (p : Nat × Nat) : Prop := ¬ (p.1 = 65533 ∧ p.2 = 1) ∧ ((32 ≤ p.1 ∧ p.1 ≤ 126) ∨ (160 ≤ p.1 ∧ p.1 ≤ 65535))
instance (p : Nat × Nat) : Decidable (goodP p) := by unfold goodP; infer_instance
/-- What decode returns at a place. -/
def refDec (s : ByteArray) (i : Nat) : Nat × Nat := if goodP (Utf8.decode s i) then Utf8.decode s i else (0, 0)

theorem bt_get (s : ByteArray) (k : Nat) : bt s k = ((s.get! k).toNat : Int) := by
  unfold bt
  split
  · rename_i h
    rw [← get_at s k h]; rfl
  · rename_i h
    have : s.get! k = 0 := by
      show s.data[k]! = 0
      rw [getElem!_neg s.data k h]; rfl
    rw [this]; rfl

section
variable (n a b c d : Nat)
theorem key_ascii (h0 : 32 ≤ a) (h1 : a < 127) : Lib.decodeN n a b c d = (a, 1) := by
  unfold Lib.decodeN; rw [if_pos (by omega)]
theorem key_two (hn : 1 < n) (h0 : 194 ≤ a) (h1 : a < 224) (h2 : 128 ≤ b) (h3 : b < 192) : Lib.decodeN n a b c d = ((a - 192) * 64 + b - 128, 2) := by
  unfold Lib.decodeN
  rw [if_neg (by omega), if_pos (by omega), if_pos (by omega)]
  refine Prod.ext ?_ rfl
  simp only; omega
theorem key_three (hn : 2 < n) (h0 : 224 ≤ a) (h1 : a < 240) (h2 : 128 ≤ b) (h3 : b < 192) (h4 : 128 ≤ c) (h5 : c < 192) (h6 : 2048 ≤ (a - 224) * 4096 + (b - 128) * 64 + c - 128) (h7 : (a - 224) * 4096 + (b - 128) * 64 + c - 128 < 55296 ∨ 57343 < (a - 224) * 4096 + (b - 128) * 64 + c - 128) :
    Lib.decodeN n a b c d = ((a - 224) * 4096 + (b - 128) * 64 + c - 128, 3) := by
  unfold Lib.decodeN
  rw [if_neg (by omega), if_neg (by omega), if_pos (by omega), if_pos (by omega)]
  refine Prod.ext ?_ rfl
  simp only; omega
set_option maxHeartbeats 2000000 in
theorem key_not1 (h : a < 32 ∨ (127 ≤ a ∧ a < 194)) : ¬ goodP (Lib.decodeN n a b c d) := by
  unfold Lib.decodeN
  repeat' split
  all_goals first | exact fun h => h.1 ⟨rfl, rfl⟩ | (simp only [goodP]; omega)
set_option maxHeartbeats 2000000 in
theorem key_not2 (h0 : 194 ≤ a) (h1 : a < 224) (h : n ≤ 1 ∨ b < 128 ∨ 192 ≤ b ∨ (a - 192) * 64 + b < 160 + 128) : ¬ goodP (Lib.decodeN n a b c d) := by
  unfold Lib.decodeN
  repeat' split
  all_goals first | exact fun h => h.1 ⟨rfl, rfl⟩ | (simp only [goodP]; omega)
set_option maxHeartbeats 2000000 in
theorem key_not3 (h0 : 224 ≤ a) (h1 : a < 240) (h : n ≤ 2 ∨ b < 128 ∨ 192 ≤ b ∨ c < 128 ∨ 192 ≤ c ∨ (a - 224) * 4096 + (b - 128) * 64 + c < 2048 + 128 ∨ (55296 + 128 ≤ (a - 224) * 4096 + (b - 128) * 64 + c ∧ (a - 224) * 4096 + (b - 128) * 64 + c ≤ 57343 + 128)) (hb : b < 256) (hc : c < 256) : ¬ goodP (Lib.decodeN n a b c d) := by
  unfold Lib.decodeN
  repeat' split
  all_goals first | exact fun h => h.1 ⟨rfl, rfl⟩ | (simp only [goodP]; omega)
set_option maxHeartbeats 2000000 in
theorem key_not4 (h0 : 240 ≤ a) (h1 : a < 256) : ¬ goodP (Lib.decodeN n a b c d) := by
  unfold Lib.decodeN
  repeat' split
  all_goals first | exact fun h => h.1 ⟨rfl, rfl⟩ | (simp only [goodP]; omega)
end

set_option maxHeartbeats 4000000 in
theorem decode_ref (s : ByteArray) (i : Nat) (hi : i < s.size) (hz : s.size ≤ 1000000) (w : World) :
    Calls Tryz.prog 28 #[.string s, .int .i64 i] w fun e w' => e = .returned (.tuple #[.int .i64 (refDec s i).1, .int .i64 (refDec s i).2]) ∧ Below w.heap.size w w' := by
  have ea := bt_get s i
  have eb := bt_get s (i + 1)
  have ec := bt_get s (i + 2)
  have ha := (s.get! i).toNat_lt
  have hb := (s.get! (i + 1)).toNat_lt
  have hc := (s.get! (i + 2)).toNat_lt
  have ed := Lib.decode_at s i
  generalize (s.get! i).toNat = a at ea ha ed
  generalize (s.get! (i + 1)).toNat = b at eb hb ed
  generalize (s.get! (i + 2)).toNat = c at ec hc ed
  generalize (s.get! (i + 3)).toNat = d at ed
  have good : ∀ (v k : Nat) (x : Int), (v : Int) = x → Utf8.decode s i = (v, k) → goodP (v, k) → ∀ (e : Ending) (w' : World), (e = .returned (.tuple #[.int .i64 x, .int .i64 (k : Int)]) ∧ Below w.heap.size w w') →
      (e = .returned (.tuple #[.int .i64 (refDec s i).1, .int .i64 (refDec s i).2]) ∧ Below w.heap.size w w') := by
    rintro v k x rfl h1 h2 e w' ⟨rfl, h3⟩
    have : refDec s i = (v, k) := by unfold refDec; rw [h1, if_pos h2]
    rw [this]
    exact ⟨rfl, h3⟩
  have bad : ¬ goodP (Utf8.decode s i) → ∀ (e : Ending) (w' : World), (e = .returned (.tuple #[.int .i64 0, .int .i64 0]) ∧ Below w.heap.size w w') →
      (e = .returned (.tuple #[.int .i64 (refDec s i).1, .int .i64 (refDec s i).2]) ∧ Below w.heap.size w w') := by
    rintro h2 e w' ⟨rfl, h3⟩
    have : refDec s i = (0, 0) := by unfold refDec; rw [if_neg h2]
    rw [this]
    exact ⟨rfl, h3⟩
  have same : ∀ (e : Ending) (w' : World) (v : Value), (e = .returned v ∧ w = w') → (e = .returned v ∧ Below w.heap.size w w') := by
    rintro e w' v ⟨rfl, rfl⟩
    exact ⟨rfl, Below.refl _ _⟩
  by_cases c1 : a < 32
  · refine (dec_n1 s i hi (by omega) w).mono fun e w' h => bad ?_ e w' (same e w' _ h)
    rw [ed]; exact key_not1 _ _ _ _ _ (by omega)
  by_cases c2 : a < 127
  · refine (dec_ascii s i hi (by omega) (by omega) w).mono fun e w' h => good a 1 (bt s i) ea.symm ?_ ?_ e w' (same e w' _ h)
    · rw [ed]; exact key_ascii _ _ _ _ _ (by omega) (by omega)
    · simp only [goodP]; omega
  by_cases c3 : a < 194
  · refine (dec_n2 s i hi (by omega) (by omega) w).mono fun e w' h => bad ?_ e w' (same e w' _ h)
    rw [ed]; exact key_not1 _ _ _ _ _ (by omega)
  by_cases c4 : a < 224
  · by_cases c5 : i + 1 < s.size
    · by_cases c6 : b < 128
      · refine (dec_n4 s i hi hz (by omega) (by omega) c5 (by omega) w).mono fun e w' h => bad ?_ e w' (same e w' _ h)
        rw [ed]; exact key_not2 _ _ _ _ _ (by omega) (by omega) (by omega)
      by_cases c7 : 192 ≤ b
      · refine (dec_n5 s i hi hz (by omega) (by omega) c5 (by omega) w).mono fun e w' h => bad ?_ e w' (same e w' _ h)
        rw [ed]; exact key_not2 _ _ _ _ _ (by omega) (by omega) (by omega)
      by_cases c8 : (a - 192) * 64 + b < 160 + 128
      · refine (dec_n6 s i hi hz (by omega) (by omega) c5 (by omega) (by omega) (by omega) w).mono fun e w' h => bad ?_ e w' (same e w' _ h)
        rw [ed]; exact key_not2 _ _ _ _ _ (by omega) (by omega) (by omega)
      · refine (dec_two s i hi hz (by omega) (by omega) c5 (by omega) (by omega) (by omega) w).mono fun e w' h => good ((a - 192) * 64 + b - 128) 2 _ ?_ ?_ ?_ e w' (same e w' _ h)
        · omega
        · rw [ed]; exact key_two _ _ _ _ _ (by omega) (by omega) (by omega) (by omega) (by omega)
        · simp only [goodP]; omega
    · refine (dec_n3 s i hi hz (by omega) (by omega) (by omega) w).mono fun e w' h => bad ?_ e w' (same e w' _ h)
      rw [ed]; exact key_not2 _ _ _ _ _ (by omega) (by omega) (by omega)
  by_cases c9 : a < 240
  · by_cases c5 : i + 2 < s.size
    · by_cases c6 : b < 128
      · refine (dec_n8 s i hi hz (by omega) (by omega) c5 (by omega) w).mono fun e w' h => bad ?_ e w' (same e w' _ h)
        rw [ed]; exact key_not3 _ _ _ _ _ (by omega) (by omega) (by omega) hb hc
      by_cases c7 : 192 ≤ b
      · refine (dec_n9 s i hi hz (by omega) (by omega) c5 (by omega) w).mono fun e w' h => bad ?_ e w' (same e w' _ h)
        rw [ed]; exact key_not3 _ _ _ _ _ (by omega) (by omega) (by omega) hb hc
      by_cases c8 : c < 128
      · refine (dec_n10 s i hi hz (by omega) (by omega) c5 (by omega) (by omega) (by omega) w).mono fun e w' h => bad ?_ e w' (same e w' _ h)
        rw [ed]; exact key_not3 _ _ _ _ _ (by omega) (by omega) (by omega) hb hc
      by_cases c10 : 192 ≤ c
      · refine (dec_n11 s i hi hz (by omega) (by omega) c5 (by omega) (by omega) (by omega) w).mono fun e w' h => bad ?_ e w' (same e w' _ h)
        rw [ed]; exact key_not3 _ _ _ _ _ (by omega) (by omega) (by omega) hb hc
      by_cases c11 : (a - 224) * 4096 + (b - 128) * 64 + c < 2048 + 128
      · refine (dec_n12 s i hi hz (by omega) (by omega) c5 (by omega) (by omega) (by omega) (by omega) (by omega) w).mono fun e w' h => bad ?_ e w' h
        rw [ed]; exact key_not3 _ _ _ _ _ (by omega) (by omega) (by omega) hb hc
      by_cases c12 : (a - 224) * 4096 + (b - 128) * 64 + c < 55296 + 128
      · refine (dec_three_lo s i hi hz (by omega) (by omega) c5 (by omega) (by omega) (by omega) (by omega) (by omega) (by omega) w).mono fun e w' h => good ((a - 224) * 4096 + (b - 128) * 64 + c - 128) 3 _ ?_ ?_ ?_ e w' h
        · omega
        · rw [ed]; exact key_three _ _ _ _ _ (by omega) (by omega) (by omega) (by omega) (by omega) (by omega) (by omega) (by omega) (by omega)
        · simp only [goodP]; omega
      by_cases c13 : (a - 224) * 4096 + (b - 128) * 64 + c ≤ 57343 + 128
      · refine (dec_n13 s i hi hz (by omega) (by omega) c5 (by omega) (by omega) (by omega) (by omega) (by omega) (by omega) w).mono fun e w' h => bad ?_ e w' h
        rw [ed]; exact key_not3 _ _ _ _ _ (by omega) (by omega) (by omega) hb hc
      · refine (dec_three_hi s i hi hz (by omega) (by omega) c5 (by omega) (by omega) (by omega) (by omega) (by omega) w).mono fun e w' h => good ((a - 224) * 4096 + (b - 128) * 64 + c - 128) 3 _ ?_ ?_ ?_ e w' h
        · omega
        · rw [ed]; exact key_three _ _ _ _ _ (by omega) (by omega) (by omega) (by omega) (by omega) (by omega) (by omega) (by omega) (by omega)
        · simp only [goodP]; omega
    · refine (dec_n7 s i hi hz (by omega) (by omega) (by omega) w).mono fun e w' h => bad ?_ e w' (same e w' _ h)
      rw [ed]; exact key_not3 _ _ _ _ _ (by omega) (by omega) (by omega) hb hc
  · refine (dec_n14 s i hi (by omega) w).mono fun e w' h => bad ?_ e w' (same e w' _ h)
    rw [ed]; exact key_not4 _ _ _ _ _ (by omega) (by omega)
end

section
open Go.RowKit
theorem wid_bad : wid 65533 = 3 := by decide

theorem good_T (c : Nat) (h : okc c) : goodP (c, wid c) := by
  refine ⟨?_, ?_⟩
  · rintro ⟨h1, h2⟩
    simp only at h1 h2
    subst h1
    rw [wid_bad] at h2
    omega
  · unfold okc at h
    simp only
    omega

theorem refDec_T (cs : List Nat) (h : OKs cs) (k : Nat) (hk : k < cs.length) : refDec (T cs) (off cs k) = (cs[k], wid cs[k]) := by
  unfold refDec
  rw [decode_T cs h k hk, if_pos (good_T _ (OKs_get h hk))]

theorem decode_refT (cs : List Nat) (h : OKs cs) (hz : (T cs).size ≤ 1000000) (k : Nat) (hk : k < cs.length) (w : World) :
    Calls Tryz.prog 28 #[.string (T cs), .int .i64 (off cs k)] w fun e w' => e = .returned (.tuple #[.int .i64 (cs[k] : Nat), .int .i64 (wid cs[k])]) ∧ Below w.heap.size w w' := by
  have := decode_ref (T cs) (off cs k) (off_lt cs k hk) hz w
  rw [refDec_T cs h k hk] at this
  exact this
end

section
open Go.RowKit
/-- The width of what decode reads, at least 1. -/
theorem size_ref (s : ByteArray) (i : Nat) (hi : i < s.size) (hz : s.size ≤ 1000000) (w : World) :
    Calls Tryz.prog 83 #[.string s, .int .i64 i] w fun e w' => e = .returned (.int .i64 (max (refDec s i).2 1 : Nat)) ∧ Below w.heap.size w w' := by
  have cD := decode_ref s i hi hz w
  generalize hd : refDec s i = d at cD
  obtain ⟨c, k⟩ := d
  simp only at cD
  clear hd
  by_cases hk : k = 0
  · subst hk
    go_enter Tryz.func83, Tryz.ntmps83
    go_wp2_with fail
    refine cD.mono ?_
    rintro e w1 ⟨rfl, b1⟩
    go_wp2
    go_ret
    exact ⟨rfl, b1⟩
  · have h1 : (1 : Int) ≤ (k : Int) := by omega
    have h2 : max k 1 = k := by omega
    rw [h2]
    clear h2 hk
    have HM : RowKit.Hid (max (k : Int) 1 = (k : Int)) := by unfold RowKit.Hid; omega
    go_enter Tryz.func83, Tryz.ntmps83
    go_wp2_with fail
    refine cD.mono ?_
    rintro e w1 ⟨rfl, b1⟩
    go_wp2
    go_ret
    refine ⟨?_, b1⟩
    first
      | rfl
      | (show Ending.returned (.int .i64 (max (k : Int) 1)) = _; rw [HM.out])
end

end Go.Proofs.YtmcolapcmjdoeaaGreatDoor
