/- Merged: RDec, RValid, R07G, R07H, Plain08. -/
import Derived.Test.YthjdopnoophigaaGreatDoorQ09
import Derived.Test.YthjdopnoophigaaGreatDoorQ08
namespace Go.Proofs.YthjdopnoophigaaGreatDoor

section
open Go.RowKit Go.PlainAid
/-- A character that was read, and that a text may have. -/
def goodP (p : Nat × Nat) : Prop := ¬ (p.1 = 65533 ∧ p.2 = 1) ∧ ((32 ≤ p.1 ∧ p.1 ≤ 126) ∨ (160 ≤ p.1 ∧ p.1 ≤ 65535))
instance (p : Nat × Nat) : Decidable (goodP p) := by unfold goodP; infer_instance
/-- What decode returns at a place. -/
def refDec (s : ByteArray) (i : Nat) : Nat × Nat := if goodP (Utf8.decode s i) then Utf8.decode s i else (0, 0)

theorem bt_get (s : ByteArray) (k : Nat) : bt s k = ((s.get! k).toNat : Int) := by
  unfold bt
  split
  · rename_i h
    rw [← get_at s k h]; rfl
  · rename_i h
    have : s.get! k = 0 := by
      show s.data[k]! = 0
      rw [getElem!_neg s.data k h]; rfl
    rw [this]; rfl

section
variable (n a b c d : Nat)
theorem key_ascii (h0 : 32 ≤ a) (h1 : a < 127) : Lib.decodeN n a b c d = (a, 1) := by
  unfold Lib.decodeN; rw [if_pos (by omega)]
theorem key_two (hn : 1 < n) (h0 : 194 ≤ a) (h1 : a < 224) (h2 : 128 ≤ b) (h3 : b < 192) : Lib.decodeN n a b c d = ((a - 192) * 64 + b - 128, 2) := by
  unfold Lib.decodeN
  rw [if_neg (by omega), if_pos (by omega), if_pos (by omega)]
  refine Prod.ext ?_ rfl
  simp only; omega
theorem key_three (hn : 2 < n) (h0 : 224 ≤ a) (h1 : a < 240) (h2 : 128 ≤ b) (h3 : b < 192) (h4 : 128 ≤ c) (h5 : c < 192) (h6 : 2048 ≤ (a - 224) * 4096 + (b - 128) * 64 + c - 128) (h7 : (a - 224) * 4096 + (b - 128) * 64 + c - 128 < 55296 ∨ 57343 < (a - 224) * 4096 + (b - 128) * 64 + c - 128) :
    Lib.decodeN n a b c d = ((a - 224) * 4096 + (b - 128) * 64 + c - 128, 3) := by
  unfold Lib.decodeN
  rw [if_neg (by omega), if_neg (by omega), if_pos (by omega), if_pos (by omega)]
  refine Prod.ext ?_ rfl
  simp only; omega
set_option maxHeartbeats 2000000 in
theorem key_not1 (h : a < 32 ∨ (127 ≤ a ∧ a < 194)) : ¬ goodP (Lib.decodeN n a b c d) := by
  unfold Lib.decodeN
  repeat' split
  all_goals first | exact fun h => h.1 ⟨rfl, rfl⟩ | (simp only [goodP]; omega)
set_option maxHeartbeats 2000000 in
theorem key_not2 (h0 : 194 ≤ a) (h1 : a < 224) (h : n ≤ 1 ∨ b < 128 ∨ 192 ≤ b ∨ (a - 192) * 64 + b < 160 + 128) : ¬ goodP (Lib.decodeN n a b c d) := by
  unfold Lib.decodeN
  repeat' split
  all_goals first | exact fun h => h.1 ⟨rfl, rfl⟩ | (simp only [goodP]; omega)
set_option maxHeartbeats 2000000 in
theorem key_not3 (h0 : 224 ≤ a) (h1 : a < 240) (h : n ≤ 2 ∨ b < 128 ∨ 192 ≤ b ∨ c < 128 ∨ 192 ≤ c ∨ (a - 224) * 4096 + (b - 128) * 64 + c < 2048 + 128 ∨ (55296 + 128 ≤ (a - 224) * 4096 + (b - 128) * 64 + c ∧ (a - 224) * 4096 + (b - 128) * 64 + c ≤ 57343 + 128)) (hb : b < 256) (hc : c < 256) : ¬ goodP (Lib.decodeN n a b c d) := by
  unfold Lib.decodeN
  repeat' split
  all_goals first | exact fun h => h.1 ⟨rfl, rfl⟩ | (simp only [goodP]; omega)
set_option maxHeartbeats 2000000 in
theorem key_not4 (h0 : 240 ≤ a) (h1 : a < 256) : ¬ goodP (Lib.decodeN n a b c d) := by
  unfold Lib.decodeN
  repeat' split
  all_goals first | exact fun h => h.1 ⟨rfl, rfl⟩ | (simp only [goodP]; omega)
end

set_option maxHeartbeats 4000000 in
theorem decode_ref (s : ByteArray) (i : Nat) (hi : i < s.size) (hz : s.size ≤ 1000000) (w : World) :
    Calls Tryz.prog 48 #[.string s, .int .i64 i] w fun e w' => e = .returned (.tuple #[.int .i64 (refDec s i).1, .int .i64 (refDec s i).2]) ∧ Below w.heap.size w w' := by
  have ea := bt_get s i
  have eb := bt_get s (i + 1)
  have ec := bt_get s (i + 2)
  have ha := (s.get! i).toNat_lt
  have hb := (s.get! (i + 1)).toNat_lt
  have hc := (s.get! (i + 2)).toNat_lt
  have ed := Lib.decode_at s i
  generalize (s.get! i).toNat = a at ea ha ed
  generalize (s.get! (i + 1)).toNat = b at eb hb ed
  generalize (s.get! (i + 2)).toNat = c at ec hc ed
  generalize (s.get! (i + 3)).toNat = d at ed
  have good : ∀ (v k : Nat) (x : Int), (v : Int) = x → Utf8.decode s i = (v, k) → goodP (v, k) → ∀ (e : Ending) (w' : World), (e = .returned (.tuple #[.int .i64 x, .int .i64 (k : Int)]) ∧ Below w.heap.size w w') →
      (e = .returned (.tuple #[.int .i64 (refDec s i).1, .int .i64 (refDec s i).2]) ∧ Below w.heap.size w w') := by
    rintro v k x rfl h1 h2 e w' ⟨rfl, h3⟩
    have : refDec s i = (v, k) := by unfold refDec; rw [h1, if_pos h2]
    rw [this]
    exact ⟨rfl, h3⟩
  have bad : ¬ goodP (Utf8.decode s i) → ∀ (e : Ending) (w' : World), (e = .returned (.tuple #[.int .i64 0, .int .i64 0]) ∧ Below w.heap.size w w') →
      (e = .returned (.tuple #[.int .i64 (refDec s i).1, .int .i64 (refDec s i).2]) ∧ Below w.heap.size w w') := by
    rintro h2 e w' ⟨rfl, h3⟩
    have : refDec s i = (0, 0) := by unfold refDec; rw [if_neg h2]
    rw [this]
    exact ⟨rfl, h3⟩
  have same : ∀ (e : Ending) (w' : World) (v : Value), (e = .returned v ∧ w = w') → (e = .returned v ∧ Below w.heap.size w w') := by
    rintro e w' v ⟨rfl, rfl⟩
    exact ⟨rfl, Below.refl _ _⟩
  by_cases c1 : a < 32
  · refine (dec_n1 s i hi (by omega) w).mono fun e w' h => bad ?_ e w' (same e w' _ h)
    rw [ed]; exact key_not1 _ _ _ _ _ (by omega)
  by_cases c2 : a < 127
  · refine (dec_ascii s i hi (by omega) (by omega) w).mono fun e w' h => good a 1 (bt s i) ea.symm ?_ ?_ e w' (same e w' _ h)
    · rw [ed]; exact key_ascii _ _ _ _ _ (by omega) (by omega)
    · simp only [goodP]; omega
  by_cases c3 : a < 194
  · refine (dec_n2 s i hi (by omega) (by omega) w).mono fun e w' h => bad ?_ e w' (same e w' _ h)
    rw [ed]; exact key_not1 _ _ _ _ _ (by omega)
  by_cases c4 : a < 224
  · by_cases c5 : i + 1 < s.size
    · by_cases c6 : b < 128
      · refine (dec_n4 s i hi hz (by omega) (by omega) c5 (by omega) w).mono fun e w' h => bad ?_ e w' (same e w' _ h)
        rw [ed]; exact key_not2 _ _ _ _ _ (by omega) (by omega) (by omega)
      by_cases c7 : 192 ≤ b
      · refine (dec_n5 s i hi hz (by omega) (by omega) c5 (by omega) w).mono fun e w' h => bad ?_ e w' (same e w' _ h)
        rw [ed]; exact key_not2 _ _ _ _ _ (by omega) (by omega) (by omega)
      by_cases c8 : (a - 192) * 64 + b < 160 + 128
      · refine (dec_n6 s i hi hz (by omega) (by omega) c5 (by omega) (by omega) (by omega) w).mono fun e w' h => bad ?_ e w' (same e w' _ h)
        rw [ed]; exact key_not2 _ _ _ _ _ (by omega) (by omega) (by omega)
      · refine (dec_two s i hi hz (by omega) (by omega) c5 (by omega) (by omega) (by omega) w).mono fun e w' h => good ((a - 192) * 64 + b - 128) 2 _ ?_ ?_ ?_ e w' (same e w' _ h)
        · omega
        · rw [ed]; exact key_two _ _ _ _ _ (by omega) (by omega) (by omega) (by omega) (by omega)
        · simp only [goodP]; omega
    · refine (dec_n3 s i hi hz (by omega) (by omega) (by omega) w).mono fun e w' h => bad ?_ e w' (same e w' _ h)
      rw [ed]; exact key_not2 _ _ _ _ _ (by omega) (by omega) (by omega)
  by_cases c9 : a < 240
  · by_cases c5 : i + 2 < s.size
    · by_cases c6 : b < 128
      · refine (dec_n8 s i hi hz (by omega) (by omega) c5 (by omega) w).mono fun e w' h => bad ?_ e w' (same e w' _ h)
        rw [ed]; exact key_not3 _ _ _ _ _ (by omega) (by omega) (by omega) hb hc
      by_cases c7 : 192 ≤ b
      · refine (dec_n9 s i hi hz (by omega) (by omega) c5 (by omega) w).mono fun e w' h => bad ?_ e w' (same e w' _ h)
        rw [ed]; exact key_not3 _ _ _ _ _ (by omega) (by omega) (by omega) hb hc
      by_cases c8 : c < 128
      · refine (dec_n10 s i hi hz (by omega) (by omega) c5 (by omega) (by omega) (by omega) w).mono fun e w' h => bad ?_ e w' (same e w' _ h)
        rw [ed]; exact key_not3 _ _ _ _ _ (by omega) (by omega) (by omega) hb hc
      by_cases c10 : 192 ≤ c
      · refine (dec_n11 s i hi hz (by omega) (by omega) c5 (by omega) (by omega) (by omega) w).mono fun e w' h => bad ?_ e w' (same e w' _ h)
        rw [ed]; exact key_not3 _ _ _ _ _ (by omega) (by omega) (by omega) hb hc
      by_cases c11 : (a - 224) * 4096 + (b - 128) * 64 + c < 2048 + 128
      · refine (dec_n12 s i hi hz (by omega) (by omega) c5 (by omega) (by omega) (by omega) (by omega) (by omega) w).mono fun e w' h => bad ?_ e w' h
        rw [ed]; exact key_not3 _ _ _ _ _ (by omega) (by omega) (by omega) hb hc
      by_cases c12 : (a - 224) * 4096 + (b - 128) * 64 + c < 55296 + 128
      · refine (dec_three_lo s i hi hz (by omega) (by omega) c5 (by omega) (by omega) (by omega) (by omega) (by omega) (by omega) w).mono fun e w' h => good ((a - 224) * 4096 + (b - 128) * 64 + c - 128) 3 _ ?_ ?_ ?_ e w' h
        · omega
        · rw [ed]; exact key_three _ _ _ _ _ (by omega) (by omega) (by omega) (by omega) (by omega) (by omega) (by omega) (by omega) (by omega)
        · simp only [goodP]; omega
      by_cases c13 : (a - 224) * 4096 + (b - 128) * 64 + c ≤ 57343 + 128
      · refine (dec_n13 s i hi hz (by omega) (by omega) c5 (by omega) (by omega) (by omega) (by omega) (by omega) (by omega) w).mono fun e w' h => bad ?_ e w' h
        rw [ed]; exact key_not3 _ _ _ _ _ (by omega) (by omega) (by omega) hb hc
      · refine (dec_three_hi s i hi hz (by omega) (by omega) c5 (by omega) (by omega) (by omega) (by omega) (by omega) w).mono fun e w' h => good ((a - 224) * 4096 + (b - 128) * 64 + c - 128) 3 _ ?_ ?_ ?_ e w' h
        · omega
        · rw [ed]; exact key_three _ _ _ _ _ (by omega) (by omega) (by omega) (by omega) (by omega) (by omega) (by omega) (by omega) (by omega)
        · simp only [goodP]; omega
    · refine (dec_n7 s i hi hz (by omega) (by omega) (by omega) w).mono fun e w' h => bad ?_ e w' (same e w' _ h)
      rw [ed]; exact key_not3 _ _ _ _ _ (by omega) (by omega) (by omega) hb hc
  · refine (dec_n14 s i hi (by omega) w).mono fun e w' h => bad ?_ e w' (same e w' _ h)
    rw [ed]; exact key_not4 _ _ _ _ _ (by omega) (by omega)
end

section
open Go.RowKit
theorem goodP_allow (p : Nat × Nat) : goodP p ↔ ¬ (p.1 = 65533 ∧ p.2 = 1) ∧ allow p.1 = true := by
  unfold goodP allow
  simp

theorem validT_step (l : List UInt8) (hne : l ≠ []) : validT l = if goodP (Lib.decodeL l) then validT (l.drop (Lib.decodeL l).2) else false := by
  unfold validT
  rw [Lib.validD_step l hne, runes_step l hne, List.all_cons]
  by_cases h1 : (Lib.decodeL l).1 = 65533 ∧ (Lib.decodeL l).2 = 1
  · rw [if_pos h1, if_neg (by rw [goodP_allow]; exact fun h => h.1 h1)]
    rfl
  · rw [if_neg h1]
    cases ha : allow (Lib.decodeL l).1
    · rw [if_neg (by rw [goodP_allow, ha]; exact fun h => absurd h.2 (by simp))]
      simp
    · rw [if_pos ((goodP_allow _).2 ⟨h1, ha⟩)]
      simp

theorem validT_at (s : ByteArray) (p : Nat) (hp : p < s.size) : validT (s.data.toList.drop p) = if goodP (Utf8.decode s p) then validT (s.data.toList.drop (p + (Utf8.decode s p).2)) else false := by
  have hne : s.data.toList.drop p ≠ [] := by
    intro h0
    have := congrArg List.length h0
    rw [List.length_drop, ← Lib.size_eq] at this
    simp at this
    omega
  rw [validT_step _ hne, Lib.decodeL_drop, List.drop_drop]

theorem decode_fits (s : ByteArray) (p : Nat) (hp : p < s.size) : p + (Utf8.decode s p).2 ≤ s.size := by
  have hne : s.data.toList.drop p ≠ [] := by
    intro h0
    have := congrArg List.length h0
    rw [List.length_drop, ← Lib.size_eq] at this
    simp at this
    omega
  have := Lib.decodeL_le _ hne
  rw [Lib.decodeL_drop, List.length_drop, ← Lib.size_eq] at this
  omega

set_option maxHeartbeats 4000000 in
theorem refValid_any (s : ByteArray) (hz : s.size ≤ 1000000) (w : World) :
    Calls Tryz.prog 24 #[.string s] w fun e w' => e = .returned (.bool (validT s.data.toList)) ∧ Below w.heap.size w w' := by
  go_enter Tryz.func24, Tryz.ntmps24
  go_wp2
  go_loopw [3] (fun i wr => ∃ p : Nat, p ≤ s.size ∧ i = .int .i64 p ∧ Below w.heap.size w wr ∧ validT (s.data.toList.drop p) = validT s.data.toList) (fun i _ => s.size - (intOf i).toNat)
  case atStart => exact ⟨0, Nat.zero_le _, rfl, Below.refl _ _, by rw [List.drop_zero]⟩
  case round =>
    obtain ⟨p, hp, rfl, hbw, hall⟩ := hrel
    have HA := Lib.hid hall
    clear hall
    have hsz := hbw.size
    by_cases hlt : p < s.size
    · have cD := decode_ref s p hlt hz wr
      have HV := Lib.hid (validT_at s p hlt)
      have hfit := decode_fits s p hlt
      have hwd := Lib.width_pos s p
      have hpi : (p : Int) < (s.size : Int) := by omega
      by_cases hg : goodP (Utf8.decode s p)
      · have e1 : refDec s p = Utf8.decode s p := by unfold refDec; rw [if_pos hg]
        rw [e1] at cD
        have HG := Lib.hid hg
        clear e1 hg
        generalize Utf8.decode s p = d at cD HV hfit hwd HG
        obtain ⟨c, k⟩ := d
        simp only at cD hfit hwd
        have hk1 : ((k : Int) == 0) = false := by simp; omega
        go_wp2_with fail
        refine cD.mono ?_
        rintro e w1 ⟨rfl, b1⟩
        have b2 := hbw.trans (b1.mono hsz)
        clear b1
        go_wp2
        go_roundw
        case rel =>
          refine ⟨p + k, by omega, by go_num, b2, ?_⟩
          have := HV.out
          rw [if_pos HG.out] at this
          rw [← HA.out, this]
        case measure => simp [intOf]; omega
      · have e1 : refDec s p = (0, 0) := by unfold refDec; rw [if_neg hg]
        rw [e1] at cD
        have HG := Lib.hid hg
        clear e1 hg hfit hwd
        simp only at cD
        go_wp2_with fail
        refine cD.mono ?_
        rintro e w1 ⟨rfl, b1⟩
        have b2 := hbw.trans (b1.mono hsz)
        clear b1
        go_wp2
        go_ret
        refine ⟨?_, b2⟩
        have := HV.out
        rw [if_neg HG.out] at this
        rw [← HA.out, this]
        rfl
    · obtain rfl : p = s.size := by omega
      go_wp2
      go_ret
      refine ⟨?_, hbw⟩
      have := HA.out
      rw [List.drop_eq_nil_of_le (by rw [← Lib.size_eq]; omega)] at this
      rw [← this]
      rfl
end

section
open Go.RowKit Go.PlainAid
def subE (s : Sub) : Int := if codeB s.1 = false then 1 else if s.2 = [] then 8 else if validT s.2 = false then 3 else if 200 < s.2.length then 4 else 0
def firstE : List Sub → Int
  | [] => 0
  | s :: t => if subE s ≠ 0 then subE s else firstE t
def indB (x : UInt8) : Bool := decide (x = 32) || digB x
def indsB (l : List UInt8) : Bool := decide (l.length = 2) && indB (l.getD 0 0) && indB (l.getD 1 0)
def rightI (f : Fld) : Int :=
  if tagB f.tag = false then 6 else if indsB f.ind = false then 3 else if f.subs.length = 0 then 8 else if 16 < f.subs.length then 4
  else if firstE f.subs ≠ 0 then firstE f.subs else if f.auth < 0 ∨ 9999 < f.auth then 2 else 0
theorem firstE_hit : ∀ (L : List Sub) (k : Nat), k < L.length → (∀ j, j < k → subE (L.getD j sub0) = 0) → subE (L.getD k sub0) ≠ 0 → firstE L = subE (L.getD k sub0)
  | [], _, hk, _, _ => by cases hk
  | s :: t, 0, _, _, he => by
    have he : subE s ≠ 0 := he
    rw [firstE, if_pos he]
    rfl
  | s :: t, k + 1, hk, h, he => by
    have h0 : subE s = 0 := h 0 (Nat.succ_pos k)
    rw [firstE, if_neg (fun h => h h0)]
    exact firstE_hit t k (by simpa using hk) (fun j hj => h (j + 1) (by omega)) he
theorem firstE_miss : ∀ (L : List Sub), (∀ j, j < L.length → subE (L.getD j sub0) = 0) → firstE L = 0
  | [], _ => rfl
  | s :: t, h => by
    have h0 : subE s = 0 := h 0 (by simp)
    rw [firstE, if_neg (fun h => h h0)]
    exact firstE_miss t (fun j hj => h (j + 1) (by simpa using hj))
end

section
open Go.RowKit Go.PlainAid
/-- The first k texts with these bytes between them. -/
def joinK (c : List UInt8) (L : List (List UInt8)) : Nat → List UInt8
  | 0 => []
  | k + 1 => if k = 0 then L.getD 0 [] else joinK c L k ++ c ++ L.getD k []
theorem joinK_le (c : List UInt8) (L : List (List UInt8)) (hc : c.length ≤ 1000) (hL : ∀ i, (L.getD i []).length ≤ 1000000) : ∀ k, (joinK c L k).length ≤ k * 1001000
  | 0 => Nat.le_refl _
  | k + 1 => by
    have h := joinK_le c L hc hL k
    have h0 := hL 0
    have hk := hL k
    rw [joinK]
    by_cases h1 : k = 0
    · rw [if_pos h1]; omega
    · rw [if_neg h1, List.length_append, List.length_append]; omega
def plainL (subs : List Sub) (codes : List UInt8) : List UInt8 := joinK [32] (allL subs codes) (allL subs codes).length
end

section
def fd0 : Fld := ⟨[], [], [], 0⟩
structure Rec where
  id : Int
  ver : Int
  kind : Int
  lang : List UInt8
  fields : List Fld
def rec0 : Rec := ⟨0, 0, 0, [], []⟩
theorem sameB_iff (f g : Fld) : sameB f g = true ↔ f = g := by
  cases f; cases g
  simp only [sameB, Bool.and_eq_true, decide_eq_true_eq, Fld.mk.injEq]
  constructor
  · rintro ⟨⟨⟨h1, h2⟩, h3⟩, h4⟩; exact ⟨h1, h2, h4, h3⟩
  · rintro ⟨h1, h2, h4, h3⟩; exact ⟨⟨⟨h1, h2⟩, h3⟩, h4⟩
theorem sameB_ne {f g : Fld} (h : sameB f g = false) : f ≠ g := fun e => by
  rw [(sameB_iff f g).2 e] at h
  cases h
def sameFB : List Fld → List Fld → Bool
  | [], [] => true
  | a :: s, b :: t => sameB a b && sameFB s t
  | _, _ => false
theorem sameFB_iff : ∀ A B : List Fld, sameFB A B = true ↔ A = B
  | [], [] => by simp [sameFB]
  | a :: s, [] => by simp [sameFB]
  | [], b :: t => by simp [sameFB]
  | a :: s, b :: t => by
    rw [sameFB, Bool.and_eq_true, sameB_iff, sameFB_iff s t, List.cons.injEq]
theorem sameFB_ne {A B : List Fld} (h : A ≠ B) : sameFB A B = false := by
  cases e : sameFB A B
  · rfl
  · exact absurd ((sameFB_iff A B).1 e) h
theorem fields_ext (A B : List Fld) (hl : A.length = B.length) (h : ∀ i, i < A.length → A.getD i fd0 = B.getD i fd0) : A = B := by
  refine List.ext_getElem hl fun i h1 h2 => ?_
  have := h i h1
  rwa [List.getD_eq_getElem?_getD, List.getD_eq_getElem?_getD, List.getElem?_eq_getElem h1, List.getElem?_eq_getElem h2] at this
def sameRB (a b : Rec) : Bool := decide (a.id = b.id) && decide (a.ver = b.ver) && decide (a.kind = b.kind) && decide (a.lang = b.lang) && sameFB a.fields b.fields
theorem sameRB_iff (a b : Rec) : sameRB a b = true ↔ a = b := by
  cases a; cases b
  simp only [sameRB, Bool.and_eq_true, decide_eq_true_eq, Rec.mk.injEq, sameFB_iff]
  constructor
  · rintro ⟨⟨⟨⟨h1, h2⟩, h3⟩, h4⟩, h5⟩; exact ⟨h1, h2, h3, h4, h5⟩
  · rintro ⟨h1, h2, h3, h4, h5⟩; exact ⟨⟨⟨⟨h1, h2⟩, h3⟩, h4⟩, h5⟩

/-! Right. -/
def firstFE : List Fld → Int
  | [] => 0
  | f :: t => if rightI f ≠ 0 then rightI f else firstFE t
theorem firstFE_hit : ∀ (L : List Fld) (k : Nat), k < L.length → (∀ j, j < k → rightI (L.getD j fd0) = 0) → rightI (L.getD k fd0) ≠ 0 → firstFE L = rightI (L.getD k fd0)
  | [], _, hk, _, _ => by cases hk
  | s :: t, 0, _, _, he => by
    have he : rightI s ≠ 0 := he
    rw [firstFE, if_pos he]
    rfl
  | s :: t, k + 1, hk, h, he => by
    have h0 : rightI s = 0 := h 0 (Nat.succ_pos k)
    rw [firstFE, if_neg (fun h => h h0)]
    exact firstFE_hit t k (by simpa using hk) (fun j hj => h (j + 1) (by omega)) he
theorem firstFE_miss : ∀ (L : List Fld), (∀ j, j < L.length → rightI (L.getD j fd0) = 0) → firstFE L = 0
  | [], _ => rfl
  | s :: t, h => by
    have h0 : rightI s = 0 := h 0 (by simp)
    rw [firstFE, if_neg (fun h => h h0)]
    exact firstFE_miss t (fun j hj => h (j + 1) (by simpa using hj))
theorem firstFE_zero : ∀ (L : List Fld), firstFE L = 0 ↔ ∀ f ∈ L, rightI f = 0
  | [] => by simp [firstFE]
  | f :: t => by
    rw [firstFE]
    by_cases h : rightI f = 0
    · rw [if_neg (fun g => g h), firstFE_zero t]
      simp [h]
    · rw [if_pos h]
      simp [h]
def lowB (x : UInt8) : Bool := decide (97 ≤ x.toNat) && decide (x.toNat ≤ 122)
def langB (l : List UInt8) : Bool := decide (l.length = 3) && lowB (l.getD 0 0) && lowB (l.getD 1 0) && lowB (l.getD 2 0)
def rightRI (r : Rec) : Int :=
  if r.id < 0 ∨ 9999 < r.id then 2 else if r.ver < 1 ∨ 3 < r.ver then 20 else if r.kind < 1 ∨ 4 < r.kind then 1 else if langB r.lang = false then 3
  else if 64 < r.fields.length then 4 else firstFE r.fields
theorem all_true {α : Type} (d : α) (p : α → Bool) : ∀ L : List α, (∀ j, j < L.length → p (L.getD j d) = true) → L.all p = true
  | [], _ => rfl
  | a :: t, h => by
    rw [List.all_cons, all_true d p t (fun j hj => h (j + 1) (by simpa using hj)), Bool.and_true]
    exact h 0 (by simp)
theorem all_false {α : Type} (d : α) (p : α → Bool) : ∀ (L : List α) (k : Nat), k < L.length → p (L.getD k d) = false → L.all p = false
  | [], _, hk, _ => by cases hk
  | a :: t, 0, _, h => by
    have h : p a = false := h
    rw [List.all_cons, h, Bool.false_and]
  | a :: t, k + 1, hk, h => by
    rw [List.all_cons, all_false d p t k (by simpa using hk) h, Bool.and_false]
theorem all_at {α : Type} (d : α) (p : α → Bool) (L : List α) (h : L.all p = true) (k : Nat) (hk : k < L.length) : p (L.getD k d) = true := by
  cases e : p (L.getD k d)
  · rw [all_false d p L k hk e] at h
    cases h
  · rfl
def smallFB (f : Fld) : Bool := decide (f.subs.length ≤ 20) && f.subs.all fun s => decide (s.2.length ≤ 300)
def smallRB (r : Rec) : Bool := decide (r.fields.length ≤ 70) && r.fields.all smallFB

/-! Fields, Insert, Remove. -/
theorem prefix_take (p t : List UInt8) : decide (t.take p.length = p) = p.isPrefixOf t := by
  rw [Bool.eq_iff_iff, decide_eq_true_iff, List.isPrefixOf_iff_prefix, List.prefix_iff_eq_take]
  exact ⟨fun h => h.symm, fun h => h.symm⟩
theorem prefix_short (p t : List UInt8) (h : t.length < p.length) : p.isPrefixOf t = false := by
  cases e : p.isPrefixOf t
  · rfl
  · have := (List.isPrefixOf_iff_prefix.1 e).length_le
    omega
def fieldsL (L : List Fld) (p : List UInt8) : List Fld := L.filter fun f => p.isPrefixOf f.tag
theorem fieldsL_snoc (L : List Fld) (p : List UInt8) (k : Nat) (h : k < L.length) : fieldsL (L.take (k + 1)) p = fieldsL (L.take k) p ++ (if p.isPrefixOf (L.getD k fd0).tag = true then [L.getD k fd0] else []) := by
  rw [List.take_succ_eq_append_getElem h, List.getD_eq_getElem?_getD, List.getElem?_eq_getElem h]
  unfold fieldsL
  rw [List.filter_append]
  congr 1
  show _ = if p.isPrefixOf L[k].tag = true then [L[k]] else []
  by_cases hi : p.isPrefixOf L[k].tag = true
  · rw [if_pos hi]; simp [hi]
  · rw [if_neg hi]; simp [hi]
theorem fieldsL_length (L : List Fld) (p : List UInt8) : (fieldsL L p).length ≤ L.length := List.length_filter_le _ _
def insL (L : List Fld) (i : Nat) (f : Fld) : List Fld := L.take i ++ f :: L.drop i
def remL (L : List Fld) (i : Nat) : List Fld := L.take i ++ L.drop (i + 1)
def insR (r : Rec) (i : Int) (f : Fld) : Rec × Int :=
  if i < 0 ∨ (r.fields.length : Int) < i then (rec0, 2) else if rightI f ≠ 0 then (rec0, rightI f) else if 64 ≤ r.fields.length then (rec0, 13)
  else ({ r with fields := insL r.fields i.toNat f }, 0)
def remR (r : Rec) (i : Int) : Rec × Int :=
  if i < 0 ∨ (r.fields.length : Int) ≤ i then (rec0, 2) else ({ r with fields := remL r.fields i.toNat }, 0)
theorem insL_len (L : List Fld) (i : Nat) (f : Fld) (h : i ≤ L.length) : (insL L i f).length = L.length + 1 := by
  simp [insL, List.length_take, List.length_drop]; omega
theorem remL_len (L : List Fld) (i : Nat) (h : i < L.length) : (remL L i).length + 1 = L.length := by
  simp [remL, List.length_take, List.length_drop]; omega
theorem rem_ins (L : List Fld) (i : Nat) (f : Fld) (h : i ≤ L.length) : remL (insL L i f) i = L := by
  have h1 : (L.take i).length = i := by rw [List.length_take]; omega
  unfold remL insL
  have e : (L.take i ++ f :: L.drop i).drop (i + 1) = L.drop i := by
    rw [List.drop_append, h1, List.drop_of_length_le (by omega), show i + 1 - i = 1 by omega]
    rfl
  rw [e, List.take_append_of_le_length (by omega), List.take_of_length_le (by omega), List.take_append_drop]
theorem ins_rem (L : List Fld) (i : Nat) (h : i < L.length) : insL (remL L i) i (L.getD i fd0) = L := by
  have h1 : (L.take i).length = i := by rw [List.length_take]; omega
  unfold remL insL
  rw [List.take_append_of_le_length (by omega), List.take_of_length_le (by omega)]
  rw [show (L.take i ++ L.drop (i + 1)).drop i = L.drop (i + 1) by rw [List.drop_append_of_le_length (by omega), List.drop_of_length_le (by omega)]; rfl]
  rw [show L.getD i fd0 = L[i] by rw [List.getD_eq_getElem?_getD, List.getElem?_eq_getElem h]; rfl, ← List.drop_eq_getElem_cons h, List.take_append_drop]
theorem ins_at (L : List Fld) (i : Nat) (f : Fld) (h : i ≤ L.length) : (insL L i f).getD i fd0 = f := by
  have h1 : (L.take i).length = i := by rw [List.length_take]; omega
  unfold insL
  rw [List.getD_eq_getElem?_getD, List.getElem?_append_right (by omega), h1, Nat.sub_self]
  rfl
theorem mem_ins (L : List Fld) (i : Nat) (f g : Fld) (h : g ∈ insL L i f) : g = f ∨ g ∈ L := by
  unfold insL at h
  rcases List.mem_append.1 h with h | h
  · exact .inr (List.mem_of_mem_take h)
  · rcases List.mem_cons.1 h with h | h
    · exact .inl h
    · exact .inr (List.mem_of_mem_drop h)
theorem mem_rem (L : List Fld) (i : Nat) (g : Fld) (h : g ∈ remL L i) : g ∈ L := by
  unfold remL at h
  rcases List.mem_append.1 h with h | h
  · exact List.mem_of_mem_take h
  · exact List.mem_of_mem_drop h
end

end Go.Proofs.YthjdopnoophigaaGreatDoor
