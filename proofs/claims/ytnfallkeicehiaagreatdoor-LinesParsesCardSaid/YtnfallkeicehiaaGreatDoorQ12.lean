/- Merged: R11A, R11B, R11C. -/
import Derived.Test.YtnfallkeicehiaaGreatDoorQ11
import Derived.Deep.CutBlock
import Derived.Deep.DeepCutAuto
namespace Go.Proofs.YtnfallkeicehiaaGreatDoor

section
open Go.RowKit Go.PlainAid
theorem refKind_any (k : Int) (h1 : 1 ≤ k) (h4 : k ≤ 4) (w : World) :
    Calls Tryz.prog 42 #[.int .i64 k] w fun e w' => e = .returned (.string (S (kindW k))) ∧ w' = w := by
  obtain rfl | rfl | rfl | rfl : k = 1 ∨ k = 2 ∨ k = 3 ∨ k = 4 := by omega
  all_goals
    clear h1 h4
    go_enter Tryz.func42, Tryz.ntmps42
    go_wp2
    first | exact ⟨rfl, rfl⟩ | (go_ret; exact ⟨rfl, rfl⟩)

theorem ln_hit (l : List UInt8) (k : Nat) (hk : k < l.length) (h : l.getD k 0 = 10) : lnL (l.drop k) = [] ∧ lnE (l.drop k) = true ∧ lnR (l.drop k) = l.drop (k + 1) := by
  rw [List.getD_eq_getElem?_getD, List.getElem?_eq_getElem hk] at h
  have h : l[k] = 10 := h
  rw [List.drop_eq_getElem_cons hk, lnL, lnE, lnR, if_pos h, if_pos h, if_pos h]
  exact ⟨rfl, rfl, rfl⟩
theorem ln_pass (l : List UInt8) (k : Nat) (hk : k < l.length) (h : l.getD k 0 ≠ 10) : lnL (l.drop k) = l.getD k 0 :: lnL (l.drop (k + 1)) ∧ lnE (l.drop k) = lnE (l.drop (k + 1)) ∧ lnR (l.drop k) = lnR (l.drop (k + 1)) := by
  rw [List.getD_eq_getElem?_getD, List.getElem?_eq_getElem hk] at h ⊢
  have h : ¬ l[k] = 10 := h
  rw [List.drop_eq_getElem_cons hk, lnL, lnE, lnR, if_neg h, if_neg h, if_neg h]
  exact ⟨rfl, rfl, rfl⟩
/-- Up to k there is no line feed from i on. -/
def LnAt (l : List UInt8) (i k : Nat) : Prop := i ≤ k ∧ lnL (l.drop i) = (l.take k).drop i ++ lnL (l.drop k) ∧ lnE (l.drop i) = lnE (l.drop k) ∧ lnR (l.drop i) = lnR (l.drop k)
theorem LnAt.first (l : List UInt8) (i : Nat) : LnAt l i i := ⟨Nat.le_refl _, by rw [List.drop_take, Nat.sub_self, List.take_zero, List.nil_append], rfl, rfl⟩
theorem LnAt.next {l : List UInt8} {i k : Nat} (h : LnAt l i k) (hk : k < l.length) (hc : l.getD k 0 ≠ 10) : LnAt l i (k + 1) := by
  obtain ⟨h0, h1, h2, h3⟩ := h
  obtain ⟨p1, p2, p3⟩ := ln_pass l k hk hc
  refine ⟨by omega, ?_, by rw [h2, p2], by rw [h3, p3]⟩
  rw [h1, p1, take_byte l k hk, List.drop_append_of_le_length (by rw [List.length_take]; omega), List.append_assoc]
  rfl
theorem LnAt.hit {l : List UInt8} {i k : Nat} (h : LnAt l i k) (hk : k < l.length) (hc : l.getD k 0 = 10) : lnL (l.drop i) = (l.take k).drop i ∧ lnE (l.drop i) = true ∧ lnR (l.drop i) = l.drop (k + 1) := by
  obtain ⟨h0, h1, h2, h3⟩ := h
  obtain ⟨p1, p2, p3⟩ := ln_hit l k hk hc
  rw [h1, h2, h3, p1, p2, p3, List.append_nil]
  exact ⟨rfl, rfl, rfl⟩
theorem LnAt.miss {l : List UInt8} {i : Nat} (h : LnAt l i l.length) : lnL (l.drop i) = l.drop i ∧ lnE (l.drop i) = false ∧ lnR (l.drop i) = [] := by
  obtain ⟨h0, h1, h2, h3⟩ := h
  rw [h1, h2, h3, List.drop_length, List.take_length]
  exact ⟨List.append_nil _, rfl, rfl⟩

set_option maxHeartbeats 8000000 in
theorem refLine_any (l : List UInt8) (hl : l.length ≤ 1000000000) (i : Nat) (hi : i ≤ l.length) (w : World) :
    Calls Tryz.prog 48 #[.string (S l), .int .i64 (i : Int)] w fun e w' => w' = w ∧ ∃ n : Nat, e = .returned (.tuple #[.string (S (lnL (l.drop i))), .int .i64 (n : Int), .bool (lnE (l.drop i))]) ∧ l.drop n = lnR (l.drop i) ∧ n ≤ l.length ∧ (lnE (l.drop i) = true → i < n) := by
  obtain ⟨z, hz⟩ : ∃ z, l.length = z := ⟨_, rfl⟩
  have hsz : (S l).size = z := by rw [S_size, hz]
  have hbt := get_bt (S l)
  have HBS := Lib.hid (fun i => bt_S l i)
  have HX := Lib.hid (fun k => S_extract l i k)
  have HZ := Lib.hid hz
  obtain ⟨Q, hQ⟩ : ∃ Q, (fun (e : Ending) (w' : World) => w' = w ∧ ∃ n : Nat, e = .returned (.tuple #[.string (S (lnL (l.drop i))), .int .i64 (n : Int), .bool (lnE (l.drop i))]) ∧ l.drop n = lnR (l.drop i) ∧ n ≤ l.length ∧ (lnE (l.drop i) = true → i < n)) = Q := ⟨_, rfl⟩
  rw [hQ]
  have HHit : RowKit.Hid (∀ k, LnAt l i k → k < z → l.getD k 0 = 10 → Q (.returned (.tuple #[.string ((S l).extract i k), .int .i64 ((k : Int) + 1), .bool true])) w) := by
    intro k h1 h2 h3
    rw [← hz] at h2
    obtain ⟨p1, p2, p3⟩ := h1.hit h2 h3
    rw [← hQ]
    refine ⟨rfl, k + 1, by rw [HX.out k, p1, p2]; rfl, p3.symm, by omega, fun _ => ?_⟩
    have := h1.1
    omega
  have HMiss : RowKit.Hid (LnAt l i z → Q (.returned (.tuple #[.string ((S l).extract i z), .int .i64 (z : Int), .bool false])) w) := by
    intro h1
    rw [← hz] at h1 ⊢
    obtain ⟨p1, p2, p3⟩ := h1.miss
    rw [← hQ]
    refine ⟨rfl, l.length, by rw [HX.out, p1, p2, List.take_length], by rw [List.drop_length, p3], Nat.le_refl _, fun h => ?_⟩
    rw [p2] at h
    cases h
  rw [hz] at hl hi
  have HFirst := Lib.hid (LnAt.first l i)
  clear hQ hz
  generalize S l = s at *
  go_enter Tryz.func48, Tryz.ntmps48
  go_wp2
  go_loopw [7] (fun p wr => ∃ k : Nat, k ≤ z ∧ p = .int .i64 (k : Int) ∧ RowKit.Hid (LnAt l i k) ∧ i ≤ k ∧ wr = w) (fun p _ => z - (intOf p).toNat)
  case atStart => exact ⟨i, hi, rfl, HFirst, Nat.le_refl _, rfl⟩
  case round =>
    obtain ⟨k, hk, rfl, HA, hik, rfl⟩ := hrel
    by_cases hkz : k < z
    · have i1 : (0 : Int) ≤ (k : Int) := by omega
      have i2 : (k : Int) < (z : Int) := by omega
      have i3 : (0 : Int) ≤ (i : Int) := by omega
      have i4 : (i : Int) ≤ (k : Int) := by omega
      have i5 : (k : Int) ≤ (z : Int) := by omega
      have hbk := HBS.out k
      have hm := (l.getD k 0).toNat_lt
      obtain ⟨b, hb⟩ : ∃ b, (l.getD k 0).toNat = b := ⟨_, rfl⟩
      rw [hb] at hbk hm
      by_cases hc : l.getD k 0 = 10
      · have hb10 : b = 10 := by rw [← hb, hc]; rfl
        subst hb10
        have HF := Lib.hid (HHit.out k HA.out hkz hc)
        clear hc hb
        go_wp2
        first | exact HF.out | (go_ret; exact HF.out) | (refine bodyPost_ret (results_tmp3 rfl _ _ _) rfl ?_; exact HF.out)
      · have t1 : ((b : Int) == 10) = false := by
          have : b ≠ 10 := fun e => hc (UInt8.toNat_inj.1 (by rw [hb, e]; rfl))
          simp; omega
        have HA2 := Lib.hid (LnAt.next HA.out (by rw [HZ.out]; exact hkz) hc)
        clear hc hb
        go_wp2
        go_roundw
        case rel => exact ⟨k + 1, by omega, by go_num, HA2, by omega, by first | rfl | trivial⟩
        case measure => simp [intOf]; omega
    · obtain rfl : k = z := by omega
      have i3 : (0 : Int) ≤ (i : Int) := by omega
      have i4 : (i : Int) ≤ (k : Int) := by omega
      have HF := Lib.hid (HMiss.out HA.out)
      go_wp2
      first | exact HF.out | (go_ret; exact HF.out) | (refine bodyPost_ret (results_tmp3 rfl _ _ _) rfl ?_; exact HF.out)
end

section
open Go.RowKit Go.PlainAid
theorem dgt_u8 (r : Nat) (h : r ≤ 9) : u8V (dgt r) = .int .u8 (48 + (r : Int)) := by
  unfold u8V
  rw [dgt_nat r h]
  rfl
set_option maxHeartbeats 8000000 in
theorem refDecimal_any (n : Nat) (hn : n ≤ 1000000000) (w : World) :
    Calls Tryz.prog 41 #[.int .i64 (n : Int)] w fun e w' => e = .returned (.string (S (Lib.decDigits n))) ∧ Below w.heap.size w w' := by
  obtain ⟨Q, hQ⟩ : ∃ Q, (fun (e : Ending) (w' : World) => e = .returned (.string (S (Lib.decDigits n))) ∧ Below w.heap.size w w') = Q := ⟨_, rfl⟩
  rw [hQ]
  have HQ : RowKit.Hid (∀ e w', (e = .returned (.string (S (Lib.decDigits n))) ∧ Below w.heap.size w w') → Q e w') := by rw [← hQ]; exact fun _ _ h => h
  clear hQ
  go_enter Tryz.func41, Tryz.ntmps41
  go_wp2
  go_loopw [0, 3] (fun v o wr => ∃ (m : Nat) (l : List UInt8), v = .int .i64 (m : Int) ∧ o = .string (S l) ∧ m ≤ n ∧ l.length + m ≤ n ∧ RowKit.Hid (Lib.decDigits m ++ l = Lib.decDigits n) ∧ RowKit.Hid (Below w.heap.size w wr)) (fun v _ _ => (intOf v).toNat)
  case atStart => exact ⟨n, [], rfl, rfl, Nat.le_refl _, by simp, List.append_nil _, Below.refl _ _⟩
  case round =>
    obtain ⟨m, l, rfl, rfl, hm, hl, HD, HB⟩ := hrel
    have hsz : (S l).size = l.length := S_size l
    have hl9 : l.length ≤ 1000000000 := by omega
    by_cases h10 : 10 ≤ m
    · have t1 : decide ((10 : Int) ≤ (m : Int)) = true := decide_eq_true (by omega)
      have t1' : decide (10 ≤ m) = true := decide_eq_true h10
      have r1 : Int.tmod (m : Int) 10 = ((m % 10 : Nat) : Int) := by rw [Int.tmod_eq_emod_of_nonneg (by omega)]; omega
      have r2 : (m : Int) % 10 = ((m % 10 : Nat) : Int) := by omega
      have q1 : Int.tdiv (m : Int) 10 = ((m / 10 : Nat) : Int) := by rw [Int.tdiv_eq_ediv_of_nonneg (by omega)]; omega
      have q2 : (m : Int) / 10 = ((m / 10 : Nat) : Int) := by omega
      have HS : RowKit.Hid (S [dgt (m % 10)] ++ S l = S (dgt (m % 10) :: l) ∧ Lib.decDigits (m / 10) ++ (dgt (m % 10) :: l) = Lib.decDigits n) := by
        refine ⟨S_append _ _, ?_⟩
        rw [← HD.out, decS m (by omega), List.append_assoc]
        rfl
      have hB := (Byt.one wr (dgt (m % 10))).str
      rw [dgt_u8 _ (by omega)] at hB
      have hr9 : m % 10 ≤ 9 := by omega
      have hq : m / 10 + 9 ≤ m := by omega
      have HM := Lib.hid (And.intro hm hl)
      have HQm := Lib.hid hq
      have hz1 : (S [dgt (m % 10)]).size = 1 := rfl
      have hqb : m / 10 ≤ 1000000000 := by omega
      clear HD h10 hm hl hq
      generalize m % 10 = r at *
      generalize m / 10 = q at *
      have i0 : (0 : Int) ≤ 48 + (r : Int) := by omega
      have i1 : (48 : Int) + (r : Int) ≤ 255 := by omega
      go_wp2
      go_roundw
      case rel =>
        have h1 := HM.out
        have h2 := HQm.out
        refine ⟨q, dgt r :: l, by go_num, by rw [HS.out.1], by omega, by rw [List.length_cons]; omega, HS.out.2, ?_⟩
        exact HB.out.alloc HB.out.size _
      case measure =>
        have h2 := HQm.out
        simp [intOf]
        omega
    · have t1 : decide ((10 : Int) ≤ (m : Int)) = false := decide_eq_false (by omega)
      have t1' : decide (10 ≤ m) = false := decide_eq_false h10
      have HS : RowKit.Hid (S [dgt m] ++ S l = S (Lib.decDigits n)) := by
        unfold RowKit.Hid
        rw [S_append, ← HD.out, dec1 m (by omega)]
      have hB := (Byt.one wr (dgt m)).str
      rw [dgt_u8 _ (by omega)] at hB
      have i0 : (0 : Int) ≤ 48 + (m : Int) := by omega
      have i1 : (48 : Int) + (m : Int) ≤ 255 := by omega
      have hz1 : (S [dgt m]).size = 1 := rfl
      have HBf := Lib.hid (fun x => HB.out.alloc HB.out.size x)
      clear HD h10
      go_wp2
      rw [HS.out]
      first | exact HQ.out _ _ ⟨rfl, HBf.out _⟩ | (go_ret; exact HQ.out _ _ ⟨rfl, HBf.out _⟩)

set_option maxHeartbeats 8000000 in
theorem refheader_any (id v k : Int) (lang : List UInt8) (h1 : 0 ≤ id) (h2 : id ≤ 1000000000) (h3 : 0 ≤ v) (h4 : v ≤ 1000000000) (h5 : 1 ≤ k) (h6 : k ≤ 4) (hl : lang.length ≤ 1000000000) (w : World) :
    Calls Tryz.prog 27 #[.int .i64 id, .int .i64 v, .int .i64 k, .string (S lang)] w fun e w' => e = .returned (.string (S (hdrX id v k lang))) ∧ Below w.heap.size w w' := by
  obtain ⟨Q, hQ⟩ : ∃ Q, (fun (e : Ending) (w' : World) => e = .returned (.string (S (hdrX id v k lang))) ∧ Below w.heap.size w w') = Q := ⟨_, rfl⟩
  rw [hQ]
  have HQ : RowKit.Hid (∀ e w', (e = .returned (.string (S (hdrX id v k lang))) ∧ Below w.heap.size w w') → Q e w') := by rw [← hQ]; exact fun _ _ h => h
  clear hQ
  have c1 := fun W => refDecimal_any id.toNat (by omega) W
  have c2 := fun W => refDecimal_any v.toNat (by omega) W
  rw [show ((id.toNat : Nat) : Int) = id by omega] at c1
  rw [show ((v.toNat : Nat) : Int) = v by omega] at c2
  have c3 := Lib.hid (fun W => refKind_any k h5 h6 W)
  replace c1 := Lib.hid c1
  replace c2 := Lib.hid c2
  have z1 : (S (Lib.decDigits id.toNat)).size ≤ 10 := by rw [S_size]; exact dec_len 9 _ (by omega)
  have z2 : (S (Lib.decDigits v.toNat)).size ≤ 10 := by rw [S_size]; exact dec_len 9 _ (by omega)
  have z3 : (S (kindW k)).size ≤ 7 := by
    rw [S_size]
    unfold kindW
    split
    · decide
    · split
      · decide
      · split <;> decide
  have z4 : (S lang).size ≤ 1000000000 := by rw [S_size]; exact hl
  have HS : RowKit.Hid ((⟨#[61]⟩ : ByteArray) ++ S (Lib.decDigits id.toNat) ++ ⟨#[32]⟩ ++ S (Lib.decDigits v.toNat) ++ ⟨#[32]⟩ ++ S (kindW k) ++ ⟨#[32]⟩ ++ S lang = S (hdrX id v k lang)) := by
    unfold RowKit.Hid
    rw [show (⟨#[61]⟩ : ByteArray) = S [61] from rfl, show (⟨#[32]⟩ : ByteArray) = S [32] from rfl]
    simp only [S_append]
    unfold hdrX midX
    simp
  generalize S (Lib.decDigits id.toNat) = a at *
  generalize S (Lib.decDigits v.toNat) = b at *
  generalize S (kindW k) = c at *
  generalize S lang = d at *
  generalize S (hdrX id v k lang) = r at *
  clear h1 h2 h3 h4 h5 h6 hl
  have j1 : ((⟨#[61]⟩ : ByteArray) ++ a).size ≤ 100 := by rw [ByteArray.size_append, show (⟨#[61]⟩ : ByteArray).size = 1 from rfl]; omega
  have j2 : ((⟨#[61]⟩ : ByteArray) ++ a ++ ⟨#[32]⟩).size ≤ 101 := by rw [ByteArray.size_append, show (⟨#[32]⟩ : ByteArray).size = 1 from rfl]; omega
  have j3 : ((⟨#[61]⟩ : ByteArray) ++ a ++ ⟨#[32]⟩ ++ b).size ≤ 200 := by rw [ByteArray.size_append]; omega
  have j4 : ((⟨#[61]⟩ : ByteArray) ++ a ++ ⟨#[32]⟩ ++ b ++ ⟨#[32]⟩).size ≤ 201 := by rw [ByteArray.size_append, show (⟨#[32]⟩ : ByteArray).size = 1 from rfl]; omega
  have j5 : ((⟨#[61]⟩ : ByteArray) ++ a ++ ⟨#[32]⟩ ++ b ++ ⟨#[32]⟩ ++ c).size ≤ 300 := by rw [ByteArray.size_append]; omega
  have j6 : ((⟨#[61]⟩ : ByteArray) ++ a ++ ⟨#[32]⟩ ++ b ++ ⟨#[32]⟩ ++ c ++ ⟨#[32]⟩).size ≤ 301 := by rw [ByteArray.size_append, show (⟨#[32]⟩ : ByteArray).size = 1 from rfl]; omega
  go_enter Tryz.func27, Tryz.ntmps27
  go_wp2_with fail
  refine (c1.out w).mono ?_
  rintro e w1 ⟨rfl, hb1⟩
  have B1 := Lib.hid hb1
  clear hb1 c1
  go_wp2_with fail
  refine (c2.out w1).mono ?_
  rintro e w2 ⟨rfl, hb2⟩
  have B2 := Lib.hid (B1.out.trans (hb2.mono B1.out.size))
  clear hb2 c2
  go_wp2_with fail
  refine (c3.out w2).mono ?_
  rintro e w3 ⟨rfl, hw3⟩
  rw [hw3]
  clear hw3 c3
  go_wp2
  rw [HS.out]
  first | exact HQ.out _ _ ⟨rfl, B2.out⟩ | (go_ret; exact HQ.out _ _ ⟨rfl, B2.out⟩)
end

section
open Go.RowKit Go.PlainAid
theorem digN_int (x : UInt8) : digB x = (!(decide ((x.toNat : Int) < 48)) && !(decide ((57 : Int) < (x.toNat : Int)))) := by
  unfold digB
  rw [← decide_not, ← decide_not]
  congr 1
  · rw [decide_eq_decide]; omega
  · rw [decide_eq_decide]; omega
theorem allN_iff : ∀ (l : List UInt8), l.all digB = true ↔ ∀ i, i < l.length → digB (l.getD i 0) = true := by
  intro l
  rw [List.all_eq_true]
  constructor
  · intro h i hi
    rw [List.getD_eq_getElem?_getD, List.getElem?_eq_getElem hi]
    exact h _ (List.getElem_mem _)
  · intro h x hx
    obtain ⟨i, hi, rfl⟩ := List.mem_iff_getElem.1 hx
    have := h i hi
    rwa [List.getD_eq_getElem?_getD, List.getElem?_eq_getElem hi] at this
theorem valN_take (l : List UInt8) (k : Nat) (h : k < l.length) : valV (l.take (k + 1)) = 10 * valV (l.take k) + ((l.getD k 0).toNat - 48) := by
  rw [take_byte l k h, valV_snoc]
theorem valN_lt : ∀ (k : Nat) (l : List UInt8), (∀ j, j < k → digB (l.getD j 0) = true) → k ≤ l.length → valV (l.take k) < 10 ^ k
  | 0, l, _, _ => by simp [valV]
  | k + 1, l, h, hk => by
    have := valN_lt k l (fun j hj => h j (by omega)) (by omega)
    have hd := (digB_iff _).1 (h k (by omega))
    rw [valN_take l k (by omega), Nat.pow_succ]
    omega
theorem allN_bad (l : List UInt8) (k : Nat) (hk : k < l.length) (h : digB (l.getD k 0) = false) : l.all digB = false := by
  cases e : l.all digB
  · rfl
  · rw [(allN_iff l).1 e k hk] at h
    cases h
def numV (l : List UInt8) : Nat × Bool := match numO l with
  | some n => (n, true)
  | none => (0, false)

set_option maxHeartbeats 8000000 in
theorem refNumber11_any (l : List UInt8) (hl : l.length ≤ 1000000000) (x : Nat) (b : Bool) (hx : numV l = (x, b)) (w : World) :
    Calls Tryz.prog 67 #[.string (S l)] w fun e w' => e = .returned (.tuple #[.int .i64 (x : Int), .bool b]) ∧ w' = w := by
  obtain ⟨z, hz⟩ : ∃ z, l.length = z := ⟨_, rfl⟩
  have hsz : (S l).size = z := by rw [S_size, hz]
  have hbt := get_bt (S l)
  have HBS := Lib.hid (fun i => bt_S l i)
  rw [hz] at hl
  by_cases hlen : z < 1 ∨ 9 < z
  · have hN : x = 0 ∧ b = false := by
      unfold numV numO at hx
      rw [hz, if_pos (by omega)] at hx
      exact ⟨(Prod.mk.inj hx).1.symm, (Prod.mk.inj hx).2.symm⟩
    obtain ⟨rfl, rfl⟩ := hN
    clear hx hz
    generalize S l = s at *
    by_cases h1 : z < 1
    · have t1 : decide ((z : Int) < 1) = true := decide_eq_true (by omega)
      have t1' : decide (z < 1) = true := decide_eq_true h1
      obtain rfl : z = 0 := by omega
      clear hlen h1
      go_enter Tryz.func67, Tryz.ntmps67
      go_wp2
      first | exact ⟨rfl, rfl⟩ | (go_ret2; exact ⟨rfl, rfl⟩)
    · have t1 : decide ((z : Int) < 1) = false := decide_eq_false (by omega)
      have t1' : decide (z < 1) = false := decide_eq_false h1
      have t2 : decide ((9 : Int) < (z : Int)) = true := decide_eq_true (by omega)
      have t2' : decide (9 < z) = true := decide_eq_true (by omega)
      clear hlen h1
      go_enter Tryz.func67, Tryz.ntmps67
      go_wp2
      first | exact ⟨rfl, rfl⟩ | (go_ret2; exact ⟨rfl, rfl⟩)
  have t1 : decide ((z : Int) < 1) = false := decide_eq_false (by omega)
  have t1' : decide (z < 1) = false := decide_eq_false (by omega)
  have t2 : decide ((9 : Int) < (z : Int)) = false := decide_eq_false (by omega)
  have t2' : decide (9 < z) = false := decide_eq_false (by omega)
  have i0 : (0 : Int) < (z : Int) := by omega
  have hb0 := HBS.out 0
  have hm0 := (l.getD 0 0).toNat_lt
  obtain ⟨c0, hc0⟩ : ∃ c, (l.getD 0 0).toNat = c := ⟨_, rfl⟩
  rw [hc0] at hb0 hm0
  by_cases hlead : c0 = 48 ∧ 1 < z
  · have hN : x = 0 ∧ b = false := by
      unfold numV numO at hx
      rw [hz, if_pos (.inr (.inr ⟨UInt8.toNat_inj.1 (by rw [hc0, hlead.1]; rfl), hlead.2⟩))] at hx
      exact ⟨(Prod.mk.inj hx).1.symm, (Prod.mk.inj hx).2.symm⟩
    obtain ⟨rfl, rfl⟩ := hN
    obtain ⟨rfl, h1⟩ := hlead
    have t3 : decide ((1 : Int) < (z : Int)) = true := decide_eq_true (by omega)
    have t3' : decide (1 < z) = true := decide_eq_true h1
    clear hx hz hc0 hlen h1
    generalize S l = s at *
    go_enter Tryz.func67, Tryz.ntmps67
    go_wp2
    first | exact ⟨rfl, rfl⟩ | (go_ret2; exact ⟨rfl, rfl⟩)
  have hx2 : (if l.all digB = true then (valV l, true) else (0, false)) = (x, b) := by
    unfold numV numO at hx
    rw [hz, if_neg (by
      rintro (g | g | ⟨g1, g2⟩)
      · omega
      · omega
      · exact hlead ⟨by rw [← hc0, g1]; rfl, g2⟩)] at hx
    revert hx
    cases l.all digB
    · exact id
    · exact id
  have HBad : RowKit.Hid (∀ k, k < z → digB (l.getD k 0) = false → x = 0 ∧ b = false) := by
    intro k hk h
    rw [if_neg (by rw [allN_bad l k (by omega) h]; decide)] at hx2
    exact ⟨(Prod.mk.inj hx2).1.symm, (Prod.mk.inj hx2).2.symm⟩
  have HAll : RowKit.Hid ((∀ j, j < z → digB (l.getD j 0) = true) → x = valV (l.take z) ∧ b = true) := by
    intro h
    rw [if_pos ((allN_iff l).2 (by rw [hz]; exact h))] at hx2
    rw [← hz, List.take_length]
    exact ⟨(Prod.mk.inj hx2).1.symm, (Prod.mk.inj hx2).2.symm⟩
  have HV := Lib.hid (fun k (hk : k < z) => valN_take l k (by omega))
  have HP : RowKit.Hid (∀ k, k ≤ z → (∀ j, j < k → digB (l.getD j 0) = true) → valV (l.take k) < 10 ^ 9) := by
    intro k hk h
    exact Nat.lt_of_lt_of_le (valN_lt k l h (by omega)) (Nat.pow_le_pow_right (by decide) (by omega))
  have H0 : RowKit.Hid (valV (l.take 0) = 0) := by unfold RowKit.Hid; rw [List.take_zero]; rfl
  have hz9 : z ≤ 9 := by omega
  clear hx hx2 hz
  have HLead : RowKit.Hid (¬ (c0 = 48 ∧ 1 < z)) := hlead
  clear hlead hc0 hlen
  generalize S l = s at *
  go_enter Tryz.func67, Tryz.ntmps67
  go_upto_region 1 with fail
  go_cut [23] from 6 to 23 (fun x wx => x = .bool false ∧ wx = w)
  case first =>
    by_cases h48 : c0 = 48
    · have h1 : ¬ 1 < z := fun g => HLead.out ⟨h48, g⟩
      obtain rfl : z = 1 := by omega
      subst h48
      go_wp2
      go_meet
      exact ⟨rfl, rfl⟩
    · have u1 : ((c0 : Int) == 48) = false := by simp; omega
      clear h48
      go_wp2
      go_meet
      exact ⟨rfl, rfl⟩
  case rest =>
    obtain ⟨rfl, hwx⟩ := hcut
    rw [hwx]
    clear hwx HLead hb0 hm0
    go_wp2
    go_loopw [4, 5] (fun v p wr => ∃ k : Nat, k ≤ z ∧ p = .int .i64 (k : Int) ∧ v = .int .i64 ((valV (l.take k) : Nat) : Int) ∧ RowKit.Hid (∀ j, j < k → digB (l.getD j 0) = true) ∧ w = wr) (fun _ p _ => z - (intOf p).toNat)
    case atStart => exact ⟨0, Nat.zero_le _, rfl, by rw [H0.out]; rfl, (fun j hj => by omega), rfl⟩
    case round =>
      obtain ⟨k, hk, rfl, rfl, HJ, rfl⟩ := hrel
      by_cases hkz : k < z
      · have i1 : (0 : Int) ≤ (k : Int) := by omega
        have i2 : (k : Int) < (z : Int) := by omega
        have hbk := HBS.out k
        have hlow := digN_int (l.getD k 0)
        have HBk := Lib.hid (HBad.out k hkz)
        have hv := HV.out k hkz
        have hp := HP.out k hk HJ.out
        have HP2 := Lib.hid (HP.out (k + 1) (by omega))
        have hm := (l.getD k 0).toNat_lt
        have HJ2 : RowKit.Hid (digB (l.getD k 0) = true → ∀ j, j < k + 1 → digB (l.getD j 0) = true) := by
          intro h0 j hj
          rcases Nat.lt_or_ge j k with h | h
          · exact HJ.out j h
          · rw [show j = k by omega]; exact h0
        obtain ⟨V2, hV2⟩ : ∃ V, valV (l.take (k + 1)) = V := ⟨_, rfl⟩
        rw [hV2] at hv HP2
        have HV2 := Lib.hid hV2
        clear hV2
        generalize valV (l.take k) = V at *
        generalize digB (l.getD k 0) = lo at *
        generalize (l.getD k 0).toNat = c at *
        by_cases h1 : c < 48
        · have t4 : decide ((c : Int) < 48) = true := decide_eq_true (by omega)
          have t4' : decide (c < 48) = true := decide_eq_true h1
          rw [t4] at hlow
          have hx := HBk.out (by rw [hlow]; rfl)
          obtain ⟨rfl, rfl⟩ := hx
          clear hlow HJ HJ2 h1 hv hp HP2 hm
          go_wp2
          first | exact ⟨rfl, rfl⟩ | (go_ret2; exact ⟨rfl, rfl⟩)
        · have t4 : decide ((c : Int) < 48) = false := decide_eq_false (by omega)
          have t4' : decide (c < 48) = false := decide_eq_false h1
          rw [t4] at hlow
          by_cases h2 : 57 < c
          · have t5 : decide ((57 : Int) < (c : Int)) = true := decide_eq_true (by omega)
            have t5' : decide (57 < c) = true := decide_eq_true h2
            rw [t5] at hlow
            have hx := HBk.out (by rw [hlow]; rfl)
            obtain ⟨rfl, rfl⟩ := hx
            clear hlow HJ HJ2 h1 hv hp HP2 hm h2
            go_wp2
            first | exact ⟨rfl, rfl⟩ | (go_ret2; exact ⟨rfl, rfl⟩)
          · have t5 : decide ((57 : Int) < (c : Int)) = false := decide_eq_false (by omega)
            have t5' : decide (57 < c) = false := decide_eq_false h2
            rw [t5] at hlow
            have hlo : lo = true := by rw [hlow]; rfl
            have HJ3 := Lib.hid (HJ2.out hlo)
            have hp3 := HP2.out HJ3.out
            have hsum : (V : Int) * 10 + ((c : Int) - 48) = (V2 : Int) := by omega
            have HS := Lib.hid hsum
            have hmx : (48 : Int) ≤ (c : Int) := by omega
            have hmy : (c : Int) - 48 ≤ 9 := by omega
            have hmz : (0 : Int) ≤ (c : Int) - 48 := by omega
            clear hlow HJ HJ2 h1 h2 HP2 hlo HBk hv hsum
            go_wp2
            go_roundw
            case rel =>
              exact ⟨k + 1, by omega, by go_num, by rw [HV2.out, ← HS.out], HJ3, trivial⟩
            case measure => simp [intOf]; omega
      · obtain rfl : k = z := by omega
        obtain ⟨rfl, rfl⟩ := HAll.out HJ.out
        have i3 : ¬ (k : Int) < (k : Int) := by omega
        clear HJ
        go_wp2
        first | exact ⟨rfl, rfl⟩ | (go_ret2; exact ⟨rfl, rfl⟩)
end

end Go.Proofs.YtnfallkeicehiaaGreatDoor
