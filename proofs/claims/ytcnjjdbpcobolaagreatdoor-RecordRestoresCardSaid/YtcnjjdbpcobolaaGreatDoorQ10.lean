/- Merged: R07H, PL07, TAllowed. -/
import Derived.Test.YtcnjjdbpcobolaaGreatDoorQ04
import Derived.Test.YtcnjjdbpcobolaaGreatDoorQ09
import Derived.Lib.ReplaceLaws
import Derived.Lib.Replace
import Derived.Lib.CountLaws
import Derived.Lib.IndexMore
import Derived.Lib.IndexLaws
import Derived.Lib.AtoiAll
import Derived.Lib.Join
import Derived.Lib.Strings
import Derived.Test.YtcnjjdbpcobolaaGreatDoorQ06
namespace Go.Proofs.YtcnjjdbpcobolaaGreatDoor

section
open Go.RowKit Go.PlainAid
/-- The first k texts with these bytes between them. -/
def joinK (c : List UInt8) (L : List (List UInt8)) : Nat → List UInt8
  | 0 => []
  | k + 1 => if k = 0 then L.getD 0 [] else joinK c L k ++ c ++ L.getD k []
theorem joinK_le (c : List UInt8) (L : List (List UInt8)) (hc : c.length ≤ 1000) (hL : ∀ i, (L.getD i []).length ≤ 1000000) : ∀ k, (joinK c L k).length ≤ k * 1001000
  | 0 => Nat.le_refl _
  | k + 1 => by
    have h := joinK_le c L hc hL k
    have h0 := hL 0
    have hk := hL k
    rw [joinK]
    by_cases h1 : k = 0
    · rw [if_pos h1]; omega
    · rw [if_neg h1, List.length_append, List.length_append]; omega
def plainL (subs : List Sub) (codes : List UInt8) : List UInt8 := joinK [32] (allL subs codes) (allL subs codes).length

set_option maxHeartbeats 8000000 in
theorem refJoin_any (v : Value) (L : List (List UInt8)) (c : List UInt8) (w : World) (hv : BL v L w) (hc : c.length ≤ 1000) (hL : ∀ i, (L.getD i []).length ≤ 1000000) (hn : L.length ≤ 1000) :
    Calls Tryz.prog 86 #[v, .string (S c)] w fun e w' => e = .returned (.string (S (joinK c L L.length))) ∧ w' = w := by
  obtain ⟨a, cap, rfl, hcap, hmax, _, hcell⟩ := hv
  unfold maxLen at hmax
  obtain ⟨n, hnn⟩ : ∃ n, L.length = n := ⟨_, rfl⟩
  have HCell := Lib.hid hcell
  have HLe := Lib.hid (joinK_le c L hc hL)
  have HL := Lib.hid hL
  rw [hnn] at hcap hn ⊢
  have HN := Lib.hid hnn
  have hcs := S_size c
  clear hcell hnn hL
  go_enter Tryz.func86, Tryz.ntmps86
  go_wp2
  go_loop [5, 6] (fun o i => ∃ k : Nat, k ≤ n ∧ i = .int .i64 (k : Int) ∧ o = .string (S (joinK c L k))) (fun _ i => n - (intOf i).toNat)
  case atStart => exact ⟨0, Nat.zero_le _, rfl, rfl⟩
  case round =>
    obtain ⟨k, hk, rfl, rfl⟩ := hrel
    by_cases hkn : k < n
    · obtain ⟨g, o, rfl, hg, c0⟩ := HCell.out k (by rw [HN.out]; exact hkn)
      have c1 : w.cell? ⟨g, o + k, none⟩ = some (.string (S (L.getD k []))) := c0
      clear c0
      have i1 : (0 : Int) ≤ (k : Int) := by omega
      have i2 : (k : Int) < (n : Int) := by omega
      have hb1 := HLe.out k
      have hb2 := HL.out k
      have HJ := Lib.hid (show joinK c L (k + 1) = if k = 0 then L.getD 0 [] else joinK c L k ++ c ++ L.getD k [] from rfl)
      have hj0 : k = 0 → joinK c L k = [] := fun h => by rw [h]; rfl
      have hz0 : k = 0 → L.getD 0 [] = L.getD k [] := fun h => by rw [h]
      have HJ0 := Lib.hid hj0
      have HZ0 := Lib.hid hz0
      clear hj0 hz0
      rw [← S_size] at hb1 hb2
      have HA1 := Lib.hid (S_append (joinK c L k) c)
      have HA2 := Lib.hid (S_append (joinK c L k ++ c) (L.getD k []))
      have HA3 := Lib.hid (S_append (joinK c L k) (L.getD k []))
      generalize L.getD k [] = x at *
      by_cases hk0 : k = 0
      · have HK := Lib.hid hk0
        have d0 : ¬ (0 < k) := by omega
        clear hk0
        go_wp2
        go_round
        case rel =>
          refine ⟨k + 1, by omega, by go_num, ?_⟩
          rw [HJ.out, if_pos HK.out, HA3.out, HJ0.out HK.out, HZ0.out HK.out, List.nil_append]
        case measure => simp [intOf]; omega
      · have d0 : 0 < k := by omega
        go_wp2
        go_round
        case rel =>
          refine ⟨k + 1, by omega, by go_num, ?_⟩
          rw [HJ.out, if_neg hk0, ← HA2.out, ← HA1.out]
        case measure => simp [intOf]; omega
    · obtain rfl : k = n := by omega
      go_wp2
      go_ret
      exact ⟨rfl, rfl⟩

set_option maxHeartbeats 4000000 in
theorem refPlain_any (f : Fld) (u : Value) (w : World) (hu : QL u f.subs w) (codes : List UInt8) (hz : codes.length ≤ 1000000) (hs : f.subs.length ≤ 1000) (hL : ∀ i, ((allL f.subs codes).getD i []).length ≤ 1000000) :
    Calls Tryz.prog 56 #[FV f u, .string (S codes)] w fun e w' => e = .returned (.string (S (plainL f.subs codes))) ∧ Below w.heap.size w w' := by
  have b0 : Below w.heap.size w (w.alloc (.cells #[.string (S f.tag), .string (S f.ind), u, .int .i64 f.auth] 35)) := (Below.refl w.heap.size w).alloc (Nat.le_refl _) _
  have cA := Lib.hid (refAll_any f u _ (hu.after b0) codes hz (by omega))
  have hl := allL_length f.subs codes
  have cJ := Lib.hid (fun v W hv => refJoin_any v (allL f.subs codes) [32] W hv (by decide) hL (by omega))
  have HB0 := Lib.hid b0
  have e32 : (⟨#[32]⟩ : ByteArray) = S [32] := rfl
  rw [← e32] at cJ
  unfold plainL
  unfold FV at cA ⊢
  generalize allL f.subs codes = M at *
  generalize S codes = cs at *
  clear hu hz hs hL hl b0 e32
  go_enter Tryz.func56, Tryz.ntmps56
  go_wp2_with fail
  refine (cA.out).mono ?_
  rintro e w5 ⟨v, rfl, hv, hb⟩
  go_wp2_with fail
  refine (cJ.out v _ hv).mono ?_
  rintro e w6 ⟨rfl, rfl⟩
  have HB := Lib.hid (HB0.out.trans (hb.mono HB0.out.size))
  clear hb hv
  go_wp2
  go_ret
  exact ⟨rfl, HB.out⟩
end

section
/-! strings.ReplaceAll. -/
theorem rep_hit (old new l : List UInt8) (h0 : old ≠ []) (h : old.isPrefixOf l = true) : Lib.replaceK old new (Lib.count l old) l = new ++ Lib.replaceK old new (Lib.count (l.drop old.length) old) (l.drop old.length) := by
  have hi : Lib.index l old = ((0 : Nat) : Int) := by
    cases l with
    | nil =>
      cases old with
      | nil => exact absurd rfl h0
      | cons _ _ => simp at h
    | cons b t => rw [Lib.index, if_pos h]; rfl
  rw [Lib.count_hit h0 hi, Nat.add_comm 1, Lib.replaceK_hit _ _ _ _ 0 hi, List.take_zero, List.nil_append, Nat.zero_add]
theorem rep_miss (old new l : List UInt8) (b : UInt8) (h0 : old ≠ []) (h : old.isPrefixOf (b :: l) = false) : Lib.replaceK old new (Lib.count (b :: l) old) (b :: l) = b :: Lib.replaceK old new (Lib.count l old) l := by
  have hn : ¬ (old.isPrefixOf (b :: l) = true) := by rw [h]; intro h; cases h
  rcases Int.lt_or_le (Lib.index l old) 0 with hneg | hp
  · have hm : Lib.index l old = -1 := by have := Lib.index_ge l old; omega
    have hi : Lib.index (b :: l) old = -1 := by
      rw [Lib.index, if_neg hn, hm]
      rfl
    rw [Lib.count_miss hm, Lib.count_miss hi]
    rfl
  · obtain ⟨i, hm⟩ : ∃ i : Nat, Lib.index l old = i := ⟨(Lib.index l old).toNat, by omega⟩
    have hi : Lib.index (b :: l) old = ((i + 1 : Nat) : Int) := by
      rw [Lib.index, if_neg hn, hm, if_neg]
      · rfl
      · intro h
        have := beq_iff_eq.1 h
        omega
    rw [Lib.count_hit h0 hm, Lib.count_hit h0 hi, Nat.add_comm 1, Nat.add_comm 1, Lib.replaceK_hit _ _ _ _ i hm, Lib.replaceK_hit _ _ _ _ (i + 1) hi]
    rw [show i + 1 + old.length = (i + old.length) + 1 by omega, List.take_succ_cons, List.drop_succ_cons, List.cons_append, List.cons_append]
theorem rep_nil (old new : List UInt8) (h0 : old ≠ []) : Lib.replaceK old new (Lib.count [] old) [] = [] := by
  have : Lib.index [] old = -1 := by
    rw [Lib.index, if_neg]
    cases old with
    | nil => exact absurd rfl h0
    | cons _ _ => simp
  rw [Lib.count_miss this]
  rfl
theorem rep_all (old new l : List UInt8) (hne : old ≠ new) : Lib.replaceAll l old new = Lib.replaceK old new (Lib.count l old) l := by
  unfold Lib.replaceAll Lib.replace Lib.replaceNum
  rw [if_neg, if_pos (Or.inl (by decide))]
  intro h
  exact hne (beq_iff_eq.1 h)
/-- One byte by a text. -/
def subL (c : UInt8) (d : List UInt8) (l : List UInt8) : List UInt8 := l.flatMap fun x => if x = c then d else [x]
theorem one_prefix (c b : UInt8) (l : List UInt8) : [c].isPrefixOf (b :: l) = decide (b = c) := by
  show (c == b && _) = _
  rw [show ([] : List UInt8).isPrefixOf l = true from by cases l <;> rfl, Bool.and_true]
  rw [Bool.eq_iff_iff, beq_iff_eq, decide_eq_true_iff]
  exact eq_comm
theorem sub_K (c : UInt8) (d : List UInt8) : ∀ l : List UInt8, Lib.replaceK [c] d (Lib.count l [c]) l = subL c d l
  | [] => rep_nil _ _ (by simp)
  | b :: l => by
    have ih := sub_K c d l
    unfold subL at ih ⊢
    rw [List.flatMap_cons]
    by_cases h : b = c
    · rw [rep_hit [c] d (b :: l) (by simp) (by rw [one_prefix]; exact decide_eq_true h), if_pos h]
      show d ++ Lib.replaceK [c] d (Lib.count l [c]) l = _
      rw [ih]
    · rw [rep_miss [c] d l b (by simp) (by rw [one_prefix]; exact decide_eq_false h), if_neg h, ih]
      rfl
theorem sub_all (c : UInt8) (d l : List UInt8) (hne : [c] ≠ d) : Lib.replaceAll l [c] d = subL c d l := by rw [rep_all _ _ _ hne, sub_K]
theorem sub_dbl : ∀ l : List UInt8, subL 36 [36, 36] l = dblL l
  | [] => rfl
  | x :: t => by
    have ih := sub_dbl t
    unfold subL at ih ⊢
    rw [List.flatMap_cons, ih, dblL]
    split <;> rfl
theorem sub_un : ∀ l : List UInt8, subL 35 [32] l = l.map unB
  | [] => rfl
  | x :: t => by
    have ih := sub_un t
    unfold subL at ih ⊢
    rw [List.flatMap_cons, ih, List.map_cons]
    unfold unB
    split <;> rfl
theorem sub_mark (a b : UInt8) : subL 32 [35] [a, b] = markB a ++ markB b := by
  unfold subL markB
  simp
/-- All bytes but the blanks are digits: of two bytes, each is a blank or a digit. -/
theorem sub_inds (a b : UInt8) : (subL 32 [] [a, b]).all digB = (indB a && indB b) := by
  have one : ∀ x : UInt8, (if x = 32 then ([] : List UInt8) else [x]).all digB = indB x := by
    intro x
    unfold indB
    by_cases h : x = 32
    · rw [if_pos h]; simp [h]
    · rw [if_neg h]; simp [h]
  show ((if a = 32 then ([] : List UInt8) else [a]) ++ ((if b = 32 then ([] : List UInt8) else [b]) ++ [])).all digB = _
  rw [List.append_nil, List.all_append, one a, one b]
theorem two_36 (x : UInt8) (l : List UInt8) (h : x ≠ 36) : [36, 36].isPrefixOf (x :: l) = false := by
  show ((36 : UInt8) == x && _) = false
  rw [beq_eq_false_iff_ne.2 (fun e => h e.symm), Bool.false_and]
theorem halve_K : ∀ v : List UInt8, Lib.replaceK [36, 36] [36] (Lib.count (dblL v) [36, 36]) (dblL v) = v
  | [] => rep_nil _ _ (by simp)
  | x :: t => by
    have ih := halve_K t
    rw [dblL]
    by_cases h : x = 36
    · rw [if_pos h, rep_hit [36, 36] [36] (36 :: 36 :: dblL t) (by simp) (by simp)]
      show [36] ++ Lib.replaceK [36, 36] [36] (Lib.count (dblL t) [36, 36]) (dblL t) = _
      rw [ih, h]
      rfl
    · rw [if_neg h, rep_miss [36, 36] [36] (dblL t) x (by simp) (two_36 x _ h), ih]
/-- Two dollars by one. -/
def halveL (l : List UInt8) : List UInt8 := Lib.replaceAll l [36, 36] [36]
theorem halve_dbl (v : List UInt8) : halveL (dblL v) = v := by
  unfold halveL
  rw [rep_all _ _ _ (by simp), halve_K]

/-! strings.Cut at a byte. -/
theorem index_one (c : UInt8) : ∀ l : List UInt8, c ∉ l → Lib.index l [c] = -1
  | [], _ => rfl
  | b :: l, h => by
    have hb : ¬ ([c].isPrefixOf (b :: l) = true) := by
      rw [one_prefix]
      simp only [List.mem_cons, not_or] at h
      rw [decide_eq_true_iff]
      exact fun e => h.1 e.symm
    rw [Lib.index, if_neg hb, index_one c l (fun h' => h (List.mem_cons_of_mem _ h'))]
    rfl
theorem index_at (c : UInt8) : ∀ (a r : List UInt8), c ∉ a → Lib.index (a ++ c :: r) [c] = (a.length : Int)
  | [], r, _ => by
    show Lib.index (c :: r) [c] = 0
    rw [Lib.index, if_pos (by rw [one_prefix]; simp)]
  | b :: a, r, h => by
    have hb : ¬ ([c].isPrefixOf (b :: (a ++ c :: r)) = true) := by
      rw [one_prefix]
      simp only [List.mem_cons, not_or] at h
      rw [decide_eq_true_iff]
      exact fun e => h.1 e.symm
    show Lib.index (b :: (a ++ c :: r)) [c] = _
    rw [Lib.index, if_neg hb, index_at c a r (fun h' => h (List.mem_cons_of_mem _ h')), if_neg]
    · simp
    · intro h
      have := beq_iff_eq.1 h
      omega
theorem cut_at (c : UInt8) (a r : List UInt8) (h : c ∉ a) : Lib.cut (a ++ c :: r) [c] = (a, r, true) := by
  unfold Lib.cut
  rw [index_at c a r h, if_pos (by omega)]
  simp
theorem cut_none (c : UInt8) (l : List UInt8) (h : c ∉ l) : Lib.cut l [c] = (l, [], false) := by
  unfold Lib.cut
  rw [index_one c l h, if_neg (by omega)]
theorem cut_le (l sep : List UInt8) : (Lib.cut l sep).1.length ≤ l.length ∧ (Lib.cut l sep).2.1.length ≤ l.length := by
  unfold Lib.cut
  split
  · simp; omega
  · simp

/-! strings.IndexByte. -/
theorem index_in (c : UInt8) (l : List UInt8) : decide (0 ≤ Lib.indexByte l c) = l.any (fun x => decide (x = c)) := by
  induction l with
  | nil => rfl
  | cons b l ih =>
    have hg := Lib.indexByte_ge l c
    rw [Lib.indexByte, List.any_cons]
    by_cases h : b = c
    · rw [if_pos (by rw [h]; simp), decide_eq_true h, Bool.true_or]
      rfl
    · rw [if_neg (by simpa using h), decide_eq_false h, Bool.false_or, ← ih]
      by_cases h1 : Lib.indexByte l c = -1
      · rw [if_pos (by rw [h1]; rfl), h1]
      · rw [if_neg (by simpa using h1), decide_eq_decide]
        omega

/-! strconv.Atoi. -/
/-- The number beside the error. -/
def atoiV (l : List UInt8) : Int := match Lib.atoiAll l with
  | .ok v => v
  | .range => Lib.atoiSat l
  | _ => 0
theorem parse_dec : ∀ (n : Nat) (r : List UInt8), n ≤ 99999 → Lib.parseUint10 0 (Lib.decDigits n ++ r) = Lib.parseUint10 n r := by
  intro n
  induction n using Nat.strongRecOn with
  | ind n ih =>
    intro r hn
    by_cases h : n < 10
    · rw [dec1 n h]
      show Lib.parseUint10 0 (dgt n :: r) = _
      rw [Lib.parseUint10, dgt_nat n (by omega), if_pos ⟨by omega, by omega⟩, if_neg (by omega), if_neg (by omega)]
      congr 1
      omega
    · rw [decS n h, List.append_assoc, ih (n / 10) (by omega) _ (by omega)]
      show Lib.parseUint10 (n / 10) (dgt (n % 10) :: r) = _
      rw [Lib.parseUint10, dgt_nat _ (by omega), if_pos ⟨by omega, by omega⟩, if_neg (by omega), if_neg (by omega)]
      congr 1
      omega
theorem dec_head : ∀ n : Nat, ∃ c t, Lib.decDigits n = c :: t ∧ 48 ≤ c.toNat ∧ c.toNat ≤ 57 := by
  intro n
  induction n using Nat.strongRecOn with
  | ind n ih =>
    by_cases h : n < 10
    · exact ⟨dgt n, [], dec1 n h, by rw [dgt_nat n (by omega)]; omega, by rw [dgt_nat n (by omega)]; omega⟩
    · obtain ⟨c, t, e, h1, h2⟩ := ih (n / 10) (by omega)
      exact ⟨c, t ++ [dgt (n % 10)], by rw [decS n h, e]; rfl, h1, h2⟩
theorem atoi_dec (n : Nat) (hn : n ≤ 99999) : atoiV (Lib.decDigits n) = (n : Int) := by
  obtain ⟨c, t, e, h1, h2⟩ := dec_head n
  have hp := parse_dec n [] hn
  rw [List.append_nil] at hp
  unfold atoiV Lib.atoiAll
  rw [e] at hp ⊢
  have hm : Lib.parseMag (c :: t) = .ok n := by
    unfold Lib.parseMag
    rw [if_neg (by simp), hp]
    rfl
  have n1 : ¬ (c.toNat = 43 ∨ c.toNat = 45) := by omega
  simp only [if_neg n1, hm]
  rw [if_neg (by omega), if_neg (by omega), if_neg (by omega)]
theorem atoi_nil : atoiV [] = 0 := rfl

/-! strings.Join. -/
theorem join_K (L : List (List UInt8)) : ∀ k, k ≤ L.length → joinK [32] L k = Lib.join (L.take k) [32]
  | 0, _ => by rw [List.take_zero]; rfl
  | k + 1, h => by
    have hk : k < L.length := by omega
    have e : L.take (k + 1) = L.take k ++ [L[k]] := List.take_succ_eq_append_getElem hk
    have eg : L.getD k [] = L[k] := by rw [List.getD_eq_getElem?_getD, List.getElem?_eq_getElem hk]; rfl
    rw [joinK]
    by_cases h0 : k = 0
    · subst h0
      rw [if_pos rfl, e, List.take_zero, List.nil_append, Lib.join_one, eg]
    · rw [if_neg h0, join_K L k (by omega), e, eg]
      obtain ⟨x, r, hx⟩ : ∃ x r, L.take k = x :: r := by
        cases hL : L.take k with
        | nil =>
          have := congrArg List.length hL
          rw [List.length_take, List.length_nil] at this
          omega
        | cons x r => exact ⟨x, r, rfl⟩
      rw [hx, List.cons_append, Lib.join_cons, Lib.join_cons]
      unfold Lib.joinTail
      simp
theorem join_plain (L : List (List UInt8)) : Lib.join L [32] = joinK [32] L L.length := by
  have := join_K L L.length (Nat.le_refl _)
  rw [List.take_length] at this
  exact this.symm

/-! The field that the program reads off a line. -/
/-- How long the value is with which this begins. -/
def vlen : List UInt8 → Nat
  | [] => 0
  | [c] => if c = 36 then 0 else 1
  | c :: d :: t => if c = 36 then (if d = 36 then vlen t + 2 else 0) else vlen (d :: t) + 1
theorem vlen_le : ∀ l : List UInt8, vlen l ≤ l.length
  | [] => Nat.le_refl _
  | [c] => by rw [vlen]; split <;> simp
  | c :: d :: t => by
    have h1 := vlen_le (d :: t)
    have h2 := vlen_le t
    rw [vlen]
    split
    · split
      · simp; omega
      · simp
    · simp at h1 ⊢; omega
theorem vlen_other (c : UInt8) (l : List UInt8) (h : c ≠ 36) : vlen (c :: l) = vlen l + 1 := by
  cases l with
  | nil =>
    show vlen [c] = 1
    unfold vlen
    rw [if_neg h]
  | cons d t => rw [vlen, if_neg h]
theorem vlen_two (t : List UInt8) : vlen (36 :: 36 :: t) = vlen t + 2 := by rw [vlen, if_pos rfl, if_pos rfl]
theorem vlen_end (l : List UInt8) (h : l = [] ∨ l = [36] ∨ ∃ d t, l = 36 :: d :: t ∧ d ≠ 36) : vlen l = 0 := by
  rcases h with rfl | rfl | ⟨d, t, rfl, h⟩
  · rfl
  · rw [vlen, if_pos rfl]
  · rw [vlen, if_pos rfl, if_neg h]
theorem vlen_dbl : ∀ (v r : List UInt8), (r = [] ∨ ∃ d t, r = 36 :: d :: t ∧ d ≠ 36) → vlen (dblL v ++ r) = (dblL v).length
  | [], r, h => vlen_end r (by rcases h with h | h; exact .inl h; exact .inr (.inr h))
  | x :: t, r, h => by
    rw [dblL]
    by_cases hx : x = 36
    · rw [if_pos hx, List.cons_append, List.cons_append, vlen_two, vlen_dbl t r h]
      simp
    · rw [if_neg hx, List.cons_append, vlen_other x _ hx, vlen_dbl t r h]
      simp
/-- The subfields, at most k of them. -/
def subsK : Nat → List UInt8 → List Sub
  | 0, _ => []
  | _ + 1, [] => []
  | _ + 1, [_] => []
  | k + 1, _ :: c :: r => (c, halveL (r.take (vlen r))) :: subsK k (r.drop (vlen r))
theorem subs_K : ∀ (L : List Sub) (k : Nat), L.length ≤ k → (∀ i, i < L.length → codeB (L.getD i sub0).1 = true) → subsK k (bodyL L) = L
  | [], 0, _, _ => rfl
  | [], k + 1, _, _ => rfl
  | s :: t, 0, h, _ => by simp at h
  | s :: t, k + 1, hk, h => by
    have e : bodyL (s :: t) = 36 :: s.1 :: (dblL s.2 ++ bodyL t) := by simp [bodyL, subP]
    have ht : ∀ i, i < t.length → codeB (t.getD i sub0).1 = true := fun i hi => h (i + 1) (by simpa using hi)
    rw [e, subsK, vlen_dbl s.2 _ (body_form t ht), List.take_left, List.drop_left, halve_dbl, subs_K t k (by simpa using hk) ht]
def readP (s : List UInt8) : Fld :=
  ⟨(Lib.cut (Lib.cut s [32]).1 [64]).1, (Lib.cut (Lib.cut s [32]).2.1 [32]).1.map unB, subsK 17 (Lib.cut (Lib.cut s [32]).2.1 [32]).2.1, atoiV (Lib.cut (Lib.cut s [32]).1 [64]).2.1⟩
theorem digs_not (l : List UInt8) (c : UInt8) (hc : digB c = false) (h : ∀ i, i < l.length → digB (l.getD i 0) = true) : c ∉ l := by
  intro hm
  obtain ⟨i, hi, he⟩ := List.getElem_of_mem hm
  have := h i hi
  rw [List.getD_eq_getElem?_getD, List.getElem?_eq_getElem hi] at this
  simp only [Option.getD_some, he, hc] at this
  cases this
theorem dec_digs (n : Nat) : ∀ x, x ∈ Lib.decDigits n → digB x = true := by
  induction n using Nat.strongRecOn with
  | ind n ih =>
    intro x hx
    by_cases h : n < 10
    · rw [dec1 n h] at hx
      simp only [List.mem_singleton] at hx
      rw [hx]
      exact dig_of n h
    · rw [decS n h, List.mem_append, List.mem_singleton] at hx
      rcases hx with hx | hx
      · exact ih (n / 10) (by omega) x hx
      · rw [hx]
        exact dig_of _ (Nat.mod_lt _ (by decide))
theorem readP_line (f : Fld) (h : rightI f = 0) : readP (lineL f) = f := by
  obtain ⟨htag, hind, hn1, hn16, hsub, ha0, ha1⟩ := right_facts f h
  have hcode : ∀ i, i < f.subs.length → codeB (f.subs.getD i sub0).1 = true := fun i hi => (subE_zero _ (hsub i hi)).1
  have h3 := tagB_len _ htag
  have h2 := indsB_len _ hind
  obtain ⟨tag, ind, subs, au⟩ := f
  have htd : ∀ x, x ∈ tag → digB x = true := by
    match tag, h3 with
    | [t0, t1, t2], _ =>
      unfold tagB at htag
      simp only [Bool.and_eq_true] at htag
      obtain ⟨⟨⟨⟨_, g0⟩, g1⟩, g2⟩, _⟩ := htag
      intro x hx
      simp only [List.mem_cons, List.not_mem_nil, or_false] at hx
      rcases hx with rfl | rfl | rfl
      · exact g0
      · exact g1
      · exact g2
  have nott : ∀ c : UInt8, digB c = false → c ∉ tag := fun c hc hm => by
    have := htd c hm
    rw [hc] at this
    cases this
  match ind, h2 with
  | [i0, i1], _ =>
    have hi0 : indB i0 = true := by
      unfold indsB at hind
      simp only [Bool.and_eq_true] at hind
      exact hind.1.2
    have hi1 : indB i1 = true := by
      unfold indsB at hind
      simp only [Bool.and_eq_true] at hind
      exact hind.2
    obtain ⟨d0, m0, n0, u0⟩ := mark_form i0 hi0
    obtain ⟨d1, m1, n1, u1⟩ := mark_form i1 hi1
    have e : lineL ⟨tag, [i0, i1], subs, au⟩ = (tag ++ authP au) ++ 32 :: ([d0, d1] ++ 32 :: bodyL subs) := by
      unfold lineL headL
      show tag ++ authP au ++ 32 :: (markB i0 ++ markB i1 ++ [32]) ++ bodyL subs = _
      rw [m0, m1]
      simp
    have hap : 32 ∉ authP au ∧ Lib.cut (tag ++ authP au) [64] = (tag, (if au = 0 then [] else Lib.decDigits au.toNat), !decide (au = 0)) := by
      unfold authP
      by_cases hz : au = 0
      · rw [if_pos hz, if_pos hz, List.append_nil, decide_eq_true hz]
        exact ⟨by simp, cut_none 64 tag (nott 64 (by decide))⟩
      · have hp := dec_pos au.toNat
        have ep : padL 1 (Lib.decDigits au.toNat) = Lib.decDigits au.toNat := by
          unfold padL
          rw [show 1 - (Lib.decDigits au.toNat).length = 0 by omega]
          rfl
        rw [if_neg hz, if_neg hz, ep, decide_eq_false hz]
        refine ⟨?_, cut_at 64 tag _ (nott 64 (by decide))⟩
        intro hm
        rcases List.mem_cons.1 hm with h | h
        · revert h; decide
        · have := dec_digs _ _ h
          revert this
          decide
    have hc1 : Lib.cut (lineL ⟨tag, [i0, i1], subs, au⟩) [32] = (tag ++ authP au, [d0, d1] ++ 32 :: bodyL subs, true) := by
      rw [e]
      refine cut_at 32 _ _ ?_
      rw [List.mem_append, not_or]
      exact ⟨nott 32 (by decide), hap.1⟩
    have hc2 : Lib.cut ([d0, d1] ++ 32 :: bodyL subs) [32] = ([d0, d1], bodyL subs, true) := by
      refine cut_at 32 _ _ ?_
      simp only [List.mem_cons, List.not_mem_nil, or_false, not_or]
      exact ⟨fun h => n0 h.symm, fun h => n1 h.symm⟩
    unfold readP
    rw [hc1]
    simp only [hc2, hap.2]
    rw [subs_K subs 17 (by simp only at hn16; omega) hcode]
    have hau : atoiV (if au = 0 then [] else Lib.decDigits au.toNat) = au := by
      by_cases hz : au = 0
      · rw [if_pos hz, hz]; rfl
      · simp only at ha0 ha1
        rw [if_neg hz, atoi_dec _ (by omega), Int.toNat_of_nonneg ha0]
    rw [hau]
    simp only [List.map_cons, List.map_nil, u0, u1]
theorem readP_none (s : List UInt8) (h : ¬ (rightI (readP s) = 0 ∧ lineL (readP s) = s)) : parseO s = none := by
  cases hp : parseO s with
  | none => rfl
  | some g =>
    obtain ⟨h1, h2⟩ := parse_sound s g hp
    have := readP_line g h1
    rw [h2] at this
    rw [this] at h
    exact absurd ⟨h1, h2⟩ h
theorem readP_some (s : List UInt8) (h : rightI (readP s) = 0 ∧ lineL (readP s) = s) : parseO s = some (readP s) := by
  have := parse_back (readP s) h.1
  rwa [h.2] at this
end

section
open Go.RowKit
set_option maxHeartbeats 1000000 in
theorem allowed_any (c : Nat) (hc : c ≤ 1114111) (b : Bool) (hb : allow c = b) (w : World) :
    Calls Tryz.prog 117 #[.int .i32 (c : Int)] w fun e w' => e = .returned (.bool b) ∧ w = w' := by
  have H := Lib.hid hb
  clear hb
  by_cases h1 : 32 ≤ c
  · by_cases h2 : c ≤ 126
    · obtain rfl : b = true := by have := H.out; rw [← this]; simp [allow, h1, h2]
      have d1 : decide ((32 : Int) ≤ (c : Int)) = true := by simp; omega
      have d2 : decide ((c : Int) ≤ 126) = true := by simp; omega
      clear H h1 h2
      go_enter Tryz.func117, Tryz.ntmps117
      go_wp2
      go_ret
      exact ⟨rfl, rfl⟩
    · by_cases h3 : 160 ≤ c
      · have d1 : decide ((32 : Int) ≤ (c : Int)) = true := by simp; omega
        have d2 : decide ((c : Int) ≤ 126) = false := by simp; omega
        have d3 : decide ((160 : Int) ≤ (c : Int)) = true := by simp; omega
        by_cases h4 : c ≤ 65535
        · obtain rfl : b = true := by have := H.out; rw [← this]; simp [allow, h3, h4]
          have d4 : decide ((c : Int) ≤ 65535) = true := by simp; omega
          clear H h1 h2 h3 h4
          go_enter Tryz.func117, Tryz.ntmps117
          go_wp2
          go_ret
          exact ⟨rfl, rfl⟩
        · obtain rfl : b = false := by have := H.out; rw [← this]; simp [allow, h2, h4]
          have d4 : decide ((c : Int) ≤ 65535) = false := by simp; omega
          clear H h1 h2 h3 h4
          go_enter Tryz.func117, Tryz.ntmps117
          go_wp2
          go_ret
          exact ⟨rfl, rfl⟩
      · obtain rfl : b = false := by have := H.out; rw [← this]; simp [allow, h2, h3]
        have d1 : decide ((32 : Int) ≤ (c : Int)) = true := by simp; omega
        have d2 : decide ((c : Int) ≤ 126) = false := by simp; omega
        have d3 : decide ((160 : Int) ≤ (c : Int)) = false := by simp; omega
        clear H h1 h2 h3
        go_enter Tryz.func117, Tryz.ntmps117
        go_wp2
        go_ret
        exact ⟨rfl, rfl⟩
  · obtain rfl : b = false := by have := H.out; rw [← this]; simp [allow]; omega
    have d1 : decide ((32 : Int) ≤ (c : Int)) = false := by simp; omega
    have d3 : decide ((160 : Int) ≤ (c : Int)) = false := by simp; omega
    clear H h1
    go_enter Tryz.func117, Tryz.ntmps117
    go_wp2
    go_ret
    exact ⟨rfl, rfl⟩
end

end Go.Proofs.YtcnjjdbpcobolaaGreatDoor
