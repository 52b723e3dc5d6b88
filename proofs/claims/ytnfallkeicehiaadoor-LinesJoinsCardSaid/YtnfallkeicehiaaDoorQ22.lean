/- Merged: Plain11D, Rd11, FA07. -/
import Derived.Test.YtnfallkeicehiaaDoorQ10
import Derived.Test.YtnfallkeicehiaaDoorQ20
import Derived.Lib.Split
import Derived.Test.YtnfallkeicehiaaDoorQ21
import Derived.Test.YtnfallkeicehiaaDoorQ13
import Derived.RegionTactic
import Derived.Test.YtnfallkeicehiaaDoorQ02
namespace Go.Proofs.YtnfallkeicehiaaDoor

section
/-! Texts cut at one byte. -/
theorem index_app (c : UInt8) : ∀ (x t : List UInt8), (∀ b ∈ x, b ≠ c) → Lib.index (x ++ c :: t) [c] = ((x.length : Nat) : Int)
  | [], t, _ => index_cons_eq c t
  | b :: x, t, h => by
    have ih := index_app c x t (fun d hd => h d (by simp [hd]))
    rw [List.cons_append, index_cons_ne b c _ (h b (by simp)), ih, if_neg (by omega), List.length_cons]
    omega
theorem split_app (c : UInt8) (k : Nat) (x t : List UInt8) (h : ∀ b ∈ x, b ≠ c) : Lib.splitK [c] 0 (k + 1) (x ++ c :: t) = x :: Lib.splitK [c] 0 k t := by
  rw [Lib.splitK, index_app c x t h, if_neg (by simp only [beq_iff_eq]; omega), Int.toNat_natCast, Nat.add_zero, List.take_left]
  have e : x ++ c :: t = (x ++ [c]) ++ t := by simp
  rw [e, show x.length + [c].length = (x ++ [c]).length by simp, List.drop_left]
theorem ln_cut : ∀ s : List UInt8, Lib.cut s [10] = (lnL s, lnR s, lnE s)
  | [] => rfl
  | c :: t => by
    have ih := ln_cut t
    unfold Lib.cut at ih ⊢
    by_cases h : c = 10
    · subst h
      rw [index_cons_eq, if_pos (by omega), lnL, lnR, lnE, if_pos rfl, if_pos rfl, if_pos rfl]
      rfl
    · rw [index_cons_ne c 10 t h, lnL, lnR, lnE, if_neg h, if_neg h, if_neg h]
      by_cases g : Lib.index t [10] = -1
      · rw [g] at ih ⊢
        rw [if_neg (by omega)] at ih
        rw [if_pos rfl, if_neg (by omega)]
        simp only [Prod.mk.injEq] at ih ⊢
        exact ⟨by rw [← ih.1], ih.2.1, ih.2.2⟩
      · have hge := Lib.index_ge t [10]
        obtain ⟨i, hi⟩ : ∃ i : Nat, Lib.index t [10] = i := ⟨(Lib.index t [10]).toNat, by omega⟩
        rw [hi] at ih ⊢
        rw [if_pos (by omega)] at ih
        rw [if_neg (show ¬ ((i : Int) = -1) by omega), if_pos (by omega)]
        simp only [Prod.mk.injEq] at ih ⊢
        refine ⟨?_, ?_, ih.2.2⟩
        · rw [← ih.1, show ((i : Int) + 1).toNat = i + 1 by omega, List.take_succ_cons, Int.toNat_natCast]
        · rw [← ih.2.1, show ((i : Int) + 1).toNat = i + 1 by omega, Int.toNat_natCast]
          rfl

/-! The header by its parts. -/
def restH (l : List UInt8) : List UInt8 := Lib.trimPrefix l [61]
def partsH (l : List UInt8) : List (List UInt8) := Lib.splitK [32] 0 (min 4 ((restH l).length + 1) - 1) (restH l)
def kindN (w : List UInt8) : Int := if w = kindW 1 then 1 else if w = kindW 2 then 2 else if w = kindW 3 then 3 else if w = kindW 4 then 4 else 0
theorem kindN_of (k : Int) (h1 : 1 ≤ k) (h4 : k ≤ 4) : kindN (kindW k) = k := by
  obtain rfl | rfl | rfl | rfl : k = 1 ∨ k = 2 ∨ k = 3 ∨ k = 4 := by omega
  all_goals decide
theorem kindW_byte (k : Int) : ∀ b ∈ kindW k, b ≠ 32 := by
  unfold kindW
  split
  · decide
  · split
    · decide
    · split <;> decide
theorem dec_blank (n : Nat) : ∀ b ∈ Lib.decDigits n, b ≠ 32 := by
  intro b hb e
  have := (dec_byte n b hb).1
  rw [e] at this
  exact absurd this (by decide)
/-- The record that the parts say. -/
def recH (a b c d : List UInt8) : Rec := ⟨atoiV a, atoiV b, kindN c, d, []⟩
theorem hdr_parts (r : Rec) (h : rightRI r = 0) (hf : r.fields = []) : ∃ a b c d, partsH (hdrR r) = [a, b, c, d] ∧ recH a b c d = r := by
  obtain ⟨a1, a2, a3, a4, a5, a6, a7, _, _⟩ := right_rec r h
  have hp := dec_pos r.id.toNat
  have hp2 := dec_pos r.ver.toNat
  have h3 := lang_len _ a7
  have hrest : restH (hdrR r) = Lib.decDigits r.id.toNat ++ 32 :: (Lib.decDigits r.ver.toNat ++ 32 :: (kindW r.kind ++ 32 :: r.lang)) := by
    unfold restH Lib.trimPrefix hdrR hdrX midX Lib.hasPrefix
    rw [if_pos (by simp)]
    simp
  refine ⟨Lib.decDigits r.id.toNat, Lib.decDigits r.ver.toNat, kindW r.kind, r.lang, ?_, ?_⟩
  · unfold partsH
    rw [hrest, show min 4 ((Lib.decDigits r.id.toNat ++ 32 :: (Lib.decDigits r.ver.toNat ++ 32 :: (kindW r.kind ++ 32 :: r.lang))).length + 1) - 1 = 3 by
      simp only [List.length_append, List.length_cons, h3]
      omega, split_app 32 2 _ _ (dec_blank _), split_app 32 1 _ _ (dec_blank _), split_app 32 0 _ _ (kindW_byte _)]
    rfl
  · unfold recH
    rw [atoi_dec _ (by omega), atoi_dec _ (by omega), kindN_of _ a5 a6, show ((r.id.toNat : Nat) : Int) = r.id by omega, show ((r.ver.toNat : Nat) : Int) = r.ver by omega, ← hf]
theorem partsH_le (l : List UInt8) : (partsH l).length ≤ 4 := by
  have h : ∀ (k : Nat) (s : List UInt8), (Lib.splitK [32] 0 k s).length ≤ k + 1 := by
    intro k
    induction k with
    | zero => intro s; exact Nat.le_refl _
    | succ k ih =>
      intro s
      rw [Lib.splitK]
      split
      · simp
      · have := ih (s.drop ((Lib.index s [32]).toNat + [32].length))
        rw [List.length_cons]
        omega
  have := h (min 4 ((restH l).length + 1) - 1) (restH l)
  unfold partsH
  omega
/-- Fewer parts: no header. -/
theorem hdr_few (l : List UInt8) (h : (partsH l).length < 4) : hdrO l = none := by
  cases e : hdrO l with
  | none => rfl
  | some r =>
    obtain ⟨h1, h2, h3⟩ := hdrO_sound l r e
    obtain ⟨a, b, c, d, hp, _⟩ := hdr_parts r h1 h3
    rw [h2] at hp
    rw [hp] at h
    simp at h
theorem hdr_yes (l a b c d : List UInt8) (h : rightRI (recH a b c d) = 0) (h2 : hdrR (recH a b c d) = l) : hdrO l = some (recH a b c d) := by
  rw [← h2]
  exact hdrO_back _ h rfl
theorem hdr_not (l a b c d : List UInt8) (hp : partsH l = [a, b, c, d]) (h : ¬ (rightRI (recH a b c d) = 0 ∧ hdrR (recH a b c d) = l)) : hdrO l = none := by
  cases e : hdrO l with
  | none => rfl
  | some r =>
    obtain ⟨h1, h2, h3⟩ := hdrO_sound l r e
    obtain ⟨a', b', c', d', hp', hr⟩ := hdr_parts r h1 h3
    rw [h2, hp] at hp'
    simp only [List.cons.injEq, and_true] at hp'
    obtain ⟨rfl, rfl, rfl, rfl⟩ := hp'
    rw [hr] at h
    exact absurd ⟨h1, h2⟩ h
theorem splitK_len : ∀ (k : Nat) (s x : List UInt8), x ∈ Lib.splitK [32] 0 k s → x.length ≤ s.length
  | 0, s, x, h => by
    rw [List.mem_singleton.1 h]
    exact Nat.le_refl _
  | k + 1, s, x, h => by
    rw [Lib.splitK] at h
    split at h
    · rw [List.mem_singleton.1 h]
      exact Nat.le_refl _
    · rcases List.mem_cons.1 h with rfl | h
      · rw [List.length_take]
        omega
      · have := splitK_len k _ x h
        rw [List.length_drop] at this
        omega
theorem restH_le (l : List UInt8) : (restH l).length ≤ l.length := by
  unfold restH Lib.trimPrefix
  split
  · rw [List.length_drop]; omega
  · exact Nat.le_refl _
theorem partsH_mem (l x : List UInt8) (h : x ∈ partsH l) : x.length ≤ l.length := Nat.le_trans (splitK_len _ _ _ h) (restH_le l)
end

section
open Go.RowKit Go.PlainAid
theorem kindN_at : ∀ k, k < 4 → kindN (kindsL.getD k []) = (k : Int) + 1 := by
  intro k hk
  obtain rfl | rfl | rfl | rfl : k = 0 ∨ k = 1 ∨ k = 2 ∨ k = 3 := by omega
  all_goals decide
theorem kindN_none (l : List UInt8) (h : ∀ j, j < 4 → kindsL.getD j [] ≠ l) : kindN l = 0 := by
  have h0 := h 0 (by omega)
  have h1 := h 1 (by omega)
  have h2 := h 2 (by omega)
  have h3 := h 3 (by omega)
  unfold kindN
  rw [if_neg (fun e => h0 (by rw [e]; decide)), if_neg (fun e => h1 (by rw [e]; decide)), if_neg (fun e => h2 (by rw [e]; decide)), if_neg (fun e => h3 (by rw [e]; decide))]
set_option maxHeartbeats 8000000 in
theorem kindOf_any (l : List UInt8) (n : Int) (hn : kindN l = n) (w : World) (hK : KT w) :
    Calls Tryd.prog 43 #[.string (S l)] w fun e w' => e = .returned (.int .i64 n) ∧ w' = w := by
  obtain ⟨k0, hk0⟩ : ∃ k, S (kindsL.getD 0 []) = k := ⟨_, rfl⟩
  obtain ⟨k1, hk1⟩ : ∃ k, S (kindsL.getD 1 []) = k := ⟨_, rfl⟩
  obtain ⟨k2, hk2⟩ : ∃ k, S (kindsL.getD 2 []) = k := ⟨_, rfl⟩
  obtain ⟨k3, hk3⟩ : ∃ k, S (kindsL.getD 3 []) = k := ⟨_, rfl⟩
  have t0 := hK.2 0 (by omega)
  have t1 := hK.2 1 (by omega)
  have t2 := hK.2 2 (by omega)
  have t3 := hK.2 3 (by omega)
  have q0 := S_eq (kindsL.getD 0 []) l
  have q1 := S_eq (kindsL.getD 1 []) l
  have q2 := S_eq (kindsL.getD 2 []) l
  have q3 := S_eq (kindsL.getD 3 []) l
  rw [hk0] at t0 q0
  rw [hk1] at t1 q1
  rw [hk2] at t2 q2
  rw [hk3] at t3 q3
  have ix0 : ∀ W, Sem.run Tryd.prog (Instr.index 68 (.agg #[.string k0, .string k1, .string k2, .string k3]) (.int .i64 0)) W = .ok (.string k0) W := fun W => by kernel_rfl
  have ix1 : ∀ W, Sem.run Tryd.prog (Instr.index 68 (.agg #[.string k0, .string k1, .string k2, .string k3]) (.int .i64 1)) W = .ok (.string k1) W := fun W => by kernel_rfl
  have ix2 : ∀ W, Sem.run Tryd.prog (Instr.index 68 (.agg #[.string k0, .string k1, .string k2, .string k3]) (.int .i64 2)) W = .ok (.string k2) W := fun W => by kernel_rfl
  have ix3 : ∀ W, Sem.run Tryd.prog (Instr.index 68 (.agg #[.string k0, .string k1, .string k2, .string k3]) (.int .i64 3)) W = .ok (.string k3) W := fun W => by kernel_rfl
  have HHit : RowKit.Hid (∀ k, k < 4 → kindsL.getD k [] = l → n = (k : Int) + 1) := by
    intro k hk h
    rw [← hn, ← h]
    exact kindN_at k hk
  have HMiss : RowKit.Hid ((∀ j, j < 4 → kindsL.getD j [] ≠ l) → n = 0) := by
    intro h
    rw [← hn]
    exact kindN_none l h
  have HQ0 := Lib.hid q0
  have HQ1 := Lib.hid q1
  have HQ2 := Lib.hid q2
  have HQ3 := Lib.hid q3
  clear hk0 hk1 hk2 hk3 hn hK q0 q1 q2 q3
  generalize S l = s at *
  go_enter Tryd.func43, Tryd.ntmps43
  go_wp2
  go_loopw [6] (fun i wr => ∃ k : Nat, k ≤ 4 ∧ i = .int .i64 (k : Int) ∧ RowKit.Hid (∀ j, j < k → kindsL.getD j [] ≠ l) ∧ w = wr) (fun i _ => 4 - (intOf i).toNat)
  case atStart => exact ⟨0, by omega, rfl, (fun j hj => by omega), rfl⟩
  case round =>
    obtain ⟨k, hk, rfl, HJ, rfl⟩ := hrel
    by_cases hk4 : k < 4
    · obtain ⟨b, hb⟩ : ∃ b, decide (kindsL.getD k [] = l) = b := ⟨_, rfl⟩
      have HB := Lib.hid hb
      have HJ2 : RowKit.Hid (b = false → ∀ j, j < k + 1 → kindsL.getD j [] ≠ l) := by
        intro h j hj
        rcases Nat.lt_or_ge j k with h1 | h1
        · exact HJ.out j h1
        · obtain rfl : j = k := by omega
          rw [h] at hb
          exact of_decide_eq_false hb
      have HH : RowKit.Hid (b = true → n = (k : Int) + 1) := by
        intro h
        rw [h] at hb
        exact HHit.out k hk4 (of_decide_eq_true hb)
      clear hb HHit HMiss
      obtain rfl | rfl | rfl | rfl : k = 0 ∨ k = 1 ∨ k = 2 ∨ k = 3 := by omega
      · have q := HQ0.out
        rw [HB.out] at q
        cases b with
        | true =>
          have hn := HH.out rfl
          subst hn
          go_wp2
          go_ret
          exact ⟨rfl, rfl⟩
        | false =>
          go_wp2
          go_roundw
          case rel => exact ⟨1, by omega, by go_num, HJ2.out rfl, by first | rfl | trivial⟩
          case measure => simp [intOf]
      · have q := HQ1.out
        rw [HB.out] at q
        cases b with
        | true =>
          have hn := HH.out rfl
          subst hn
          go_wp2
          go_ret
          exact ⟨rfl, rfl⟩
        | false =>
          go_wp2
          go_roundw
          case rel => exact ⟨2, by omega, by go_num, HJ2.out rfl, by first | rfl | trivial⟩
          case measure => simp [intOf]
      · have q := HQ2.out
        rw [HB.out] at q
        cases b with
        | true =>
          have hn := HH.out rfl
          subst hn
          go_wp2
          go_ret
          exact ⟨rfl, rfl⟩
        | false =>
          go_wp2
          go_roundw
          case rel => exact ⟨3, by omega, by go_num, HJ2.out rfl, by first | rfl | trivial⟩
          case measure => simp [intOf]
      · have q := HQ3.out
        rw [HB.out] at q
        cases b with
        | true =>
          have hn := HH.out rfl
          subst hn
          go_wp2
          go_ret
          exact ⟨rfl, rfl⟩
        | false =>
          go_wp2
          go_roundw
          case rel => exact ⟨4, by omega, by go_num, HJ2.out rfl, by first | rfl | trivial⟩
          case measure => simp [intOf]
    · obtain rfl : k = 4 := by omega
      have h0 := HMiss.out HJ.out
      subst h0
      go_wp2
      go_ret
      exact ⟨rfl, rfl⟩

/-! A reader. -/
/-- A reader lies in block b: the text that is left, the number of the last line that was read. -/
def Rd (b : Nat) (l : List UInt8) (k : Nat) (w : World) : Prop := w.heap[b]? = some (.cells #[.string (S l), .int .i64 (k : Int)] 59 (0, 0))
theorem Rd.lt {b k : Nat} {l : List UInt8} {w : World} (h : Rd b l k w) : b < w.heap.size := (Array.getElem?_eq_some_iff.1 h).1
theorem Rd.after {b k : Nat} {l : List UInt8} {w w' : World} (h : Rd b l k w) (hb : Below w.heap.size w w') : Rd b l k w' := (hb.block b h.lt).trans h
theorem Rd.cells {b k : Nat} {l : List UInt8} {w : World} (h : Rd b l k w) :
    (w.cell? ⟨b, 0, none⟩ = some (.string (S l)) ∧ w.cell? ⟨b, 1, none⟩ = some (.int .i64 (k : Int))) ∧ (w.frozen? ⟨b, 0, none⟩ = false ∧ w.frozen? ⟨b, 1, none⟩ = false) := by
  refine ⟨⟨?_, ?_⟩, Lib.frozen_of_heap h 0, Lib.frozen_of_heap h 1⟩ <;> (rw [Lib.cell_of_heap h]; rfl)
/-- What a call leaves that may write into one block only. -/
structure Up (b : Nat) (w w' : World) : Prop where
  os : w'.os = w.os
  tape : w'.tape = w.tape
  output : w'.output = w.output
  size : w.heap.size ≤ w'.heap.size
  block : ∀ i, i < w.heap.size → i ≠ b → w'.heap[i]? = w.heap[i]?
theorem Up.of {b : Nat} {w w' : World} (h : Below w.heap.size w w') : Up b w w' := ⟨h.os, h.tape, h.output, h.size, fun i hi _ => h.block i hi⟩
theorem Up.trans {b : Nat} {w w' w2 : World} (h : Up b w w') (k : Up b w' w2) : Up b w w2 :=
  ⟨k.os.trans h.os, k.tape.trans h.tape, k.output.trans h.output, Nat.le_trans h.size k.size, fun i hi hne => (k.block i (Nat.lt_of_lt_of_le hi h.size) hne).trans (h.block i hi hne)⟩
theorem Up.below {b N : Nat} {w0 w w' : World} (h : Up b w w') (hB : Below N w0 w) (hN : N ≤ w.heap.size) (hb : N ≤ b) : Below N w0 w' :=
  hB.trans ⟨h.os, h.tape, h.output, h.size, fun i hi => h.block i (by omega) (by omega)⟩
theorem Up.put {b : Nat} {w w' : World} (h : Up b w w') (o : Nat) (v : Value) : Up b w (w'.setCell ⟨b, o, none⟩ v) :=
  ⟨h.os, h.tape, h.output, by simpa [World.setCell] using h.size, fun i hi hne => (heap_setn w' ⟨b, o, none⟩ v i hne).trans (h.block i hi hne)⟩
theorem rd_set {b k : Nat} {l t : List UInt8} {w : World} (h : Rd b l k w) : Rd b t (k + 1) ((w.setCell ⟨b, 0, none⟩ (.string (S t))).setCell ⟨b, 1, none⟩ (.int .i64 ((k : Int) + 1))) := by
  unfold Rd at h ⊢
  have e : (((k + 1 : Nat)) : Int) = (k : Int) + 1 := by omega
  rw [e]
  simp [World.setCell, Array.getElem?_modify, h]
set_option maxHeartbeats 8000000 in
theorem next_any (W0 : World) (hE : Env W0) (b : Nat) (l : List UInt8) (hl : l.length ≤ 1000000) (k : Nat) (hk : k ≤ 1000000000) (w : World) (hB : Below W0.heap.size W0 w) (h : Rd b l k w) :
    Calls Tryd.prog 22 #[.pointer (some ⟨b, 0, none⟩)] w fun e w' => e = .returned (.tuple #[.string (S (lnL l)), .bool (lnE l)]) ∧ Rd b (lnR l) (k + 1) w' ∧ Up b w w' := by
  have cC := Lib.hid (cCut l 10 hl (lnL l) (lnR l) (lnE l) (ln_cut l) w (hE.after hB))
  have HR := Lib.hid h
  obtain ⟨⟨p0, p1⟩, -⟩ := h.cells
  have i0 : (0 : Int) ≤ (k : Int) := by omega
  have i1 : (k : Int) ≤ 1000000000 := by omega
  clear h hB hE hl
  go_enter Tryd.func22, Tryd.ntmps22
  go_wp2_with fail
  refine cC.out.mono ?_
  rintro e w1 ⟨rfl, hb1⟩
  have h1 := HR.out.after hb1
  have HFin := Lib.hid (rd_set (t := lnR l) h1)
  have HUp := Lib.hid (((Up.of (b := b) hb1).put 0 (.string (S (lnR l)))).put 1 (.int .i64 ((k : Int) + 1)))
  clear p0 p1
  obtain ⟨⟨p0, p1⟩, z0, z1⟩ := h1.cells
  clear h1 hb1 cC HR
  go_wp2
  first
    | exact ⟨rfl, HFin.out, HUp.out⟩
    | (refine bodyPost_ret (results_tmp2 rfl _ _) rfl ?_; exact ⟨rfl, HFin.out, HUp.out⟩)
    | (go_ret2; exact ⟨rfl, HFin.out, HUp.out⟩)
end

section
open Go.RowKit Go.PlainAid
def letB (x : UInt8) : Bool := decide (97 ≤ x.toNat) && decide (x.toNat ≤ 122)
theorem codeB_eq (x : UInt8) : codeB x = (digB x || letB x) := rfl

set_option maxHeartbeats 4000000 in
theorem fdigit_any (x : UInt8) (b : Bool) (hb : digB x = b) (w : World) :
    Calls Tryd.prog 46 #[.int .u8 (x.toNat : Int)] w fun e w' => e = .returned (.bool b) ∧ w' = w := by
  unfold digB at hb
  by_cases h1 : 48 ≤ x.toNat
  · have t1 : decide ((48 : Int) ≤ (x.toNat : Int)) = true := decide_eq_true (by omega)
    rw [decide_eq_true h1, Bool.true_and] at hb
    have t2 : decide ((x.toNat : Int) ≤ 57) = b := by rw [← hb, decide_eq_decide]; omega
    clear hb h1
    generalize x.toNat = n at *
    go_enter Tryd.func46, Tryd.ntmps46
    go_wp2
    go_ret
    exact ⟨rfl, rfl⟩
  · have t1 : decide ((48 : Int) ≤ (x.toNat : Int)) = false := decide_eq_false (by omega)
    rw [decide_eq_false h1, Bool.false_and] at hb
    subst hb
    clear h1
    generalize x.toNat = n at *
    go_enter Tryd.func46, Tryd.ntmps46
    go_wp2
    go_ret
    exact ⟨rfl, rfl⟩

set_option maxHeartbeats 4000000 in
theorem fletter_any (x : UInt8) (b : Bool) (hb : letB x = b) (w : World) :
    Calls Tryd.prog 47 #[.int .u8 (x.toNat : Int)] w fun e w' => e = .returned (.bool b) ∧ w' = w := by
  unfold letB at hb
  by_cases h1 : 97 ≤ x.toNat
  · have t1 : decide ((97 : Int) ≤ (x.toNat : Int)) = true := decide_eq_true (by omega)
    rw [decide_eq_true h1, Bool.true_and] at hb
    have t2 : decide ((x.toNat : Int) ≤ 122) = b := by rw [← hb, decide_eq_decide]; omega
    clear hb h1
    generalize x.toNat = n at *
    go_enter Tryd.func47, Tryd.ntmps47
    go_wp2
    go_ret
    exact ⟨rfl, rfl⟩
  · have t1 : decide ((97 : Int) ≤ (x.toNat : Int)) = false := decide_eq_false (by omega)
    rw [decide_eq_false h1, Bool.false_and] at hb
    subst hb
    clear h1
    generalize x.toNat = n at *
    go_enter Tryd.func47, Tryd.ntmps47
    go_wp2
    go_ret
    exact ⟨rfl, rfl⟩

theorem all_iff (l : List UInt8) : l.all digB = true ↔ ∀ i, i < l.length → digB (l.getD i 0) = true := by
  rw [List.all_eq_true]
  constructor
  · intro h i hi
    rw [List.getD_eq_getElem?_getD, List.getElem?_eq_getElem hi]
    exact h _ (List.getElem_mem hi)
  · intro h x hx
    obtain ⟨i, hi, rfl⟩ := List.getElem_of_mem hx
    have := h i hi
    rwa [List.getD_eq_getElem?_getD, List.getElem?_eq_getElem hi] at this

set_option maxHeartbeats 8000000 in
theorem fdigits_any (l : List UInt8) (hz : l.length ≤ 1000000000) (b : Bool) (hb : l.all digB = b) (w : World) :
    Calls Tryd.prog 35 #[.string (S l)] w fun e w' => e = .returned (.bool b) ∧ w' = w := by
  obtain ⟨n, hn⟩ : ∃ n, l.length = n := ⟨_, rfl⟩
  have hsz : (S l).size = n := by rw [S_size, hn]
  obtain ⟨j, hj, hg, hbad⟩ : ∃ j, j ≤ n ∧ (∀ i, i < j → digB (l.getD i 0) = true) ∧ (j < n → digB (l.getD j 0) = false) := by
    rcases first_bad (fun i => digB (l.getD i 0)) n with h | ⟨j, hj, h1, h2⟩
    · exact ⟨n, Nat.le_refl _, h, fun h => by omega⟩
    · exact ⟨j, by omega, h1, fun _ => h2⟩
  have hbb : b = decide (j = n) := by
    rw [← hb]
    by_cases h : j < n
    · rw [decide_eq_false (by omega)]
      cases hx : l.all digB with
      | false => rfl
      | true =>
        have := (all_iff l).1 hx j (by omega)
        rw [hbad h] at this
        cases this
    · rw [decide_eq_true (by omega)]
      rw [all_iff]
      intro i hi
      exact hg i (by omega)
  have hbt := get_bt (S l)
  have HG := Lib.hid hg
  have HB := Lib.hid hbad
  have HBB := Lib.hid hbb
  have HBS := Lib.hid (fun i => bt_S l i)
  have cD := Lib.hid (fun x b hb W => fdigit_any x b hb W)
  rw [hn] at hz
  clear hg hbad hbb hn hb
  generalize S l = s at *
  go_enter Tryd.func35, Tryd.ntmps35
  go_wp2
  go_loopw [6] (fun i wr => ∃ k : Nat, k ≤ j ∧ i = .int .i64 (k : Int) ∧ w = wr) (fun i _ => j - (intOf i).toNat)
  case atStart => exact ⟨0, Nat.zero_le _, rfl, rfl⟩
  case round =>
    obtain ⟨k, hk, rfl, rfl⟩ := hrel
    by_cases hkn : k < n
    · have hki : (k : Int) < (n : Int) := by omega
      have hk0 : (0 : Int) ≤ (k : Int) := by omega
      have hbk := HBS.out k
      by_cases hlt : k < j
      · have hc := cD.out _ true (HG.out k hlt) w
        rw [← hbk] at hc
        clear hbk
        go_wp2_with fail
        refine hc.mono ?_
        rintro e w1 ⟨rfl, rfl⟩
        go_wp2
        go_roundw
        case rel => exact ⟨k + 1, by omega, by go_num, trivial⟩
        case measure => simp [intOf]; omega
      · obtain rfl : k = j := by omega
        have hc := cD.out _ false (HB.out hkn) w
        rw [← hbk] at hc
        clear hbk
        obtain rfl : b = false := by rw [HBB.out, decide_eq_false (by omega)]
        go_wp2_with fail
        refine hc.mono ?_
        rintro e w1 ⟨rfl, rfl⟩
        go_wp2
        go_ret
        exact ⟨rfl, rfl⟩
    · obtain rfl : k = n := by omega
      obtain rfl : b = true := by rw [HBB.out, decide_eq_true (by omega)]
      go_wp2
      go_ret
      exact ⟨rfl, rfl⟩
end

end Go.Proofs.YtnfallkeicehiaaDoor
