/- Merged: Plain07B, R15J, Law05P, PL05. -/
import Derived.Test.YtfjfpefpdlecbaaGreatDoorQ17
import Derived.Test.YtfjfpefpdlecbaaGreatDoorQ06
import Derived.Test.YtfjfpefpdlecbaaGreatDoorQ16
import Derived.Test.YtfjfpefpdlecbaaGreatDoorQ02
import Derived.Test.YtfjfpefpdlecbaaGreatDoorQ11
import Derived.Lib.ReplaceLaws
import Derived.Lib.Repeat
import Derived.Lib.Atoi
import Derived.Lib.ItoaNum
import Derived.Lib.Strings
namespace Go.Proofs.YtfjfpefpdlecbaaGreatDoor

section
theorem take_byte (l : List UInt8) (k : Nat) (h : k < l.length) : l.take (k + 1) = l.take k ++ [l.getD k 0] := by
  rw [List.take_succ_eq_append_getElem h, List.getD_eq_getElem?_getD, List.getElem?_eq_getElem h]
  rfl
/-- A value with each dollar twice. -/
def dblL : List UInt8 → List UInt8
  | [] => []
  | x :: t => if x = 36 then 36 :: 36 :: dblL t else x :: dblL t
theorem dblL_append : ∀ (a b : List UInt8), dblL (a ++ b) = dblL a ++ dblL b
  | [], b => rfl
  | x :: t, b => by
    rw [List.cons_append, dblL, dblL, dblL_append t b]
    split <;> rfl
theorem dblL_le : ∀ (a : List UInt8), (dblL a).length ≤ 2 * a.length
  | [] => Nat.le_refl _
  | x :: t => by
    have := dblL_le t
    rw [dblL]
    split <;> simp <;> omega
theorem dblL_snoc (l : List UInt8) (k : Nat) (h : k < l.length) : dblL (l.take (k + 1)) = dblL (l.take k) ++ (if l.getD k 0 = 36 then [36, 36] else [l.getD k 0]) := by
  rw [List.take_succ_eq_append_getElem h, List.getD_eq_getElem?_getD, List.getElem?_eq_getElem h, dblL_append]
  congr 1
def subP (s : Sub) : List UInt8 := 36 :: s.1 :: dblL s.2
def bodyL (L : List Sub) : List UInt8 := L.flatMap subP
theorem bodyL_snoc (L : List Sub) (k : Nat) (h : k < L.length) : bodyL (L.take (k + 1)) = bodyL (L.take k) ++ subP (L.getD k sub0) := by
  rw [List.take_succ_eq_append_getElem h, List.getD_eq_getElem?_getD, List.getElem?_eq_getElem h]
  unfold bodyL
  rw [List.flatMap_append]
  simp
def authP (n : Int) : List UInt8 := if n = 0 then [] else 64 :: padL 1 (Lib.decDigits n.toNat)
def headL (f : Fld) : List UInt8 := f.tag ++ authP f.auth ++ 32 :: (markB (f.ind.getD 0 0) ++ markB (f.ind.getD 1 0) ++ [32])
def lineL (f : Fld) : List UInt8 := headL f ++ bodyL f.subs
/-- What Print returns: the line, or the error. -/
def printR (f : Fld) : List UInt8 × Int := if rightI f = 0 then (lineL f, 0) else ([], rightI f)

theorem firstE_zero : ∀ (L : List Sub), firstE L = 0 → ∀ i, i < L.length → subE (L.getD i sub0) = 0
  | [], _, i, hi => by cases hi
  | s :: t, h, i, hi => by
    rw [firstE] at h
    by_cases h0 : subE s ≠ 0
    · rw [if_pos h0] at h
      exact absurd h h0
    · rw [if_neg h0] at h
      match i, hi with
      | 0, _ => exact Decidable.not_not.1 h0
      | i + 1, hi => exact firstE_zero t h i (by simpa using hi)
theorem subE_zero (s : Sub) (h : subE s = 0) : codeB s.1 = true ∧ s.2 ≠ [] ∧ validT s.2 = true ∧ s.2.length ≤ 200 := by
  unfold subE at h
  cases hc : codeB s.1
  · rw [if_pos hc] at h; cases h
  · rw [if_neg (by rw [hc]; intro h; cases h)] at h
    by_cases h1 : s.2 = []
    · rw [if_pos h1] at h; cases h
    · rw [if_neg h1] at h
      cases hv : validT s.2
      · rw [if_pos hv] at h; cases h
      · rw [if_neg (by rw [hv]; intro h; cases h)] at h
        by_cases h2 : 200 < s.2.length
        · rw [if_pos h2] at h; cases h
        · exact ⟨rfl, h1, rfl, by omega⟩
theorem right_facts (f : Fld) (h : rightI f = 0) : tagB f.tag = true ∧ indsB f.ind = true ∧ 0 < f.subs.length ∧ f.subs.length ≤ 16 ∧ (∀ i, i < f.subs.length → subE (f.subs.getD i sub0) = 0) ∧ 0 ≤ f.auth ∧ f.auth ≤ 9999 := by
  unfold rightI at h
  cases ht : tagB f.tag
  · rw [if_pos ht] at h; cases h
  rw [if_neg (by rw [ht]; intro h; cases h)] at h
  cases hi : indsB f.ind
  · rw [if_pos hi] at h; cases h
  rw [if_neg (by rw [hi]; intro h; cases h)] at h
  by_cases h0 : f.subs.length = 0
  · rw [if_pos h0] at h; cases h
  rw [if_neg h0] at h
  by_cases h16 : 16 < f.subs.length
  · rw [if_pos h16] at h; cases h
  rw [if_neg h16] at h
  by_cases hf : firstE f.subs ≠ 0
  · rw [if_pos hf] at h
    exact absurd h hf
  rw [if_neg hf] at h
  by_cases ha : f.auth < 0 ∨ 9999 < f.auth
  · rw [if_pos ha] at h; cases h
  exact ⟨rfl, rfl, by omega, by omega, firstE_zero _ (Decidable.not_not.1 hf), by omega, by omega⟩
theorem tagB_len (l : List UInt8) (h : tagB l = true) : l.length = 3 := by
  unfold tagB at h
  simp at h
  omega
theorem indsB_len (l : List UInt8) (h : indsB l = true) : l.length = 2 := by
  unfold indsB at h
  simp at h
  omega
theorem bodyL_le : ∀ (L : List Sub), (∀ i, i < L.length → (L.getD i sub0).2.length ≤ 200) → (bodyL L).length ≤ 402 * L.length
  | [], _ => Nat.le_refl _
  | s :: t, h => by
    have h0 := h 0 (by simp)
    have h1 := bodyL_le t (fun i hi => h (i + 1) (by simpa using hi))
    have h2 := dblL_le s.2
    change s.2.length ≤ 200 at h0
    have e : bodyL (s :: t) = subP s ++ bodyL t := by simp [bodyL]
    rw [e, List.length_append, List.length_cons]
    unfold subP
    rw [List.length_cons, List.length_cons]
    omega
end

section
open Go.RowKit Go.PlainAid
theorem right_all15 (r : Rec) (h : rightRI r = 0) : ∀ f ∈ r.fields, rightI f = 0 := by
  unfold rightRI at h
  split at h
  · cases h
  split at h
  · cases h
  split at h
  · cases h
  split at h
  · cases h
  split at h
  · cases h
  exact (firstFE_zero _).1 h
def validR (r : Rec) : Bool := smallRB r && decide (rightRI r = 0)
theorem validR_ok (r : Rec) (h : validR r = true) : okR r := by
  unfold validR at h
  rw [Bool.and_eq_true, decide_eq_true_iff] at h
  obtain ⟨h1, h2⟩ := h
  unfold smallRB at h1
  rw [Bool.and_eq_true, decide_eq_true_iff, List.all_eq_true] at h1
  have hs : ∀ f ∈ r.fields, f.subs.length ≤ 20 ∧ ∀ s ∈ f.subs, s.2.length ≤ 300 := fun f hf => by
    have := h1.2 f hf
    unfold smallFB at this
    rw [Bool.and_eq_true, decide_eq_true_iff, List.all_eq_true] at this
    exact ⟨this.1, fun s hs => of_decide_eq_true (this.2 s hs)⟩
  refine ⟨h1.1, fun f hf => (hs f hf).1, fun f hf s hsm => ⟨(hs f hf).2 s hsm, ?_⟩⟩
  obtain ⟨i, hi, rfl⟩ := List.getElem_of_mem hsm
  have := (right_facts f (right_all15 r h2 f hf)).2.2.2.2.1 i hi
  rw [List.getD_eq_getElem?_getD, List.getElem?_eq_getElem hi] at this
  change subE f.subs[i] = 0 at this
  unfold subE at this
  by_cases hv : validT f.subs[i].2 = true
  · exact hv
  · have hv' : validT f.subs[i].2 = false := by simpa using hv
    split at this
    · cases this
    split at this
    · cases this
    first
      | cases this
      | (rw [if_pos hv'] at this; cases this)
set_option maxHeartbeats 8000000 in
theorem lvalid_any (r : Rec) (u : Value) (w : World) (hu : FL u r.fields w) (b : Bool) (hb : validR r = b) :
    Calls Tryz.prog 15 #[RV r u] w fun e w' => e = .returned (.bool b) ∧ Below w.heap.size w w' := by
  obtain ⟨W0, hW0⟩ : ∃ W0, w.alloc (.cells #[.int .i64 r.id, .int .i64 r.ver, .int .i64 r.kind, .string (S r.lang), u] 33) = W0 := ⟨_, rfl⟩
  have b0 : Below w.heap.size w W0 := by rw [← hW0]; exact (Below.refl w.heap.size w).alloc (Nat.le_refl _) _
  have hX : W0.heap[w.heap.size]? = some (.cells #[.int .i64 r.id, .int .i64 r.ver, .int .i64 r.kind, .string (S r.lang), u] 33 (0, 0)) := by rw [← hW0]; exact heap_alloc_new w _
  have hlt : w.heap.size < W0.heap.size := by rw [← hW0]; simp
  have HX := Lib.hid (fun (W : World) (h : Below W0.heap.size W0 W) => (h.block w.heap.size hlt).trans hX)
  have HBw := Lib.hid (fun (W : World) (h : Below W0.heap.size W0 W) => b0.trans (h.mono b0.size))
  obtain ⟨sm, hsm⟩ : ∃ sm, smallRB r = sm := ⟨_, rfl⟩
  obtain ⟨er, her⟩ : ∃ er, rightRI r = er := ⟨_, rfl⟩
  have cSm := Lib.hid (refSmall_any r u W0 (hu.after b0) sm hsm)
  have cRt := Lib.hid (fun (h : sm = true) (W : World) (hW : Below W0.heap.size W0 W) => refRight08_any r u W (hu.after (b0.trans (hW.mono b0.size))) (fun i hi j hj => by
    rw [h] at hsm
    unfold smallRB at hsm
    rw [Bool.and_eq_true, decide_eq_true_iff, List.all_eq_true] at hsm
    have h2 := hsm.2 _ (getD_mem15 r.fields fd0 i hi)
    unfold smallFB at h2
    rw [Bool.and_eq_true, decide_eq_true_iff, List.all_eq_true] at h2
    have := of_decide_eq_true (h2.2 _ (getD_mem15 (r.fields.getD i fd0).subs sub0 j hj))
    omega) er her)
  have HV : RowKit.Hid ((sm && decide (er = 0)) = b) := by
    unfold RowKit.Hid
    rw [← hb, ← hsm, ← her]
    rfl
  obtain ⟨a, cap, rfl, -, -⟩ := hu.length
  unfold RV at *
  have HW0 := Lib.hid hW0
  obtain ⟨x0, x1, x2, x3, x4⟩ := rcells5 hX
  clear hW0 hX hlt b0 hu hsm her hb
  generalize r.fields.length = nf at *
  generalize S r.lang = lg at *
  generalize r.id = rid at *
  generalize r.ver = rver at *
  generalize r.kind = rkind at *
  go_enter Tryz.func15, Tryz.ntmps15
  go_upto_region 1 with fail
  rw [HW0.out]
  clear HW0
  go_wp2_with fail
  refine cSm.out.mono ?_
  rintro e w1 ⟨rfl, hb1⟩
  have B1 := Lib.hid hb1
  clear cSm hb1 x0 x1 x2 x3 x4
  cases sm
  · have hv := HV.out
    rw [Bool.false_and] at hv
    subst hv
    have HG := Lib.hid (HBw.out w1 B1.out)
    clear HV cRt
    go_wp2
    first | exact ⟨rfl, HG.out⟩ | (go_ret; exact ⟨rfl, HG.out⟩)
  · obtain ⟨x0, x1, x2, x3, x4⟩ := rcells5 (HX.out w1 B1.out)
    have c2 := Lib.hid (cRt.out rfl w1 B1.out)
    clear cRt
    go_wp2_with fail
    refine c2.out.mono ?_
    rintro e w2 ⟨rfl, hb2⟩
    have HG := Lib.hid (HBw.out w2 (B1.out.trans (hb2.mono B1.out.size)))
    have hv := HV.out
    rw [Bool.true_and] at hv
    have t : (er == 0) = b := by rw [← hv]; exact Bool.eq_iff_iff.2 (by simp)
    clear HV hv hb2 c2
    go_wp2
    first | exact ⟨rfl, HG.out⟩ | (go_ret; exact ⟨rfl, HG.out⟩)
end

section
open Go.RowKit Go.PlainAid
theorem getD_snoc_lo (l : List UInt8) (x : UInt8) (i : Nat) (h : i < l.length) : (l ++ [x]).getD i 0 = l.getD i 0 := by
  rw [List.getD_eq_getElem?_getD, List.getElem?_append_left h, ← List.getD_eq_getElem?_getD]
theorem getD_snoc_hi (l : List UInt8) (x : UInt8) : (l ++ [x]).getD l.length 0 = x := by
  rw [List.getD_eq_getElem?_getD, List.getElem?_append_right (Nat.le_refl _), Nat.sub_self]; rfl
theorem dgt_digB (c : Nat) (h : c ≤ 9) : dgB5 (dgt c) = true := by rw [dgB5_iff, dgt_nat c h]; omega
theorem dgt_dv (x : UInt8) (h : dgB5 x = true) : dgt (x.toNat - 48) = x := by
  rw [dgB5_iff] at h
  apply UInt8.toNat_inj.1
  rw [dgt_nat _ (by omega)]
  omega
theorem digU_snoc (n : Nat) : ∀ k, digU n (k + 1) = digU (n / 10) k ++ [dgt (n % 10)]
  | 0 => by simp [digU]
  | k + 1 => by
    rw [digU, digU_snoc n k, digU, List.cons_append]
    congr 2
    rw [Nat.pow_succ, Nat.mul_comm, ← Nat.div_div_eq_div_mul]
theorem valL_digU : ∀ (k n : Nat) (l : List UInt8) (a : Nat), n < 10 ^ k → (∀ i, i < k → l.getD (a + i) 0 = (digU n k).getD i 0) → valL5 l a k = n
  | 0, n, l, a, h, _ => by simp at h; subst h; rfl
  | k + 1, n, l, a, h, hd => by
    have hlen := digU_length (n / 10) k
    have h1 : valL5 l a k = n / 10 := by
      refine valL_digU k (n / 10) l a (by rw [Nat.pow_succ] at h; omega) (fun i hi => ?_)
      rw [hd i (by omega), digU_snoc, getD_snoc_lo _ _ _ (by omega)]
    have h2 : dv l (a + k) = n % 10 := by
      unfold dv
      rw [hd k (by omega), digU_snoc]
      have := getD_snoc_hi (digU (n / 10) k) (dgt (n % 10))
      rw [hlen] at this
      rw [this, dgt_nat _ (by omega)]
      omega
    rw [valL5, h1, h2]
    omega
theorem digU_valL (l : List UInt8) (a : Nat) : ∀ k, (∀ i, i < k → dgB5 (l.getD (a + i) 0) = true) → digU (valL5 l a k) k = (List.range k).map fun i => l.getD (a + i) 0
  | 0, _ => rfl
  | k + 1, h => by
    have h9 := dv_le l (a + k) (h k (by omega))
    rw [digU_snoc, valL5, show (valL5 l a k * 10 + dv l (a + k)) / 10 = valL5 l a k by omega, show (valL5 l a k * 10 + dv l (a + k)) % 10 = dv l (a + k) by omega, digU_valL l a k (fun i hi => h i (by omega)), List.range_succ, List.map_append]
    congr 1
    show [dgt (dv l (a + k))] = [l.getD (a + k) 0]
    unfold dv
    rw [dgt_dv _ (h k (by omega))]

theorem all_getD5' (l : List UInt8) (p : UInt8 → Bool) : l.all p = true ↔ ∀ i, i < l.length → p (l.getD i 0) = true := by
  rw [List.all_eq_true]
  constructor
  · intro h i hi
    rw [List.getD_eq_getElem?_getD, List.getElem?_eq_getElem hi]
    exact h _ (List.getElem_mem hi)
  · intro h x hx
    obtain ⟨i, hi, rfl⟩ := List.getElem_of_mem hx
    have := h i hi
    rwa [List.getD_eq_getElem?_getD, List.getElem?_eq_getElem hi] at this
theorem digU_digs (n k : Nat) : (digU n k).all dgB5 = true := by
  induction k with
  | zero => rfl
  | succ k ih => simp only [digU, List.all_cons, ih, Bool.and_true]; exact dgt_digB _ (by omega)

theorem mkL_length (k n : Nat) : (mkL k n).length = 14 := by simp [mkL, mkB, digU_length]
theorem mkL_take (k n : Nat) : (mkL k n).take 13 = mkB k n := by
  have : (mkB k n).length = 13 := by simp [mkB, digU_length]
  unfold mkL
  rw [← this, List.take_left]
theorem mkL_digs (k n : Nat) (hk : k ≤ 9) : (mkL k n).all dgB5 = true := by
  unfold mkL mkB
  rw [List.all_append, List.all_cons, dgt_digB k hk, digU_digs]
  simp only [List.all_cons, List.all_nil, Bool.and_true, Bool.true_and]
  exact dgt_digB _ (comp_le _)
theorem mkL_last (k n : Nat) : (mkL k n).getD 13 0 = dgt (luhnC (mkB k n)) := by
  have h : (mkB k n).length = 13 := by simp [mkB, digU_length]
  have := getD_snoc_hi (mkB k n) (dgt (luhnC (mkB k n)))
  rw [h] at this
  exact this
/-- Parse of Make. -/
theorem parse_make (k n : Nat) (hk : k = 2 ∨ k = 3) (hn : n ≤ 9999) : parseI (mkL k n) = ((k : Int), (n : Int), 0) := by
  have h0 : (mkL k n).getD 0 0 = dgt k := rfl
  have hform : formB5 (mkL k n) = true := by
    unfold formB5
    rw [mkL_length, mkL_digs k n (by omega), h0]
    rcases hk with rfl | rfl <;> rfl
  have hlast : dv (mkL k n) 13 = luhnC (mkB k n) := by
    unfold dv
    rw [mkL_last, dgt_nat (luhnC (mkB k n)) (comp_le _)]
    exact Nat.add_sub_cancel_left _ _
  have hval : valL5 (mkL k n) 1 12 = n := by
    refine valL_digU 12 n (mkL k n) 1 (Nat.lt_of_le_of_lt hn (by decide)) (fun i hi => ?_)
    have hl := digU_length n 12
    show (dgt k :: digU n 12 ++ [dgt (luhnC (mkB k n))]).getD (1 + i) 0 = _
    rw [Nat.add_comm 1 i, List.cons_append, List.getD_cons_succ, getD_snoc_lo _ _ _ (by omega)]
  have hd0 : dv (mkL k n) 0 = k := by
    unfold dv
    rw [h0, dgt_nat k (by omega)]
    exact Nat.add_sub_cancel_left _ _
  unfold parseI
  rw [if_pos hform, mkL_take, hlast, if_pos rfl, hval, if_pos hn, hd0]
/-- Make of what Parse accepts. -/
theorem make_parse (l : List UInt8) (x y : Int) (h : parseI l = (x, y, 0)) : makeI x y = (l, 0) := by
  unfold parseI at h
  by_cases hf : formB5 l = true
  · rw [if_pos hf] at h
    by_cases hc : luhnC (l.take 13) = dv l 13
    · rw [if_pos hc] at h
      by_cases hv : valL5 l 1 12 ≤ 9999
      · rw [if_pos hv] at h
        simp only [Prod.mk.injEq, and_true] at h
        obtain ⟨rfl, rfl⟩ := h
        unfold formB5 at hf
        simp only [Bool.and_eq_true, decide_eq_true_eq, Bool.or_eq_true] at hf
        obtain ⟨⟨h14, hd⟩, h23⟩ := hf
        have hdg := (all_getD5' l dgB5).1 hd
        have hk : dv l 0 = 2 ∨ dv l 0 = 3 := by
          unfold dv
          rcases h23 with h | h
          · rw [h]; exact .inl rfl
          · rw [h]; exact .inr rfl
        have hB : mkB (dv l 0) (valL5 l 1 12) = l.take 13 := by
          unfold mkB
          rw [digU_valL l 1 12 (fun i hi => hdg _ (by omega))]
          apply List.ext_getElem?
          intro i
          rcases i with _ | i
          · show some (dgt (dv l 0)) = _
            rw [List.getElem?_take_of_lt (by decide), List.getElem?_eq_getElem (by omega)]
            congr 1
            have h1 := hdg 0 (by omega)
            have h2 := dgt_dv _ h1
            unfold dv
            rw [h2, List.getD_eq_getElem?_getD, List.getElem?_eq_getElem (by omega)]
            rfl
          · rw [List.getElem?_cons_succ]
            by_cases hi : i < 12
            · rw [List.getElem?_map, List.getElem?_range hi, List.getElem?_take_of_lt (by omega), List.getElem?_eq_getElem (by omega)]
              simp only [Option.map_some]
              congr 1
              rw [Nat.add_comm 1 i, List.getD_eq_getElem?_getD, List.getElem?_eq_getElem (by omega)]
              rfl
            · rw [List.getElem?_eq_none (by simp; omega), List.getElem?_eq_none (by rw [List.length_take]; omega)]
        have hL : mkL (dv l 0) (valL5 l 1 12) = l := by
          unfold mkL
          rw [hB, hc]
          have h1 := dgt_dv _ (hdg 13 (by omega))
          unfold dv
          rw [h1, List.getD_eq_getElem?_getD, List.getElem?_eq_getElem (by omega)]
          show l.take 13 ++ [l[13]] = l
          rw [← List.take_succ_eq_append_getElem (by omega), show 13 + 1 = l.length by omega, List.take_length]
        unfold makeI
        rw [if_pos (by omega), if_pos (by omega), Int.toNat_natCast, Int.toNat_natCast, hL]
      · rw [if_neg hv] at h
        simp at h
    · rw [if_neg hc] at h
      simp at h
  · rw [if_neg hf] at h
    simp at h

/-! Serial numbers. -/
theorem issnT_ok (t r : List UInt8) (h : issnT t = (r, 0)) : t.length = 8 ∧ r = t.take 4 ++ [45] ++ t.drop 4 := by
  unfold issnT at h
  by_cases h1 : t.length = 8 ∧ endedB t = true
  · rw [if_pos h1] at h
    by_cases h2 : wS t % 11 = 0
    · rw [if_pos h2] at h
      simp only [Prod.mk.injEq, and_true] at h
      exact ⟨h1.1, h.symm⟩
    · rw [if_neg h2] at h
      simp at h
  · rw [if_neg h1] at h
    simp at h
theorem issnT_bad (t r : List UInt8) (e : Int) (h : issnT t = (r, e)) (he : e ≠ 0) : r = [] := by
  unfold issnT at h
  split at h
  · split at h
    · simp only [Prod.mk.injEq] at h
      exact absurd h.2.symm he
    · simp only [Prod.mk.injEq] at h
      exact h.1.symm
  · simp only [Prod.mk.injEq] at h
    exact h.1.symm
theorem issn_again (l r : List UInt8) (h : issnI l = (r, 0)) : r.length = 9 ∧ issnI r = (r, 0) ∧ issnI (r.take 4 ++ r.drop 5) = (r, 0) := by
  unfold issnI at h
  generalize (if l.length = 9 ∧ l.getD 4 0 = 45 then l.take 4 ++ l.drop 5 else l) = t at h
  obtain ⟨h8, hr⟩ := issnT_ok t r h
  have ha : (t.take 4).length = 4 := by rw [List.length_take]; omega
  have hb : (t.drop 4).length = 4 := by rw [List.length_drop]; omega
  have h9 : r.length = 9 := by rw [hr]; simp only [List.length_append, ha, hb]; rfl
  have h4 : r.getD 4 0 = 45 := by
    rw [hr, List.append_assoc, List.getD_eq_getElem?_getD, List.getElem?_append_right (by omega), ha]
    rfl
  have ht : r.take 4 ++ r.drop 5 = t := by
    have e1 : r.take 4 = t.take 4 := by rw [hr, List.append_assoc]; exact List.take_left' ha
    have e2 : r.drop 5 = t.drop 4 := by
      rw [hr, show 5 = (t.take 4 ++ [45]).length by rw [List.length_append, ha]; rfl, List.drop_left]
    rw [e1, e2, List.take_append_drop]
  refine ⟨h9, ?_, ?_⟩
  · unfold issnI
    rw [if_pos ⟨h9, h4⟩, ht]
    exact h
  · rw [ht]
    unfold issnI
    rw [if_neg (fun hh => by omega)]
    exact h

/-! Book numbers. -/
theorem altS_snoc (p : List UInt8) (x : UInt8) (h : p.length % 2 = 0) : altS (p ++ [x]) = altS p + (x.toNat - 48) := by
  unfold altS
  rw [List.length_append]
  show addN _ (p.length + 1) = _
  rw [addN]
  congr 1
  · refine addN_congr _ fun i hi => ?_
    unfold dv
    rw [getD_snoc_lo _ _ _ hi]
  · rw [if_neg (by omega)]
    unfold dv
    rw [getD_snoc_hi]
theorem ended_digs (t : List UInt8) (h : endedB t = true) : (t.take (t.length - 1)).all dgB5 = true := by
  unfold endedB at h
  simp only [Bool.and_eq_true] at h
  exact h.1.2
theorem isbnT_bad (t r : List UInt8) (e : Int) (h : isbnT t = (r, e)) (he : e ≠ 0) : r = [] := by
  unfold isbnT at h
  split at h
  · split at h
    · simp only [Prod.mk.injEq] at h
      exact absurd h.2.symm he
    · simp only [Prod.mk.injEq] at h
      exact h.1.symm
  · split at h
    · split at h
      · simp only [Prod.mk.injEq] at h
        exact absurd h.2.symm he
      · simp only [Prod.mk.injEq] at h
        exact h.1.symm
    · simp only [Prod.mk.injEq] at h
      exact h.1.symm
theorem isbnT_ok (t r : List UInt8) (h : isbnT t = (r, 0)) : r.length = 13 ∧ r.all dgB5 = true ∧ isbnT r = (r, 0) := by
  have key : r.length = 13 ∧ r.all dgB5 = true ∧ (r.take 3 = [57, 55, 56] ∨ r.take 3 = [57, 55, 57]) ∧ altS r % 10 = 0 := by
    unfold isbnT at h
    by_cases h1 : t.length = 13 ∧ t.all dgB5 = true ∧ (t.take 3 = [57, 55, 56] ∨ t.take 3 = [57, 55, 57])
    · rw [if_pos h1] at h
      by_cases h2 : altS t % 10 = 0
      · rw [if_pos h2] at h
        simp only [Prod.mk.injEq, and_true] at h
        subst h
        exact ⟨h1.1, h1.2.1, h1.2.2, h2⟩
      · rw [if_neg h2] at h
        simp at h
    · rw [if_neg h1] at h
      by_cases h2 : t.length = 10 ∧ endedB t = true
      · rw [if_pos h2] at h
        by_cases h3 : wS t % 11 = 0
        · rw [if_pos h3] at h
          simp only [Prod.mk.injEq, and_true] at h
          obtain ⟨p, hp⟩ : ∃ p, ([57, 55, 56] ++ t.take 9 : List UInt8) = p := ⟨_, rfl⟩
          rw [hp] at h
          have hl : p.length = 12 := by rw [← hp, List.length_append, List.length_take]; simp; omega
          have hd : p.all dgB5 = true := by
            have := ended_digs t h2.2
            rw [h2.1] at this
            rw [← hp, List.all_append, this]
            decide
          subst h
          refine ⟨by rw [List.length_append, hl]; rfl, ?_, .inl ?_, ?_⟩
          · rw [List.all_append, hd]
            simp only [List.all_cons, List.all_nil, Bool.and_true, Bool.true_and]
            exact dgt_digB _ (comp_le _)
          · rw [← hp]; rfl
          · rw [altS_snoc p _ (by omega), dgt_nat _ (comp_le _)]
            unfold comp
            omega
        · rw [if_neg h3] at h
          simp at h
      · rw [if_neg h2] at h
        simp at h
  obtain ⟨h1, h2, h3, h4⟩ := key
  refine ⟨h1, h2, ?_⟩
  unfold isbnT
  rw [if_pos ⟨h1, h2, h3⟩, if_pos h4]
theorem removed_digs (t : List UInt8) (h : t.all dgB5 = true) : removed t = t := by
  unfold removed
  rw [List.filter_eq_self]
  intro x hx
  have := (List.all_eq_true.1 h) x hx
  rw [dgB5_iff] at this
  have h1 : x ≠ 45 := fun h => by rw [h] at this; exact absurd this.1 (by decide)
  have h2 : x ≠ 32 := fun h => by rw [h] at this; exact absurd this.1 (by decide)
  simp [keep, h1, h2]
theorem isbn_again (l r : List UInt8) (h : isbnI l = (r, 0)) (k : Nat) : r.length = 13 ∧ isbnI r = (r, 0) ∧ isbnI ([45] ++ r.take k ++ [32, 45, 32] ++ r.drop k ++ [32]) = (r, 0) ∧ isbnI (l ++ [45]) = (r, 0) := by
  obtain ⟨h1, h2, h3⟩ := isbnT_ok _ _ h
  have hr := removed_digs r h2
  refine ⟨h1, ?_, ?_, ?_⟩
  · unfold isbnI
    rw [hr]
    exact h3
  · unfold isbnI
    have e : removed ([45] ++ r.take k ++ [32, 45, 32] ++ r.drop k ++ [32]) = r := by
      have e2 : removed (r.take k) ++ removed (r.drop k) = removed r := by
        unfold removed
        rw [← List.filter_append, List.take_append_drop]
      rw [hr] at e2
      unfold removed at e2 ⊢
      simp only [List.filter_append]
      have c1 : [45].filter keep = [] := by decide
      have c2 : [32, 45, 32].filter keep = [] := by decide
      have c3 : [32].filter keep = [] := by decide
      rw [c1, c2, c3, List.nil_append, List.append_nil, List.append_nil]
      exact e2
    rw [e]
    exact h3
  · unfold isbnI at h ⊢
    have e : removed (l ++ [45]) = removed l := by
      unfold removed
      rw [List.filter_append, show [45].filter keep = [] by decide, List.append_nil]
    rw [e]
    exact h
end

section
open Go.RowKit Go.PlainAid
/-! strings.ReplaceAll of one byte by nothing. -/
theorem index_cons (b : UInt8) (l : List UInt8) (c : UInt8) : Lib.index (b :: l) [c] = if c = b then 0 else if Lib.index l [c] = -1 then -1 else Lib.index l [c] + 1 := by
  rw [Lib.index]
  have e : [c].isPrefixOf (b :: l) = decide (c = b) := by
    show (c == b && _) = _
    rw [show ([] : List UInt8).isPrefixOf l = true from by cases l <;> rfl, Bool.and_true]
    rfl
  rw [e]
  by_cases h : c = b
  · simp [h]
  · simp [h]
theorem strike_one (c : UInt8) : ∀ l : List UInt8, Lib.replaceK [c] [] (Lib.count l [c]) l = l.filter fun x => decide (x ≠ c)
  | [] => by
    rw [Lib.count_miss (show Lib.index [] [c] = -1 from rfl)]
    rfl
  | b :: l => by
    have ih := strike_one c l
    by_cases h : c = b
    · have hi : Lib.index (b :: l) [c] = ((0 : Nat) : Int) := by rw [index_cons, if_pos h]; rfl
      rw [Lib.count_hit (by simp) hi, Nat.add_comm 1, Lib.replaceK_hit _ _ _ _ 0 hi]
      simp only [List.take_zero, List.nil_append, Nat.zero_add, List.length_cons, List.length_nil, List.drop_succ_cons, List.drop_zero]
      rw [ih, List.filter_cons_of_neg (by simp [h])]
    · have hb : (fun x : UInt8 => decide (x ≠ c)) b = true := decide_eq_true fun e => h e.symm
      rcases Int.lt_or_le (Lib.index l [c]) 0 with hn | hp
      · have hm : Lib.index l [c] = -1 := by have := Lib.index_ge l [c]; omega
        have hi : Lib.index (b :: l) [c] = -1 := by rw [index_cons, if_neg h, if_pos hm]
        rw [Lib.count_miss hm] at ih
        rw [Lib.count_miss hi, List.filter_cons_of_pos (p := fun x : UInt8 => decide (x ≠ c)) hb, ← ih]
        rfl
      · obtain ⟨i, hm⟩ : ∃ i : Nat, Lib.index l [c] = i := ⟨(Lib.index l [c]).toNat, by omega⟩
        have hi : Lib.index (b :: l) [c] = ((i + 1 : Nat) : Int) := by rw [index_cons, if_neg h, if_neg (by omega), hm]; rfl
        rw [Lib.count_hit (by simp) hm, Nat.add_comm 1, Lib.replaceK_hit _ _ _ _ i hm] at ih
        rw [Lib.count_hit (by simp) hi, Nat.add_comm 1, Lib.replaceK_hit _ _ _ _ (i + 1) hi, List.filter_cons_of_pos (p := fun x : UInt8 => decide (x ≠ c)) hb, ← ih]
        simp only [List.length_cons, List.length_nil, Nat.zero_add, List.append_nil, List.take_succ_cons, List.cons_append, List.drop_succ_cons]
theorem struck (c : UInt8) (l : List UInt8) : Lib.replaceAll l [c] [] = l.filter fun x => decide (x ≠ c) := by
  unfold Lib.replaceAll Lib.replace Lib.replaceNum
  rw [if_neg (by simp), if_pos (Or.inl (by decide))]
  exact strike_one c l
theorem struck_both (l : List UInt8) : Lib.replaceAll (Lib.replaceAll l [45] []) [32] [] = removed l := by
  rw [struck, struck, List.filter_filter]
  unfold removed keep
  refine List.filter_congr fun x _ => ?_
  rw [Bool.and_comm]

/-! strings.TrimSuffix of an X. -/
theorem trim_snoc (l : List UInt8) (x : UInt8) : Lib.trimSuffix (l ++ [x]) [88] = if x = 88 then l else l ++ [x] := by
  unfold Lib.trimSuffix Lib.hasSuffix
  by_cases h : x = 88
  · subst h
    rw [if_pos (List.isSuffixOf_iff_suffix.2 ⟨l, rfl⟩), if_pos rfl]
    simp
  · rw [if_neg h, if_neg]
    intro hs
    obtain ⟨t, ht⟩ := List.isSuffixOf_iff_suffix.1 hs
    have := List.append_inj_right' ht rfl
    exact h (by simpa using this.symm)
theorem snoc_of (l : List UInt8) (h : 1 ≤ l.length) : ∃ t x, l = t ++ [x] := by
  rcases List.eq_nil_or_concat l with rfl | ⟨t, x, rfl⟩
  · simp at h
  · exact ⟨t, x, by simp⟩
theorem trim_ended (l : List UInt8) (h : 1 ≤ l.length) : (Lib.trimSuffix l [88]).all dgB5 = endedB l := by
  obtain ⟨t, x, rfl⟩ := snoc_of l h
  unfold endedB
  have e1 : (t ++ [x]).length - 1 = t.length := by simp
  rw [trim_snoc, e1, getD_snoc_hi, List.take_left, decide_eq_true h, Bool.true_and]
  by_cases hx : x = 88
  · subst hx
    rw [if_pos rfl, decide_eq_true rfl, Bool.or_true, Bool.and_true]
  · rw [if_neg hx, decide_eq_false hx, Bool.or_false, List.all_append]
    simp

/-! strings.HasPrefix. -/
theorem begins_three (l : List UInt8) (a b c : UInt8) (h : 3 ≤ l.length) : Lib.hasPrefix l [a, b, c] = decide (l.take 3 = [a, b, c]) := by
  rw [← Lib.hasPrefix_of_take]
  rw [show decide ([a, b, c].length ≤ l.length) = true from decide_eq_true h, Bool.true_and, Bool.eq_iff_iff, beq_iff_eq, decide_eq_true_iff]
  rfl

/-! strconv.Atoi of digits. -/
theorem dec_from (l : List UInt8) (a n : Nat) (hl : a + n ≤ l.length) (hd : ∀ i, i < n → dgB5 (l.getD (a + i) 0) = true) : ∀ k, k ≤ n → Lib.decFrom 0 (((l.drop a).take n).take k) = some (valL5 l a k)
  | 0, _ => rfl
  | k + 1, hk => by
    have ih := dec_from l a n hl hd k (by omega)
    have hb : ((l.drop a).take n)[k]? = some (l.getD (a + k) 0) := by
      rw [List.getElem?_take_of_lt (by omega), List.getElem?_drop, List.getD_eq_getElem?_getD, List.getElem?_eq_getElem (show a + k < l.length by omega)]
      rfl
    have h1 := hd k (by omega)
    rw [dgB5_iff] at h1
    refine Lib.decFrom_take _ k 0 _ _ _ ih hb ?_
    rw [Lib.digitVal, if_pos h1]
    rfl
theorem atoi_digits (l : List UInt8) (a n : Nat) (h1 : 1 ≤ n) (hl : a + n ≤ l.length) (hd : ∀ i, i < n → dgB5 (l.getD (a + i) 0) = true) : Lib.atoi ((l.drop a).take n) = some ((valL5 l a n : Nat) : Int) := by
  have h := dec_from l a n hl hd n (Nat.le_refl n)
  rw [List.take_take, Nat.min_self] at h
  have hlen : ((l.drop a).take n).length = n := by rw [List.length_take, List.length_drop]; omega
  have h0 : ((l.drop a).take n)[0]? = some (l.getD (a + 0) 0) := by
    rw [List.getElem?_take_of_lt (by omega), List.getElem?_drop, List.getD_eq_getElem?_getD, List.getElem?_eq_getElem (show a + 0 < l.length by omega)]
    rfl
  have hd0 := hd 0 (by omega)
  generalize (l.drop a).take n = m at *
  cases m with
  | nil => simp at hlen; omega
  | cons b r =>
    simp only [List.getElem?_cons_zero, Option.some.injEq] at h0
    rw [← h0, dgB5_iff] at hd0
    have n1 : (b == 45) = false := by
      rw [beq_eq_false_iff_ne]
      rintro rfl
      revert hd0
      decide
    have n2 : (b == 43) = false := by
      rw [beq_eq_false_iff_ne]
      rintro rfl
      revert hd0
      decide
    rw [Lib.atoi, n1, n2]
    simp only [Bool.false_eq_true, if_false, Lib.decNat, List.isEmpty_cons]
    rw [h]
    rfl

/-! strconv.Itoa behind noughts. -/
theorem noughts (c : Nat) : Lib.repeatL [48] c = List.replicate c 48 := by
  have := Lib.repeatL_replicate 48 1 c
  rwa [Nat.mul_one] at this
theorem noughts_snoc (c : Nat) : List.replicate (c + 1) (48 : UInt8) = List.replicate c 48 ++ [48] := by rw [List.replicate_succ']
theorem dec_one (n : Nat) (h : n < 10) : Lib.decDigits n = [dgt n] := by rw [Lib.decDigits, dif_pos h]; rfl
theorem dec_pad : ∀ k n, 1 ≤ k → n < 10 ^ k → 1 ≤ (Lib.decDigits n).length ∧ (Lib.decDigits n).length ≤ k ∧ digU n k = Lib.repeatL [48] (k - (Lib.decDigits n).length) ++ Lib.decDigits n
  | 0, _, h, _ => by omega
  | 1, n, _, h => by
    have hn : n < 10 := by simpa using h
    rw [Lib.decDigits, dif_pos hn]
    refine ⟨by simp, by simp, ?_⟩
    simp only [digU, Nat.pow_zero, Nat.div_one, Nat.mod_eq_of_lt hn]
    rfl
  | k + 2, n, _, h => by
    have hp : n / 10 < 10 ^ (k + 1) := by rw [Nat.pow_succ] at h; omega
    obtain ⟨h1, h2, h3⟩ := dec_pad (k + 1) (n / 10) (by omega) hp
    rw [digU_snoc, h3]
    by_cases hn : n < 10
    · have e0 : n / 10 = 0 := by omega
      rw [e0, dec_one 0 (by decide), dec_one n hn, noughts, noughts]
      refine ⟨by simp, by simp, ?_⟩
      rw [Nat.mod_eq_of_lt hn]
      show List.replicate k 48 ++ [dgt 0] ++ [dgt n] = List.replicate (k + 1) 48 ++ [dgt n]
      rw [noughts_snoc]
      rfl
    · have e0 : Lib.decDigits n = Lib.decDigits (n / 10) ++ [dgt (n % 10)] := by rw [Lib.decDigits, dif_neg hn]; rfl
      rw [e0]
      refine ⟨by simp, by simp; omega, ?_⟩
      rw [← List.append_assoc]
      congr 3
      simp
/-- The barcode without its check digit, as it is put together. -/
theorem body_of (k n : Nat) (hk : k ≤ 9) (hn : n ≤ 9999) : (Lib.decDigits k ++ Lib.repeatL [48] (12 - (Lib.decDigits n).length)) ++ Lib.decDigits n = mkB k n := by
  obtain ⟨_, _, h3⟩ := dec_pad 12 n (by decide) (by omega)
  unfold mkB
  rw [h3, dec_one k (by omega), List.append_assoc]
  rfl
theorem dec_four (n : Nat) (hn : n ≤ 9999) : 1 ≤ (Lib.decDigits n).length ∧ (Lib.decDigits n).length ≤ 4 := by
  obtain ⟨h1, h2, _⟩ := dec_pad 4 n (by decide) (by omega)
  exact ⟨h1, h2⟩

/-! The check digit; what a character counts. -/
theorem wd_digit (x : UInt8) (h : dgB5 x = true) : wd x = x.toNat - 48 := by
  rw [dgB5_iff] at h
  unfold wd
  rw [if_neg]
  rintro rfl
  revert h
  decide
end

end Go.Proofs.YtfjfpefpdlecbaaGreatDoor
