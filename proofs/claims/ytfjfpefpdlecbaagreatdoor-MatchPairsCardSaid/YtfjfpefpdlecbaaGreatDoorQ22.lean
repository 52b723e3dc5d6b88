/- Merged: Plain12D, R12C, Env12, Env07. -/
import Derived.Test.YtfjfpefpdlecbaaGreatDoorQ12
import Derived.Test.YtfjfpefpdlecbaaGreatDoorQ13
import Derived.Test.YtfjfpefpdlecbaaGreatDoorShelf
import Derived.Test.YtfjfpefpdlecbaaGreatDoorQ20
import Derived.Test.YtfjfpefpdlecbaaGreatDoorQ21
import Derived.Lib.LaidTab
import Derived.Test.YtfjfpefpdlecbaaGreatDoorQ19
import Derived.Lib.ConvBytes
namespace Go.Proofs.YtfjfpefpdlecbaaGreatDoor

section
open Go.Lib
def sumF (f : List UInt8 → Nat) (L : List (List UInt8)) : Nat := (L.map f).sum
theorem sumF_cons (f : List UInt8 → Nat) (x : List UInt8) (L : List (List UInt8)) : sumF f (x :: L) = f x + sumF f L := by simp [sumF]
theorem sumF_filter (f : List UInt8 → Nat) (p : List UInt8 → Bool) : ∀ L : List (List UInt8), sumF f (L.filter p) ≤ sumF f L
  | [] => Nat.le_refl _
  | x :: L => by
    have ih := sumF_filter f p L
    rw [List.filter_cons]
    split
    · rw [sumF_cons, sumF_cons]; omega
    · rw [sumF_cons]; omega
theorem sumF_map (f : List UInt8 → Nat) (g : List UInt8 → List UInt8) (L : List (List UInt8)) : sumF f (L.map g) = sumF (fun x => f (g x)) L := by
  simp [sumF, Function.comp_def]
theorem sumF_le (f g : List UInt8 → Nat) (k : Nat) : ∀ L : List (List UInt8), (∀ x ∈ L, f x ≤ k * g x) → sumF f L ≤ k * sumF g L
  | [], _ => by simp [sumF]
  | x :: L, h => by
    have h1 := h x (by simp)
    have ih := sumF_le f g k L (fun y hy => h y (by simp [hy]))
    rw [sumF_cons, sumF_cons, Nat.mul_add]
    omega
theorem spl_sum (sep : List UInt8) : ∀ (n : Nat) (l : List UInt8), l.length ≤ n → sumF (fun x => x.length + 1) (splG sep l) ≤ l.length + 1
  | _, [], _ => by rw [spl_nil]; simp [sumF]
  | 0, c :: t, h => by simp at h
  | n + 1, c :: t, h => by
    by_cases h0 : sep ≠ [] ∧ sep.isPrefixOf (c :: t) = true
    · have hp := List.length_pos_iff.2 h0.1
      have := spl_sum sep n ((c :: t).drop sep.length) (by rw [List.length_drop]; omega)
      rw [spl_hit sep _ h0.1 h0.2, sumF_cons]
      rw [List.length_drop] at this
      simp only [List.length_cons, List.length_nil] at this ⊢
      omega
    · have ih := spl_sum sep n t (by simpa using h)
      rw [splG, dif_neg h0]
      cases e : splG sep t with
      | nil => simp [addH, sumF]
      | cons p r =>
        rw [e, sumF_cons] at ih
        simp only [addH, sumF_cons, List.length_cons, List.length_append, List.length_nil] at ih ⊢
        omega
theorem glu_sum (sep : List UInt8) : ∀ L : List (List UInt8), (gluX sep L).length ≤ sumF (fun x => x.length + sep.length) L
  | [] => by simp [gluX]
  | [x] => by
    show x.length ≤ _
    rw [sumF_cons]
    omega
  | x :: y :: r => by
    have ih := glu_sum sep (y :: r)
    rw [sumF_cons]
    show (x ++ sep ++ gluX sep (y :: r)).length ≤ _
    rw [List.length_append, List.length_append]
    omega
/-- Cleaning makes no text longer. -/
theorem clean_run_le (cs : List Nat) : (cleanRun cs).1.length + (if (cleanRun cs).2 = true then 1 else 0) ≤ cs.length := by
  refine snoc_ind (p := fun cs => (cleanRun cs).1.length + (if (cleanRun cs).2 = true then 1 else 0) ≤ cs.length) ?_ ?_ cs
  · simp [cleanRun]
  · intro l c ih
    rw [cleanRun_snoc]
    revert ih
    generalize cleanRun l = st
    obtain ⟨o, b⟩ := st
    intro ih
    unfold cleanStep
    rw [List.length_append]
    cases b <;> by_cases hb : blankc c = true <;> by_cases ho : o = [] <;> simp_all <;> omega
theorem clean_tight (cs : List Nat) : (cleanL cs).length ≤ cs.length := by
  have := clean_run_le cs
  unfold cleanL
  omega
theorem norm_len (l : List UInt8) (h : validT l = true) : (normX l).length ≤ 8 * (l.length + 1) := by
  obtain ⟨cs, hcs, rfl⟩ := validT_text l h
  refine Nat.le_trans (glu_sum dd _) ?_
  unfold normL partsX nonE
  refine Nat.le_trans (sumF_filter _ _ _) ?_
  rw [sumF_map]
  refine Nat.le_trans (sumF_filter _ _ _) ?_
  rw [sumF_map]
  refine Nat.le_trans (sumF_le _ (fun x => x.length + 1) 8 _ ?_) (Nat.mul_le_mul_left 8 (spl_sum dd _ _ (Nat.le_refl _)))
  intro x hx
  obtain ⟨c1, hc1, rfl⟩ := spl_valid dd dd_ascii _ cs (Nat.le_refl _) hcs x hx
  rw [cleanX_enc c1 hc1, wordX_enc _ (clean_OK c1 hc1)]
  have h1 := clean_tight c1
  have h2 := len_le c1
  rw [T_size] at h2
  have h3 := W_total (cleanL c1)
  have h4 := join_total (W (cleanL c1))
  have h5 := enc_le (joinL (W (cleanL c1)))
  have h6 : dd.length = 2 := rfl
  omega
end

section
open Go.RowKit Go.PlainAid
theorem row_bl {B : Nat} {v : Value} {L : List (List UInt8)} {w : World} (h : w.ownsRow B 9 1 v L.length (L.map strB)) : BL v L w := by
  rcases h.2 with ⟨rfl, h0⟩ | ⟨g, cap, cur, rfl, hg0, hg, hc, hm, hsz, ht⟩
  · have : L = [] := List.eq_nil_of_length_eq_zero h0
    subst this
    exact ⟨none, 0, rfl, Nat.le_refl _, Nat.zero_le _, fun _ => rfl, fun i hi => by cases hi⟩
  · refine ⟨_, cap, rfl, hc, hm, (fun h => by cases h), fun i hi => ⟨g, 0, rfl, (Array.getElem?_eq_some_iff.1 hg).1, ?_⟩⟩
    have := h.cells (g := g) rfl i (strB (L.getD i [])) (by rw [List.getElem?_map, List.getElem?_eq_getElem hi, List.getD_eq_getElem?_getD, List.getElem?_eq_getElem hi]; rfl)
    have hadd : (⟨g, 0, none⟩ : Addr).add i = ⟨g, i, none⟩ := by unfold Addr.add; split <;> simp_all
    rw [hadd] at this
    rw [Nat.zero_add]
    exact this
theorem strs_bl {B : Nat} {v : Value} {ws : List (List Nat)} {w : World} (h : Strs B v ws w) : BL v (ws.map enc) w := by
  refine row_bl (B := B) ?_
  rw [List.length_map, List.map_map]
  exact h
theorem glu_words (ws : List (List Nat)) : gluX [32] (ws.map enc) = enc (joinL ws) := by
  refine snoc_ind2 (p := fun ws => gluX [32] (ws.map enc) = enc (joinL ws)) ?_ ?_ ws
  · rfl
  · intro l x ih
    rw [List.map_append, List.map_cons, List.map_nil, glu_snoc, joinL_snoc]
    by_cases h : l = []
    · subst h
      rfl
    · rw [if_neg (by simpa using h), if_neg h, ih, enc_append, enc_append]
      rfl
theorem word_le : ∀ (ws : List (List Nat)) (x : List Nat), x ∈ ws → x.length ≤ total ws
  | [], x, hx => by cases hx
  | y :: t, x, hx => by
    have e : total (y :: t) = y.length + 1 + total t := by simp [total]
    rw [e]
    rcases List.mem_cons.1 hx with rfl | hx
    · omega
    · have := word_le t x hx
      omega
theorem parts_len (l : List UInt8) (h : validT l = true) : ∀ x ∈ partsX l, ∃ c1, OKs c1 ∧ x = enc c1 ∧ c1.length ≤ l.length := by
  obtain ⟨cs, hcs, rfl⟩ := validT_text l h
  intro x hx
  obtain ⟨hx, hne⟩ := nonE_mem hx
  obtain ⟨y, hy, rfl⟩ := List.mem_map.1 hx
  have hyl := spl_mem dd _ _ (Nat.le_refl _) y hy
  obtain ⟨c1, hc1, rfl⟩ := spl_valid dd dd_ascii _ cs (Nat.le_refl _) hcs y hy
  rw [cleanX_enc c1 hc1]
  refine ⟨cleanL c1, clean_OK c1 hc1, rfl, ?_⟩
  have h1 := clean_tight c1
  have h2 := len_le c1
  rw [T_size] at h2
  omega
/-- The words of a part, joined by blanks. -/
theorem refWordsS_any (x : List UInt8) (m : Nat) (hm : m ≤ 10000) (hx : ∃ c1, OKs c1 ∧ x = enc c1 ∧ c1.length ≤ m) (w : World) :
    Calls Tryz.prog 66 #[.string (S x)] w fun e w' => ∃ v L, e = .returned v ∧ BL v L w' ∧ Below w.heap.size w w' ∧ gluX [32] L = wordX x ∧ (∀ y ∈ L, y.length ≤ 100000) ∧ L.length ≤ 100000 ∧ (wordX x).length ≤ 100000 := by
  obtain ⟨c1, h1, rfl, hl⟩ := hx
  refine (refWords_any c1 h1 _ rfl (by omega) w).mono ?_
  rintro e w' ⟨v, rfl, hs, hb⟩
  have ht := W_total c1
  refine ⟨v, (W c1).map enc, rfl, strs_bl hs, hb, by rw [glu_words, wordX_enc c1 h1], ?_, ?_, ?_⟩
  · intro y hy
    obtain ⟨z, hz, rfl⟩ := List.mem_map.1 hy
    have h2 := word_le _ z hz
    have h3 := enc_le z
    omega
  · rw [List.length_map]
    have := len_total (W c1)
    omega
  · rw [wordX_enc c1 h1]
    have h2 := join_total (W c1)
    have h3 := enc_le (joinL (W c1))
    omega
end

section
open Go.RowKit
structure Env (w : World) : Prop where
  tabs : Tabs w
  acc : Acc w
  most : ∃ m, w.cell? ⟨0, 0, none⟩ = some (.int .i64 m)
  pows : Lib.TabIs Tryz.prog w "internal/strconv.uint64pow10" .u64 Lib.pow10Tab
theorem tabIs_below {w w' : World} {n : String} {k : IntKind} {zs : List Int} (h : Lib.TabIs Tryz.prog w n k zs) (hb : Below w.heap.size w w') : Lib.TabIs Tryz.prog w' n k zs := by
  unfold Lib.TabIs World.var? at *
  cases hg : Tryz.prog.globalNamed n with
  | none => simp [hg] at h
  | some g =>
    simp only [hg, Option.bind_some] at h ⊢
    have hlt : g < w.heap.size := by
      rcases Nat.lt_or_ge g w.heap.size with h' | h'
      · exact h'
      · rw [Array.getElem?_eq_none h'] at h; simp at h
    rw [hb.block g hlt]
    exact h
theorem cell_below {w w' : World} {g : Nat} {v : Value} (h : w.cell? ⟨g, 0, none⟩ = some v) (hb : Below w.heap.size w w') : w'.cell? ⟨g, 0, none⟩ = some v := by
  have hlt : g < w.heap.size := by
    rcases Nat.lt_or_ge g w.heap.size with h' | h'
    · exact h'
    · simp [World.cell?, Array.getElem?_eq_none h'] at h
  exact (hb.cell (p := ⟨g, 0, none⟩) hlt).trans h
theorem Env.after {w w' : World} (h : Env w) (hb : Below w.heap.size w w') : Env w' := by
  obtain ⟨h1, h2, ⟨m, hm⟩, h4⟩ := h
  exact ⟨h1.after hb, h2.after hb, ⟨m, cell_below hm hb⟩, tabIs_below h4 hb⟩
theorem drewN_below (w : World) (n : Nat) : Below w.heap.size w (w.drewN n) := ⟨rfl, rfl, rfl, Nat.le_refl _, fun _ _ => rfl⟩
/-- A slice of texts of the call's own, nil at first. -/
def NR (B : Nat) (v : Value) (L : List (List UInt8)) (w : World) : Prop := w.ownsRow B 9 1 v L.length (L.map strB)
theorem NR.after {B : Nat} {v : Value} {L : List (List UInt8)} {w w' : World} (h : NR B v L w) (hb : Below w.heap.size w w') : NR B v L w' := own_after h hb
theorem NR.none (B : Nat) (w : World) : NR B (.slice none 0 0) [] w := ⟨rfl, .inl ⟨rfl, rfl⟩⟩
theorem NR.bl {B : Nat} {v : Value} {L : List (List UInt8)} {w : World} (h : NR B v L w) : BL v L w := row_bl h
/-- append of one text that has just been laid to such a row. -/
theorem append_nr {ops : Array Oper} {rest : List Oper} {o : Oper} {a : Act} {Q : Exit → Act → World → Prop} (w : World) (hgd : o.guard = none) (s x : Operand)
    (ho : o.op = .call { callee := .builtin .append, args := #[s, x], argTypes := #[36, 36] })
    (B : Nat) (v : Value) (L : List (List UInt8)) (y : List UInt8) (hs : a.eval s = v) (h : NR B v L w) (hx : a.eval x = .slice (some ⟨w.heap.size, 0, none⟩) 1 1) (hz : L.length ≤ 10000000) (hB : B ≤ w.heap.size)
    (N : Nat) (W1 : World) (hNB : N ≤ B) (hb : Below N W1 w)
    (hk : ∀ v' w', NR B v' (L ++ [y]) w' → Below N W1 w' → B ≤ w'.heap.size → wpList Tryz.prog ops Q rest (a.put o.dst v') w') : wpList Tryz.prog ops Q (o :: rest) a (w.alloc (.cells #[strB y] 9)) := by
  obtain ⟨i0, hi, hz0, hz1, hz2⟩ := info_string
  have hrow := World.ownsRow.alloc h (.cells #[strB y] 9)
  refine wpList_append_own _ hgd s x 36 ho B 9 i0 (.string ⟨#[]⟩) 1 16 Tryz.underlying36 hi hz0 hz1 hz2 rfl (by decide) v L.length _ hs hrow ⟨w.heap.size, 0, none⟩ 1 1 [strB y] hx rfl (cells_one12 _ _ _) (by intro u hu; simp at hu; subst hu; rfl) (by unfold maxLen; omega) (by omega) (by simp; omega) ?_
  intro v2 w2 hown2 hg2 hn2
  refine hk v2 w2 (by unfold NR; rw [List.length_append, List.map_append]; exact hown2) ?_ (Nat.le_trans (by simp; omega) hg2.size)
  exact (hb.alloc (by omega) _).grown hg2 (by simp; omega) (fun j hj => Nat.le_trans hNB (hrow.lt j hj).1)

/-- text.Valid. -/
theorem cValid (l : List UInt8) (hz : l.length ≤ 1000000) (b : Bool) (hb : validT l = b) (w : World) (hE : Env w) :
    Calls Tryz.prog 123 #[.string (S l)] w fun e w' => e = .returned (.bool b) ∧ Below w.heap.size w w' :=
  valid_is (S l) b hb (by rw [S_size]; omega) w hE.tabs
/-- text.Words of a part. -/
theorem cWords (x : List UInt8) (m : Nat) (hm : m ≤ 10000) (hx : ∃ c1, OKs c1 ∧ x = enc c1 ∧ c1.length ≤ m) (w : World) (hE : Env w) :
    Calls Tryz.prog 82 #[.string (S x)] w fun e w' => ∃ v L, e = .returned v ∧ BL v L w' ∧ Below w.heap.size w w' ∧ gluX [32] L = wordX x ∧ (∀ y ∈ L, y.length ≤ 100000) ∧ L.length ≤ 100000 ∧ (wordX x).length ≤ 100000 ∧ (L = [] ↔ wordX x = []) := by
  obtain ⟨c1, h1, rfl, hl⟩ := hx
  refine (words_any c1 h1 _ rfl (by omega) w hE.acc).mono ?_
  rintro e w' ⟨v, rfl, hs, hb⟩
  have ht := W_total c1
  refine ⟨v, (W c1).map enc, rfl, strs_bl hs, hb, by rw [glu_words, wordX_enc c1 h1], ?_, ?_, ?_, ?_⟩
  · intro y hy
    obtain ⟨z, hz, rfl⟩ := List.mem_map.1 hy
    have h2 := word_le _ z hz
    have h3 := enc_le z
    omega
  · rw [List.length_map]
    have := len_total (W c1)
    omega
  · rw [wordX_enc c1 h1]
    have h2 := join_total (W c1)
    have h3 := enc_le (joinL (W c1))
    omega
  · rw [wordX_enc c1 h1, List.map_eq_nil_iff]
    constructor
    · intro h
      rw [h]
      rfl
    · intro h
      by_cases h0 : W c1 = []
      · exact h0
      · have h2 := join_ne (W c1) (fun x hx => (W_words c1 x hx).1) h0
        have h3 := len_le (joinL (W c1))
        rw [T_size, h] at h3
        have := List.length_pos_iff.2 h2
        simp at h3
        exact absurd h3 h2
theorem row_of (w w' : World) (P : List (List UInt8)) (N : Nat) (X : Array Value) (hn : P.length ≤ N) (hN : N ≤ maxLen) (hX : ∀ i, i < P.length → X[i]? = some (strB (P.getD i []))) (hw : w' = w.alloc (.cells X 9)) :
    BL (.slice (some ⟨w.heap.size, 0, none⟩) P.length N) P w' := by
  subst hw
  have hbk := heap_alloc_new w (.cells X 9)
  refine ⟨_, _, rfl, hn, hN, (fun h => by cases h), fun i hi => ⟨w.heap.size, 0, rfl, (Array.getElem?_eq_some_iff.1 hbk).1, ?_⟩⟩
  rw [Lib.cell_of_heap hbk, Nat.zero_add]
  exact hX i hi
theorem spl_le12 (sep l : List UInt8) : (splG sep l).length ≤ l.length + 1 := spl_len sep l.length l (Nat.le_refl _)
/-- strings.Join. -/
theorem cJoin (sep : List UInt8) (v : Value) (L : List (List UInt8)) (w : World) (hv : BL v L w) (hs : sep.length ≤ 100) (m : Nat) (hm : m ≤ 1000000) (hL : ∀ x ∈ L, x.length ≤ m) (hn : L.length ≤ 1000000) :
    Calls Tryz.prog 81 #[v, .string (S sep)] w fun e w' => e = .returned (.string (S (gluX sep L))) ∧ Below w.heap.size w w' := by
  have hjs := glu_le sep m hs L hL
  have hmul : (m + 100) * L.length ≤ 1000100 * 1000000 := Nat.mul_le_mul (by omega) hn
  obtain ⟨a, cap, rfl, hcap, hmax, hn0, hcell⟩ := hv
  by_cases h0 : L.length = 0
  · have : L = [] := List.eq_nil_of_length_eq_zero h0
    subst this
    refine (Tryz.strings_Join_none a cap (S sep) w).mono fun e w' hh => ?_
    obtain ⟨he, rfl⟩ := hh
    exact ⟨he, Below.refl _ _⟩
  · obtain ⟨g, o, rfl, hg, _⟩ := hcell 0 (by omega)
    have hmap : (L.map S).map (·.data.toList) = L := by
      rw [List.map_map]
      conv => rhs; rw [← List.map_id L]
      exact List.map_congr_left fun x _ => rfl
    have h := Tryz.strings_Join g o cap (L.map S) (S sep) w (fun j x hx => by
      have hj : j < L.length := by
        have := (List.getElem?_eq_some_iff.1 hx).1
        rwa [List.length_map] at this
      obtain ⟨g', o', he, _, hc⟩ := hcell j hj
      simp only [Option.some.injEq, Addr.mk.injEq] at he
      obtain ⟨rfl, rfl, _⟩ := he
      rw [hc]
      rw [List.getElem?_map, List.getElem?_eq_getElem hj] at hx
      simp only [Option.map_some, Option.some.injEq] at hx
      rw [← hx, List.getD_eq_getElem?_getD, List.getElem?_eq_getElem hj]
      rfl) hg (by rw [List.length_map]; omega) (by rw [List.length_map]; exact hcap) (by
        rw [hmap, show (S sep).data.toList = sep from rfl, join_glu]
        omega)
    rw [List.length_map, hmap, show (S sep).data.toList = sep from rfl, join_glu] at h
    exact h
end

section
open Go.RowKit
theorem Grow_below (w : World) (k : Nat) (os : Array Obj) : Below w.heap.size w (Sort.grow (w.drewN k) os) :=
  ⟨rfl, rfl, rfl, by simp [Sort.grow], fun i hi => Sort.heap_grow_old (w.drewN k) os hi⟩
/-- strconv.Itoa at a number that is not negative. -/
theorem cItoa (n : Nat) (h : n ≤ 99999) (w : World) (hE : Env w) :
    Calls Tryz.prog 132 #[.int .i64 (n : Int)] w fun e w' => e = .returned (.string (S (Lib.decDigits n))) ∧ Below w.heap.size w w' :=
  (Tryz.strconv_Itoa (n : Int) (by omega) (by omega) w hE.pows).mono fun e w' hh => by
    obtain ⟨he, k, os, rfl⟩ := hh
    refine ⟨?_, Grow_below w k os⟩
    rw [he, Lib.itoa, if_neg (by omega), Int.toNat_natCast]
    rfl
theorem count_le' (l d : List UInt8) : Lib.countB (S l) (S d) ≤ l.length + 1 := Lib.count_le l d
theorem cReplace (l old new r : List UInt8) (h0 : 1 ≤ old.length) (h2 : new.length ≤ 2) (hz : l.length ≤ 1000000) (hr : Lib.replaceAll l old new = r) (w : World) (hE : Env w) :
    Calls Tryz.prog 77 #[.string (S l), .string (S old), .string (S new)] w fun e w' => e = .returned (.string (S r)) ∧ Below w.heap.size w w' := by
  obtain ⟨m, hm⟩ := hE.most
  have hc := count_le' l old
  have hmul : Lib.countB (S l) (S old) * (S new).size ≤ (l.length + 1) * 2 := Nat.mul_le_mul hc (by rw [S_size]; exact h2)
  have h := Tryz.strings_ReplaceAll (S l) (S old) (S new) m w (by rw [S_size]; omega) hm (by rw [S_size]; exact h0) (by rw [S_size l]; omega)
  rw [show (S l).data.toList = l from rfl, show (S old).data.toList = old from rfl, show (S new).data.toList = new from rfl, hr] at h
  exact h
/-- A blank by nothing. -/
theorem cStrike (l : List UInt8) (hz : l.length ≤ 1000000) (w : World) (hE : Env w) :
    Calls Tryz.prog 77 #[.string (S l), .string ⟨#[32]⟩, .string ⟨#[]⟩] w fun e w' => e = .returned (.string (S (subL 32 [] l))) ∧ Below w.heap.size w w' :=
  cReplace l [32] [] _ (by simp) (by simp) hz (sub_all 32 [] l (by simp)) w hE
/-- A blank by a mark. -/
theorem cMark (l : List UInt8) (hz : l.length ≤ 1000000) (w : World) (hE : Env w) :
    Calls Tryz.prog 77 #[.string (S l), .string ⟨#[32]⟩, .string ⟨#[35]⟩] w fun e w' => e = .returned (.string (S (subL 32 [35] l))) ∧ Below w.heap.size w w' :=
  cReplace l [32] [35] _ (by simp) (by simp) hz (sub_all 32 [35] l (by simp)) w hE
/-- A mark by a blank. -/
theorem cUnmark (l : List UInt8) (hz : l.length ≤ 1000000) (w : World) (hE : Env w) :
    Calls Tryz.prog 77 #[.string (S l), .string ⟨#[35]⟩, .string ⟨#[32]⟩] w fun e w' => e = .returned (.string (S (l.map unB))) ∧ Below w.heap.size w w' :=
  cReplace l [35] [32] _ (by simp) (by simp) hz ((sub_all 35 [32] l (by simp)).trans (sub_un l)) w hE
/-- A dollar by two. -/
theorem cDouble (l : List UInt8) (hz : l.length ≤ 1000000) (w : World) (hE : Env w) :
    Calls Tryz.prog 77 #[.string (S l), .string ⟨#[36]⟩, .string ⟨#[36, 36]⟩] w fun e w' => e = .returned (.string (S (dblL l))) ∧ Below w.heap.size w w' :=
  cReplace l [36] [36, 36] _ (by simp) (by simp) hz ((sub_all 36 [36, 36] l (by simp)).trans (sub_dbl l)) w hE
/-- Two dollars by one. -/
theorem cHalve (l : List UInt8) (hz : l.length ≤ 1000000) (w : World) (hE : Env w) :
    Calls Tryz.prog 77 #[.string (S l), .string ⟨#[36, 36]⟩, .string ⟨#[36]⟩] w fun e w' => e = .returned (.string (S (halveL l))) ∧ Below w.heap.size w w' :=
  cReplace l [36, 36] [36] _ (by simp) (by simp) hz rfl w hE
/-- strings.IndexByte. -/
theorem cIndex (l : List UInt8) (c : UInt8) (w : World) :
    Calls Tryz.prog 58 #[.string (S l), .int .u8 (c.toNat : Int)] w fun e w' => e = .returned (.int .i64 (Lib.indexByte l c)) ∧ w' = w := by
  have h := Tryz.strings_IndexByte (S l) (c.toNat : Int) w
  have e : ((c.toNat : Int)).toNat.toUInt8 = c := by simp
  rw [e] at h
  exact h
theorem joinK_small (L : List (List UInt8)) (hL : ∀ i, (L.getD i []).length ≤ 1000000) (hn : L.length ≤ 1000) : (joinK [32] L L.length).length ≤ 2000000000 := by
  have := joinK_le [32] L (by simp) hL L.length
  have h2 : L.length * 1001000 ≤ 1000 * 1001000 := Nat.mul_le_mul_right _ hn
  omega
/-- strings.Join with a blank. -/
theorem kJoin (v : Value) (L : List (List UInt8)) (w : World) (hv : BL v L w) (hL : ∀ i, (L.getD i []).length ≤ 1000000) (hn : L.length ≤ 1000) :
    Calls Tryz.prog 81 #[v, .string ⟨#[32]⟩] w fun e w' => e = .returned (.string (S (joinK [32] L L.length))) ∧ Below w.heap.size w w' := by
  have hjs := joinK_small L hL hn
  obtain ⟨a, cap, rfl, hcap, hmax, hn0, hcell⟩ := hv
  by_cases h0 : L.length = 0
  · have : L = [] := List.eq_nil_of_length_eq_zero h0
    subst this
    refine (Tryz.strings_Join_none a cap ⟨#[32]⟩ w).mono fun e w' hh => ?_
    obtain ⟨he, rfl⟩ := hh
    exact ⟨he, Below.refl _ _⟩
  · obtain ⟨g, o, rfl, hg, _⟩ := hcell 0 (by omega)
    have hmap : (L.map S).map (·.data.toList) = L := by
      rw [List.map_map]
      conv => rhs; rw [← List.map_id L]
      exact List.map_congr_left fun x _ => rfl
    have h := Tryz.strings_Join g o cap (L.map S) ⟨#[32]⟩ w (fun j x hx => by
      have hj : j < L.length := by
        have := (List.getElem?_eq_some_iff.1 hx).1
        rwa [List.length_map] at this
      obtain ⟨g', o', he, _, hc⟩ := hcell j hj
      simp only [Option.some.injEq, Addr.mk.injEq] at he
      obtain ⟨rfl, rfl, _⟩ := he
      rw [hc]
      rw [List.getElem?_map, List.getElem?_eq_getElem hj] at hx
      simp only [Option.map_some, Option.some.injEq] at hx
      rw [← hx, List.getD_eq_getElem?_getD, List.getElem?_eq_getElem hj]
      rfl) hg (by rw [List.length_map]; omega) (by rw [List.length_map]; exact hcap) (by
        rw [hmap, show (⟨#[32]⟩ : ByteArray).data.toList = [32] from rfl, join_plain]
        omega)
    rw [List.length_map, hmap, show (⟨#[32]⟩ : ByteArray).data.toList = [32] from rfl, join_plain] at h
    exact h
end

end Go.Proofs.YtfjfpefpdlecbaaGreatDoor
