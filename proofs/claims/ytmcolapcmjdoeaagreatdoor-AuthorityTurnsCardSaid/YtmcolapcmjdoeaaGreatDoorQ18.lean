/- Merged: R12C, Env12, Row13. -/
import Derived.Test.YtmcolapcmjdoeaaGreatDoorQ17
import Derived.Test.YtmcolapcmjdoeaaGreatDoorShelf
import Derived.Test.YtmcolapcmjdoeaaGreatDoorQ07
import Derived.Test.YtmcolapcmjdoeaaGreatDoorQ09
import Derived.Test.YtmcolapcmjdoeaaGreatDoorQ10
import Derived.Test.YtmcolapcmjdoeaaGreatDoorQ11
import Derived.Test.YtmcolapcmjdoeaaGreatDoorQ01
import Derived.Test.YtmcolapcmjdoeaaGreatDoorQ06
import Derived.Laws.OwnMore
namespace Go.Proofs.YtmcolapcmjdoeaaGreatDoor

section
open Go.RowKit Go.PlainAid
theorem row_bl {B : Nat} {v : Value} {L : List (List UInt8)} {w : World} (h : w.ownsRow B 9 1 v L.length (L.map strB)) : BL v L w := by
  rcases h.2 with ⟨rfl, h0⟩ | ⟨g, cap, cur, rfl, hg0, hg, hc, hm, hsz, ht⟩
  · have : L = [] := List.eq_nil_of_length_eq_zero h0
    subst this
    exact ⟨none, 0, rfl, Nat.le_refl _, Nat.zero_le _, fun _ => rfl, fun i hi => by cases hi⟩
  · refine ⟨_, cap, rfl, hc, hm, (fun h => by cases h), fun i hi => ⟨g, 0, rfl, (Array.getElem?_eq_some_iff.1 hg).1, ?_⟩⟩
    have := h.cells (g := g) rfl i (strB (L.getD i [])) (by rw [List.getElem?_map, List.getElem?_eq_getElem hi, List.getD_eq_getElem?_getD, List.getElem?_eq_getElem hi]; rfl)
    have hadd : (⟨g, 0, none⟩ : Addr).add i = ⟨g, i, none⟩ := by unfold Addr.add; split <;> simp_all
    rw [hadd] at this
    rw [Nat.zero_add]
    exact this
theorem strs_bl {B : Nat} {v : Value} {ws : List (List Nat)} {w : World} (h : Strs B v ws w) : BL v (ws.map enc) w := by
  refine row_bl (B := B) ?_
  rw [List.length_map, List.map_map]
  exact h
theorem glu_words (ws : List (List Nat)) : gluX [32] (ws.map enc) = enc (joinL ws) := by
  refine snoc_ind2 (p := fun ws => gluX [32] (ws.map enc) = enc (joinL ws)) ?_ ?_ ws
  · rfl
  · intro l x ih
    rw [List.map_append, List.map_cons, List.map_nil, glu_snoc, joinL_snoc]
    by_cases h : l = []
    · subst h
      rfl
    · rw [if_neg (by simpa using h), if_neg h, ih, enc_append, enc_append]
      rfl
theorem word_le : ∀ (ws : List (List Nat)) (x : List Nat), x ∈ ws → x.length ≤ total ws
  | [], x, hx => by cases hx
  | y :: t, x, hx => by
    have e : total (y :: t) = y.length + 1 + total t := by simp [total]
    rw [e]
    rcases List.mem_cons.1 hx with rfl | hx
    · omega
    · have := word_le t x hx
      omega
theorem parts_len (l : List UInt8) (h : validT l = true) : ∀ x ∈ partsX l, ∃ c1, OKs c1 ∧ x = enc c1 ∧ c1.length ≤ l.length := by
  obtain ⟨cs, hcs, rfl⟩ := validT_text l h
  intro x hx
  obtain ⟨hx, hne⟩ := nonE_mem hx
  obtain ⟨y, hy, rfl⟩ := List.mem_map.1 hx
  have hyl := spl_mem dd _ _ (Nat.le_refl _) y hy
  obtain ⟨c1, hc1, rfl⟩ := spl_valid dd dd_ascii _ cs (Nat.le_refl _) hcs y hy
  rw [cleanX_enc c1 hc1]
  refine ⟨cleanL c1, clean_OK c1 hc1, rfl, ?_⟩
  have h1 := clean_tight c1
  have h2 := len_le c1
  rw [T_size] at h2
  omega
/-- The words of a part, joined by blanks. -/
theorem refWordsS_any (x : List UInt8) (m : Nat) (hm : m ≤ 10000) (hx : ∃ c1, OKs c1 ∧ x = enc c1 ∧ c1.length ≤ m) (w : World) :
    Calls Tryz.prog 71 #[.string (S x)] w fun e w' => ∃ v L, e = .returned v ∧ BL v L w' ∧ Below w.heap.size w w' ∧ gluX [32] L = wordX x ∧ (∀ y ∈ L, y.length ≤ 100000) ∧ L.length ≤ 100000 ∧ (wordX x).length ≤ 100000 := by
  obtain ⟨c1, h1, rfl, hl⟩ := hx
  refine (refWords_any c1 h1 _ rfl (by omega) w).mono ?_
  rintro e w' ⟨v, rfl, hs, hb⟩
  have ht := W_total c1
  refine ⟨v, (W c1).map enc, rfl, strs_bl hs, hb, by rw [glu_words, wordX_enc c1 h1], ?_, ?_, ?_⟩
  · intro y hy
    obtain ⟨z, hz, rfl⟩ := List.mem_map.1 hy
    have h2 := word_le _ z hz
    have h3 := enc_le z
    omega
  · rw [List.length_map]
    have := len_total (W c1)
    omega
  · rw [wordX_enc c1 h1]
    have h2 := join_total (W c1)
    have h3 := enc_le (joinL (W c1))
    omega
set_option maxHeartbeats 16000000 in
set_option maxRecDepth 100000 in
theorem refNorm_any (l : List UInt8) (hv : validT l = true) (hl : l.length ≤ 9000) (w : World) :
    Calls Tryz.prog 38 #[.string (S l)] w fun e w' => e = .returned (.string (S (normX l))) ∧ Below w.heap.size w w' := by
  obtain ⟨Q, hQ⟩ : ∃ Q, (fun (e : Ending) (w' : World) => e = .returned (.string (S (normX l))) ∧ Below w.heap.size w w') = Q := ⟨_, rfl⟩
  rw [hQ]
  have HQ : RowKit.Hid (∀ W, Below w.heap.size w W → Q (.returned (.string (S (normX l)))) W) := by rw [← hQ]; exact fun W k => ⟨rfl, k⟩
  clear hQ
  have cS := Lib.hid (refParts_any l hv (by omega) w)
  have hpl := parts_len l hv
  have hpn : (partsX l).length ≤ 100000 := by
    have h1 := nonE_le ((splG dd l).map cleanX)
    have h2 := spl_len dd l.length l (Nat.le_refl _)
    unfold partsX
    rw [List.length_map] at h1
    omega
  unfold normX normL at HQ
  obtain ⟨P, hP⟩ : ∃ P, partsX l = P := ⟨_, rfl⟩
  rw [hP] at cS hpl hpn HQ
  have HC := Lib.hid (fun k (hk : k < P.length) W => refWordsS_any (P.getD k []) 9000 (by decide) (by
    obtain ⟨c1, h1, h2, h3⟩ := hpl _ (mem_getD12 P k hk)
    exact ⟨c1, h1, h2, by omega⟩) W)
  have HSt := Lib.hid (fun k (hk : k < P.length) => map_take_snoc wordX P k hk)
  have HG := Lib.hid (fun L v W h h2 h3 => refGlue_any [32] L v W h (by decide) 100000 (by decide) h2 h3)
  have HG2 := Lib.hid (fun L v W h h2 h3 => refGlue_any dd L v W h (by decide) 100000 (by decide) h2 h3)
  have edd : S dd = ⟨#[45, 45]⟩ := rfl
  have e32 : S [32] = ⟨#[32]⟩ := rfl
  rw [edd] at HG2
  rw [e32] at HG
  obtain ⟨n, hn⟩ : ∃ n, P.length = n := ⟨_, rfl⟩
  rw [hn] at HC HSt hpn
  have HN := Lib.hid hn
  clear hP hpl edd e32 hl hv hn
  generalize S l = st at *
  go_enter Tryz.func38, Tryz.ntmps38
  go_wp2_with fail
  refine cS.out.mono ?_
  rintro e w1 ⟨v, rfl, hr1, hb1⟩
  obtain ⟨gp, cpp, rfl⟩ := sr_form hr1
  have HP := Lib.hid hr1.bl
  have HB1 := Lib.hid hb1
  have hrow0 := SR.empty w1
  have hbw0 : Below w1.heap.size w1 (w1.alloc (.cells #[] 9)) := (Below.refl _ _).alloc (Nat.le_refl _) _
  have HR0 := Lib.hid hrow0
  have HBw0 := Lib.hid hbw0
  rw [HN.out]
  rw [HN.out] at HP
  clear hr1 hb1 hrow0 hbw0 cS
  go_wp2
  go_loopw [4, 5] (fun v4 v5 wr => ∃ (k g cp d : Nat) (D : List (List UInt8)), v4 = .slice (some ⟨g, 0, none⟩) d cp ∧ v5 = .int .i64 (k : Int) ∧ k ≤ n ∧ D.length = d ∧ d ≤ k ∧ RowKit.Hid (∀ y ∈ D, y.length ≤ 100000) ∧ RowKit.Hid (D = nonE ((P.take k).map wordX)) ∧ RowKit.Hid (SR w1.heap.size (.slice (some ⟨g, 0, none⟩) d cp) D wr) ∧ RowKit.Hid (Below w1.heap.size w1 wr)) (fun _ v5 _ => n - (intOf v5).toNat)
  case atStart => exact ⟨0, _, _, _, [], rfl, rfl, by omega, rfl, by omega, (fun y hy => by cases hy), rfl, HR0, HBw0⟩
  case round =>
    obtain ⟨k, g, cp, d, D, rfl, rfl, hk, hDd, hdk, HDl, HD, HR, HB⟩ := hrel
    clear HR0 HBw0
    by_cases hkn : k < n
    · have i1 : (0 : Int) ≤ (k : Int) := by omega
      have i2 : (k : Int) < (n : Int) := by omega
      obtain ⟨g2, o2, cap2, he, hg, c0⟩ := (HP.out.after HB.out).at12 k (by rw [HN.out]; exact hkn)
      obtain ⟨ha, -, hcp⟩ := Value.slice.inj he
      obtain ⟨rfl, rfl, -⟩ := Addr.mk.inj (Option.some.inj ha)
      subst hcp
      rw [Nat.zero_add] at c0
      clear he ha
      have cC := Lib.hid (HC.out k hkn wr)
      have hst := HSt.out k hkn
      obtain ⟨p, hp⟩ : ∃ p, P.getD k [] = p := ⟨_, rfl⟩
      rw [hp] at c0 cC hst
      obtain ⟨y, hy⟩ : ∃ y, wordX p = y := ⟨_, rfl⟩
      rw [hy] at cC hst
      have HSt2 := Lib.hid hst
      clear hp hy hst HC HSt
      generalize S p = sp at *
      go_wp2_with fail
      refine cC.out.mono ?_
      rintro e w2 ⟨vw, M, rfl, hbl, hb2, hgl, hml, hmn, hyl⟩
      obtain ⟨ma, mc, rfl, -, -⟩ := hbl.length
      have HB2 : RowKit.Hid (Below w1.heap.size w1 w2) := HB.out.trans (hb2.mono HB.out.size)
      have HR2 := Lib.hid (HR.out.after hb2)
      have cG := HG.out M _ w2 hbl hml (by omega)
      rw [hgl] at cG
      have CG := Lib.hid cG
      have HYl := Lib.hid hyl
      obtain ⟨ml, hmle⟩ : ∃ x, M.length = x := ⟨_, rfl⟩
      rw [hmle] at CG ⊢
      clear hb2 cC c0 hbl hgl hml hmn hyl cG hmle
      go_wp2_with fail
      refine CG.out.mono ?_
      rintro e w3 ⟨rfl, hw3⟩
      rw [hw3]
      clear hw3 CG w3
      by_cases h0 : y = []
      · subst h0
        have e0 : S [] = (⟨#[]⟩ : ByteArray) := rfl
        rw [e0]
        have HD2 : RowKit.Hid (D = nonE ((P.take (k + 1)).map wordX)) := by
          unfold RowKit.Hid
          rw [HSt2.out, nonE_snoc, if_pos rfl]
          exact HD.out
        go_wp2
        go_roundw
        case rel => exact ⟨k + 1, g, cp, d, D, by first | rfl | trivial, by go_num, by omega, hDd, by omega, HDl, HD2, HR2, HB2⟩
        case measure => simp [intOf]; omega
      · obtain ⟨s1, s2⟩ := S_facts y h0
        have HD2 : RowKit.Hid (D ++ [y] = nonE ((P.take (k + 1)).map wordX)) := by
          unfold RowKit.Hid
          rw [HSt2.out, nonE_snoc, if_neg h0, HD.out]
        have HDl2 : RowKit.Hid (∀ z ∈ D ++ [y], z.length ≤ 100000) := by
          intro z hz
          rcases List.mem_append.1 hz with hz | hz
          · exact HDl.out z hz
          · rw [List.mem_singleton.1 hz]; exact HYl.out
        have hsz := HB2.out.size
        clear h0
        go_wp2_with (at_builtin; go_loud (refine append_sr _ rfl _ _ rfl w1.heap.size (.slice (some ⟨g, 0, none⟩) d cp) D y rfl HR2.out rfl (by omega) hsz w1.heap.size w1 (Nat.le_refl _) HB2.out ?_))
        intro v2 w3 hr3 hb3
        (try intro _)
        obtain ⟨g3, cp3, rfl⟩ := sr_form hr3
        have hl3 : (D ++ [y]).length = d + 1 := by rw [List.length_append, hDd]; rfl
        have HL3 := Lib.hid hl3
        rw [hl3] at hr3 ⊢
        have HR3 := Lib.hid hr3
        have HB3 := Lib.hid hb3
        clear hr3 hb3 hl3 s1 s2
        go_wp2
        go_roundw
        case rel => exact ⟨k + 1, g3, cp3, d + 1, D ++ [y], by first | rfl | trivial, by go_num, by omega, HL3.out, by omega, HDl2, HD2, HR3, HB3⟩
        case measure => simp [intOf]; omega
    · obtain rfl : k = n := by omega
      have hD := HD.out
      have ht : P.take k = P := by rw [← HN.out, List.take_length]
      rw [ht] at hD
      have cG := HG2.out D _ wr HR.out.bl HDl.out (by omega)
      rw [hD] at cG
      have CG := Lib.hid cG
      have HBf := Lib.hid (HB1.out.trans (HB.out.mono HB1.out.size))
      clear ht HD hD cG
      go_wp2_with fail
      refine CG.out.mono ?_
      rintro e w3 ⟨rfl, hw3⟩
      rw [hw3]
      clear hw3 CG w3
      go_wp2
      first | exact HQ.out _ HBf.out | (go_ret; exact HQ.out _ HBf.out)
end

section
open Go.RowKit
structure Env (w : World) : Prop where
  tabs : Tabs w
  acc : Acc w
  most : ∃ m, w.cell? ⟨3, 0, none⟩ = some (.int .i64 m)
theorem cell_below {w w' : World} {g : Nat} {v : Value} (h : w.cell? ⟨g, 0, none⟩ = some v) (hb : Below w.heap.size w w') : w'.cell? ⟨g, 0, none⟩ = some v := by
  have hlt : g < w.heap.size := by
    rcases Nat.lt_or_ge g w.heap.size with h' | h'
    · exact h'
    · simp [World.cell?, Array.getElem?_eq_none h'] at h
  exact (hb.cell (p := ⟨g, 0, none⟩) hlt).trans h
theorem Env.after {w w' : World} (h : Env w) (hb : Below w.heap.size w w') : Env w' := by
  obtain ⟨h1, h2, ⟨m, hm⟩⟩ := h
  exact ⟨h1.after hb, h2.after hb, ⟨m, cell_below hm hb⟩⟩
theorem drewN_below (w : World) (n : Nat) : Below w.heap.size w (w.drewN n) := ⟨rfl, rfl, rfl, Nat.le_refl _, fun _ _ => rfl⟩
/-- A slice of texts of the call's own, nil at first. -/
def NR (B : Nat) (v : Value) (L : List (List UInt8)) (w : World) : Prop := w.ownsRow B 9 1 v L.length (L.map strB)
theorem NR.after {B : Nat} {v : Value} {L : List (List UInt8)} {w w' : World} (h : NR B v L w) (hb : Below w.heap.size w w') : NR B v L w' := own_after h hb
theorem NR.none (B : Nat) (w : World) : NR B (.slice none 0 0) [] w := ⟨rfl, .inl ⟨rfl, rfl⟩⟩
theorem NR.bl {B : Nat} {v : Value} {L : List (List UInt8)} {w : World} (h : NR B v L w) : BL v L w := row_bl h
/-- append of one text that has just been laid to such a row. -/
theorem append_nr {ops : Array Oper} {rest : List Oper} {o : Oper} {a : Act} {Q : Exit → Act → World → Prop} (w : World) (hgd : o.guard = none) (s x : Operand)
    (ho : o.op = .call { callee := .builtin .append, args := #[s, x], argTypes := #[28, 28] })
    (B : Nat) (v : Value) (L : List (List UInt8)) (y : List UInt8) (hs : a.eval s = v) (h : NR B v L w) (hx : a.eval x = .slice (some ⟨w.heap.size, 0, none⟩) 1 1) (hz : L.length ≤ 10000000) (hB : B ≤ w.heap.size)
    (N : Nat) (W1 : World) (hNB : N ≤ B) (hb : Below N W1 w)
    (hk : ∀ v' w', NR B v' (L ++ [y]) w' → Below N W1 w' → B ≤ w'.heap.size → wpList Tryz.prog ops Q rest (a.put o.dst v') w') : wpList Tryz.prog ops Q (o :: rest) a (w.alloc (.cells #[strB y] 9)) := by
  obtain ⟨i0, hi, hz0, hz1, hz2⟩ := info_string
  have hrow := World.ownsRow.alloc h (.cells #[strB y] 9)
  refine wpList_append_own _ hgd s x 28 ho B 9 i0 (.string ⟨#[]⟩) 1 16 Tryz.underlying28 hi hz0 hz1 hz2 rfl (by decide) v L.length _ hs hrow ⟨w.heap.size, 0, none⟩ 1 1 [strB y] hx rfl (cells_one12 _ _ _) (by intro u hu; simp at hu; subst hu; rfl) (by unfold maxLen; omega) (by omega) (by simp; omega) ?_
  intro v2 w2 hown2 hg2 hn2
  refine hk v2 w2 (by unfold NR; rw [List.length_append, List.map_append]; exact hown2) ?_ (Nat.le_trans (by simp; omega) hg2.size)
  exact (hb.alloc (by omega) _).grown hg2 (by simp; omega) (fun j hj => Nat.le_trans hNB (hrow.lt j hj).1)

/-- text.Valid. -/
theorem cValid (l : List UInt8) (hz : l.length ≤ 1000000) (b : Bool) (hb : validT l = b) (w : World) (hE : Env w) :
    Calls Tryz.prog 96 #[.string (S l)] w fun e w' => e = .returned (.bool b) ∧ Below w.heap.size w w' :=
  valid_is (S l) b hb (by rw [S_size]; omega) w hE.tabs
/-- text.Clean of a text. -/
theorem cClean (x : List UInt8) (hx : ∃ c1, OKs c1 ∧ x = enc c1) (hz : x.length ≤ 1000000) (w : World) :
    Calls Tryz.prog 88 #[.string (S x)] w fun e w' => e = .returned (.string (S (cleanX x))) ∧ Below w.heap.size w w' := by
  obtain ⟨c1, h1, rfl⟩ := hx
  have hl := len_le c1
  rw [T_size] at hl
  exact clean_is _ _ c1 h1 rfl (by omega) (by rw [cleanX_enc c1 h1]; rfl) w
/-- text.Words of a part. -/
theorem cWords (x : List UInt8) (m : Nat) (hm : m ≤ 10000) (hx : ∃ c1, OKs c1 ∧ x = enc c1 ∧ c1.length ≤ m) (w : World) (hE : Env w) :
    Calls Tryz.prog 68 #[.string (S x)] w fun e w' => ∃ v L, e = .returned v ∧ BL v L w' ∧ Below w.heap.size w w' ∧ gluX [32] L = wordX x ∧ (∀ y ∈ L, y.length ≤ 100000) ∧ L.length ≤ 100000 ∧ (wordX x).length ≤ 100000 ∧ (L = [] ↔ wordX x = []) := by
  obtain ⟨c1, h1, rfl, hl⟩ := hx
  refine (words_any c1 h1 _ rfl (by omega) w hE.acc).mono ?_
  rintro e w' ⟨v, rfl, hs, hb⟩
  have ht := W_total c1
  refine ⟨v, (W c1).map enc, rfl, strs_bl hs, hb, by rw [glu_words, wordX_enc c1 h1], ?_, ?_, ?_, ?_⟩
  · intro y hy
    obtain ⟨z, hz, rfl⟩ := List.mem_map.1 hy
    have h2 := word_le _ z hz
    have h3 := enc_le z
    omega
  · rw [List.length_map]
    have := len_total (W c1)
    omega
  · rw [wordX_enc c1 h1]
    have h2 := join_total (W c1)
    have h3 := enc_le (joinL (W c1))
    omega
  · rw [wordX_enc c1 h1, List.map_eq_nil_iff]
    constructor
    · intro h
      rw [h]
      rfl
    · intro h
      by_cases h0 : W c1 = []
      · exact h0
      · have h2 := join_ne (W c1) (fun x hx => (W_words c1 x hx).1) h0
        have h3 := len_le (joinL (W c1))
        rw [T_size, h] at h3
        have := List.length_pos_iff.2 h2
        simp at h3
        exact absurd h3 h2
theorem row_of (w w' : World) (P : List (List UInt8)) (N : Nat) (X : Array Value) (hn : P.length ≤ N) (hN : N ≤ maxLen) (hX : ∀ i, i < P.length → X[i]? = some (strB (P.getD i []))) (hw : w' = w.alloc (.cells X 9)) :
    BL (.slice (some ⟨w.heap.size, 0, none⟩) P.length N) P w' := by
  subst hw
  have hbk := heap_alloc_new w (.cells X 9)
  refine ⟨_, _, rfl, hn, hN, (fun h => by cases h), fun i hi => ⟨w.heap.size, 0, rfl, (Array.getElem?_eq_some_iff.1 hbk).1, ?_⟩⟩
  rw [Lib.cell_of_heap hbk, Nat.zero_add]
  exact hX i hi
theorem spl_le12 (sep l : List UInt8) : (splG sep l).length ≤ l.length + 1 := spl_len sep l.length l (Nat.le_refl _)
/-- strings.Split. -/
theorem cSplit (l sep : List UInt8) (h0 : sep ≠ []) (hz : l.length ≤ 1000000) (w : World) (hE : Env w) :
    Calls Tryz.prog 87 #[.string (S l), .string (S sep)] w fun e w' => ∃ g cp, e = .returned (.slice (some ⟨g, 0, none⟩) (splG sep l).length cp) ∧ BL (.slice (some ⟨g, 0, none⟩) (splG sep l).length cp) (splG sep l) w' ∧ Below w.heap.size w w' := by
  obtain ⟨m, hm⟩ := hE.most
  refine (Tryz.strings_Split (S l) (S sep) m w (by rw [S_size]; omega) hm (by rw [S_size]; exact List.length_pos_iff.2 h0)).mono fun e w' hh => ?_
  obtain ⟨rfl, hw⟩ := hh
  have hd : (Lib.splitB (S sep) 0 (Lib.countB (S l) (S sep)) (S l)).map (·.data.toList) = splG sep l := (Lib.splitB_data (S sep) 0 _ (S l)).trans (split_spl sep h0 l)
  have hlen : Lib.countB (S l) (S sep) + 1 = (splG sep l).length := (countFrom_spl sep h0 (l.length + 1) l (by omega)).symm
  have hle := spl_le12 sep l
  have hP : (Lib.splitB (S sep) 0 (Lib.countB (S l) (S sep)) (S l)).map Value.string = (splG sep l).map strB := by
    rw [← hd, List.map_map]
    rfl
  rw [hlen, hw]
  refine ⟨w.heap.size, _, rfl, row_of w _ (splG sep l) _ _ (Nat.le_refl _) (by unfold maxLen; omega) (fun i hi => ?_) rfl, (Below.refl _ _).alloc (Nat.le_refl _) _⟩
  rw [hP]
  simp [List.getD_eq_getElem?_getD, List.getElem?_eq_getElem hi]
/-- strings.Join. -/
theorem cJoin (sep : List UInt8) (v : Value) (L : List (List UInt8)) (w : World) (hv : BL v L w) (hs : sep.length ≤ 100) (m : Nat) (hm : m ≤ 1000000) (hL : ∀ x ∈ L, x.length ≤ m) (hn : L.length ≤ 1000000) :
    Calls Tryz.prog 69 #[v, .string (S sep)] w fun e w' => e = .returned (.string (S (gluX sep L))) ∧ Below w.heap.size w w' := by
  have hjs := glu_le sep m hs L hL
  have hmul : (m + 100) * L.length ≤ 1000100 * 1000000 := Nat.mul_le_mul (by omega) hn
  obtain ⟨a, cap, rfl, hcap, hmax, hn0, hcell⟩ := hv
  by_cases h0 : L.length = 0
  · have : L = [] := List.eq_nil_of_length_eq_zero h0
    subst this
    refine (Tryz.strings_Join_none a cap (S sep) w).mono fun e w' hh => ?_
    obtain ⟨he, rfl⟩ := hh
    exact ⟨he, Below.refl _ _⟩
  · obtain ⟨g, o, rfl, hg, _⟩ := hcell 0 (by omega)
    have hmap : (L.map S).map (·.data.toList) = L := by
      rw [List.map_map]
      conv => rhs; rw [← List.map_id L]
      exact List.map_congr_left fun x _ => rfl
    have h := Tryz.strings_Join g o cap (L.map S) (S sep) w (fun j x hx => by
      have hj : j < L.length := by
        have := (List.getElem?_eq_some_iff.1 hx).1
        rwa [List.length_map] at this
      obtain ⟨g', o', he, _, hc⟩ := hcell j hj
      simp only [Option.some.injEq, Addr.mk.injEq] at he
      obtain ⟨rfl, rfl, _⟩ := he
      rw [hc]
      rw [List.getElem?_map, List.getElem?_eq_getElem hj] at hx
      simp only [Option.map_some, Option.some.injEq] at hx
      rw [← hx, List.getD_eq_getElem?_getD, List.getElem?_eq_getElem hj]
      rfl) hg (by rw [List.length_map]; omega) (by rw [List.length_map]; exact hcap) (by
        rw [hmap, show (S sep).data.toList = sep from rfl, join_glu]
        omega)
    rw [List.length_map, hmap, show (S sep).data.toList = sep from rfl, join_glu] at h
    exact h
end

section
open Go.RowKit Go.PlainAid
theorem run_append_noneC {P : Program} {w : World} (base : Nat) (t ty e : TypeId) (i : TypeInfo) (size : Nat) (ht : P.underlying t = some (.slice e)) (hi : P.info? e = some i)
    (v : Value) (n c : Nat) (xs : List Value) (hown : w.ownsRow base e size v n xs) :
    (Builtin.append_ #[t, t] ty #[v, .slice none 0 c]).run P w = .ok v w := by
  rcases hown.2 with ⟨rfl, rfl⟩ | ⟨g, cap, cur, rfl, _, _, hnc, _⟩
  · simp [Builtin.append_, run_underlying ht, sizeOf, typeInfo, hi, Builtin.lenOf, Builtin.firstCells]
  · simp [Builtin.append_, run_underlying ht, sizeOf, typeInfo, hi, Builtin.lenOf, Builtin.firstCells, hnc, storeCells]

/-- What lies in a slice, cell by cell. -/
def Src (u : Value) (n : Nat) (xs : List Value) (w : World) : Prop :=
  (∃ c, u = .slice none 0 c ∧ n = 0 ∧ xs = []) ∨ ∃ ad c, u = .slice (some ad) n c ∧ ∀ j x, xs[j]? = some x → w.cell? (ad.add j) = some x
theorem Src.of_bl {u : Value} {L : List (List UInt8)} {w : World} (h : BL u L w) : Src u L.length (L.map strB) w := by
  rcases h.none_or with ⟨rfl, rfl⟩ | ⟨ad, c, rfl, _, _, hx⟩
  · exact .inl ⟨0, rfl, rfl, rfl⟩
  · exact .inr ⟨ad, c, rfl, hx⟩
theorem Src.of_il {u : Value} {l : List Int} {w : World} (h : IL u l w) : Src u l.length (l.map intV) w := by
  obtain ⟨a, c, rfl, hc, hx⟩ := h
  cases a with
  | none =>
    have h0 : l = [] := by
      cases l with
      | nil => rfl
      | cons y r =>
        obtain ⟨g, o, h1, _⟩ := hx 0 y rfl
        cases h1
    subst h0
    exact .inl ⟨c, rfl, rfl, rfl⟩
  | some ad =>
    refine .inr ⟨ad, c, rfl, fun j x hj => ?_⟩
    rw [List.getElem?_map, Option.map_eq_some_iff] at hj
    obtain ⟨y, hy, rfl⟩ := hj
    obtain ⟨g, o, h1, h2, h3⟩ := hx j y hy
    obtain rfl := Option.some.inj h1
    have hadd : (⟨g, o, none⟩ : Addr).add j = ⟨g, o + j, none⟩ := by unfold Addr.add; split <;> simp_all
    rw [hadd]
    exact h3
theorem Src.after {u : Value} {n : Nat} {xs : List Value} {w w' : World} (h : Src u n xs w) (hb : Below w.heap.size w w') : Src u n xs w' := by
  rcases h with h | ⟨ad, c, rfl, hx⟩
  · exact .inl h
  · refine .inr ⟨ad, c, rfl, fun j x hj => ?_⟩
    have hc := hx j x hj
    have hlt : (ad.add j).block < w.heap.size := by
      rcases Nat.lt_or_ge (ad.add j).block w.heap.size with h' | h'
      · exact h'
      · simp [World.cell?, Array.getElem?_eq_none h'] at hc
    exact (hb.cell hlt).trans hc
theorem append_src_block {P : Program} (w : World) (base : Nat) (t ty e : TypeId) (i : TypeInfo) (z : Value) (size bytes : Nat) (ht : P.underlying t = some (.slice e)) (hi : P.info? e = some i) (hz : i.zero = some z)
    (hsize : i.size = size) (hby : i.bytes = bytes) (hzs : z.cells.size = size) (hsz : 0 < size) (v : Value) (n : Nat) (xs : List Value) (hown : w.ownsRow base e size v n xs) (hvn : v ≠ .slice none 0 0)
    (u : Value) (m : Nat) (news : List Value) (hs : Src u m news w) (hl : news.length = m * size) (h1 : ∀ u ∈ news, u.oneCell' = true)
    (h63 : n + m ≤ maxLen) (hbytes : (n + m) * bytes ≤ 140737488355328) (hbase : base ≤ w.heap.size) :
    ∃ v' w', (Builtin.append_ #[t, t] ty #[v, u]).run P w = .ok v' w' ∧ w'.ownsRow base e size v' (n + m) (xs ++ news) ∧ w.grownBy w' v.ownBlock ∧ v' ≠ .slice none 0 0 ∧ (v'.ownBlock = v.ownBlock ∨ v'.ownBlock = some w.heap.size) := by
  rcases hs with ⟨c, rfl, rfl, rfl⟩ | ⟨ad, c, rfl, hx⟩
  · exact ⟨v, w, run_append_noneC base t ty e i size ht hi v n c xs hown, by rw [List.append_nil]; exact hown, ⟨rfl, rfl, rfl, Nat.le_refl _, fun _ _ _ => rfl⟩, hvn, .inl rfl⟩
  · obtain ⟨v', w', hr, h2, h3, h4⟩ := run_append_own (P := P) w base t ty e i z size bytes ht hi hz hsize hby hzs hsz v n xs hown ad m c news hl hx h1 h63 hbytes hbase
    refine ⟨v', w', hr, h2, h3, fun he => hvn (h4.1 he).1, ?_⟩
    rcases Nat.eq_zero_or_pos m with rfl | hm
    · -- nothing is appended
      rcases hown.2 with ⟨rfl, _⟩ | ⟨g, cap, cur, rfl, hbg, hg, hnc, hcm, hcs, htake⟩
      · exact absurd rfl hvn
      · have hfit : n * i.size + news.length ≤ cur.size := by
          rw [hl, hcs, ← hsize, Nat.zero_mul]
          exact Nat.mul_le_mul_right _ hnc
        have h5 := run_append_room (P := P) w t ty e i ht hi g n cap cur hg ad 0 c news (by rw [hl, hsize]) hx h1 hnc hfit
        rw [hr] at h5
        injection h5 with h6 h7
        rw [h6]
        exact .inl rfl
    · exact append_block w base t ty e i z size bytes ht hi hz hsize hby v n xs hown ad m c news hl hx h1 hm h63 hbytes v' w' hr
/-- append of what lies in any slice to a row of the call's own that isn't nil, where the walk stands at it. -/
theorem wpList_append_src {P : Program} (w : World) {ops : Array Oper} {rest : List Oper} {o : Oper} {a : Act} {Q : Exit → Act → World → Prop} (hgd : o.guard = none) (s x : Operand) (t : TypeId)
    (ho : o.op = .call { callee := .builtin .append, args := #[s, x], argTypes := #[t, t] })
    (base : Nat) (e : TypeId) (i : TypeInfo) (z : Value) (size bytes : Nat) (ht : P.underlying t = some (.slice e)) (hi : P.info? e = some i) (hz : i.zero = some z)
    (hsize : i.size = size) (hby : i.bytes = bytes) (hzs : z.cells.size = size) (hsz : 0 < size) (v : Value) (n : Nat) (xs : List Value) (hs : a.eval s = v) (hown : w.ownsRow base e size v n xs) (hvn : v ≠ .slice none 0 0)
    (u : Value) (m : Nat) (news : List Value) (hx : a.eval x = u) (hsrc : Src u m news w) (hl : news.length = m * size) (h1 : ∀ u ∈ news, u.oneCell' = true)
    (h63 : n + m ≤ maxLen) (hbytes : (n + m) * bytes ≤ 140737488355328) (hbase : base ≤ w.heap.size)
    (h : ∀ v' w', w'.ownsRow base e size v' (n + m) (xs ++ news) → w.grownBy w' v.ownBlock → v' ≠ .slice none 0 0 → (v'.ownBlock = v.ownBlock ∨ v'.ownBlock = some w.heap.size) → wpList P ops Q rest (a.put o.dst v') w') : wpList P ops Q (o :: rest) a w :=
  wpList_plain hgd fun K hK => by
    obtain ⟨v', w', hr, h2, h3, h4, h5⟩ := append_src_block (P := P) w base t o.type e i z size bytes ht hi hz hsize hby hzs hsz v n xs hown hvn u m news hsrc hl h1 h63 hbytes hbase
    have h6 : K (a.put o.dst v') w' := hK _ _ (h v' w' h2 h3 h4 h5)
    unfold Oper.wp execOp
    simp only [ho, resolve, invoke, builtin, Sem.run_bind, Sem.run_pure, Result.andThen_ok, List.map_toArray, List.map_cons, List.map_nil, hs, hx, hr]
    exact h6
theorem strB_one (L : List (List UInt8)) : ∀ u ∈ L.map strB, u.oneCell' = true := by
  intro u hu
  obtain ⟨x, _, rfl⟩ := List.mem_map.1 hu
  rfl
theorem intV_one (l : List Int) : ∀ u ∈ l.map intV, u.oneCell' = true := by
  intro u hu
  obtain ⟨x, _, rfl⟩ := List.mem_map.1 hu
  rfl
/-- .. of texts. -/
theorem append_sS {ops : Array Oper} {rest : List Oper} {o : Oper} {a : Act} {Q : Exit → Act → World → Prop} (w : World) (hgd : o.guard = none) (s x : Operand)
    (ho : o.op = .call { callee := .builtin .append, args := #[s, x], argTypes := #[28, 28] })
    (B : Nat) (v : Value) (M : List (List UInt8)) (hs : a.eval s = v) (hown : NR B v M w) (hvn : v ≠ .slice none 0 0) (u : Value) (R : List (List UInt8)) (hx : a.eval x = u) (hu : BL u R w)
    (hz : M.length + R.length ≤ 1000000) (hbase : B ≤ w.heap.size)
    (h : ∀ v' w', NR B v' (M ++ R) w' → w.grownBy w' v.ownBlock → v' ≠ .slice none 0 0 → (v'.ownBlock = v.ownBlock ∨ v'.ownBlock = some w.heap.size) → wpList Tryz.prog ops Q rest (a.put o.dst v') w') : wpList Tryz.prog ops Q (o :: rest) a w := by
  obtain ⟨i0, hi, hz0, hz1, hz2⟩ := info_string
  refine wpList_append_src w hgd s x 28 ho B 9 i0 (.string ⟨#[]⟩) 1 16 Tryz.underlying28 hi hz0 hz1 hz2 rfl (by decide) v M.length (M.map strB) hs hown hvn u R.length (R.map strB) hx (Src.of_bl hu) (by simp) (strB_one R) (by unfold maxLen; omega) (by omega) hbase ?_
  intro v' w' h1 h2 h3 h4
  exact h v' w' (by unfold NR; rw [List.length_append, List.map_append]; exact h1) h2 h3 h4
/-- .. of integers. -/
theorem append_sI {ops : Array Oper} {rest : List Oper} {o : Oper} {a : Act} {Q : Exit → Act → World → Prop} (w : World) (hgd : o.guard = none) (s x : Operand)
    (ho : o.op = .call { callee := .builtin .append, args := #[s, x], argTypes := #[29, 29] })
    (B : Nat) (v : Value) (M : List Int) (hs : a.eval s = v) (hown : IR B v M w) (hvn : v ≠ .slice none 0 0) (u : Value) (R : List Int) (hx : a.eval x = u) (hu : IL u R w)
    (hz : M.length + R.length ≤ 1000000) (hbase : B ≤ w.heap.size)
    (h : ∀ v' w', IR B v' (M ++ R) w' → w.grownBy w' v.ownBlock → v' ≠ .slice none 0 0 → (v'.ownBlock = v.ownBlock ∨ v'.ownBlock = some w.heap.size) → wpList Tryz.prog ops Q rest (a.put o.dst v') w') : wpList Tryz.prog ops Q (o :: rest) a w := by
  obtain ⟨i0, hi, hz0, hz1, hz2⟩ := info_int13
  refine wpList_append_src w hgd s x 29 ho B 3 i0 (.int .i64 0) 1 8 Tryz.underlying29 hi hz0 hz1 hz2 rfl (by decide) v M.length (M.map intV) hs hown hvn u R.length (R.map intV) hx (Src.of_il hu) (by simp) (intV_one R) (by unfold maxLen; omega) (by omega) hbase ?_
  intro v' w' h1 h2 h3 h4
  exact h v' w' (by unfold IR; rw [List.length_append, List.map_append]; exact h1) h2 h3 h4
theorem emptyNR (w : World) : NR w.heap.size (.slice (some ⟨w.heap.size, 0, none⟩) 0 0) [] (w.alloc (.cells #[] 9)) :=
  ⟨rfl, .inr ⟨w.heap.size, 0, #[], rfl, Nat.le_refl _, heap_alloc_new w _, Nat.le_refl _, Nat.zero_le _, rfl, rfl⟩⟩
theorem emptyIR (w : World) : IR w.heap.size (.slice (some ⟨w.heap.size, 0, none⟩) 0 0) [] (w.alloc (.cells #[] 3)) :=
  ⟨rfl, .inr ⟨w.heap.size, 0, #[], rfl, Nat.le_refl _, heap_alloc_new w _, Nat.le_refl _, Nat.zero_le _, rfl, rfl⟩⟩
theorem own_form13 {B e size n : Nat} {v : Value} {xs : List Value} {w : World} (h : w.ownsRow B e size v n xs) : ∃ a c, v = .slice a n c ∧ n ≤ c ∧ c ≤ maxLen := by
  rcases h.2 with ⟨rfl, h0⟩ | ⟨g, cap, cur, rfl, hb, hg, hc, hm, hs, ht⟩
  · exact ⟨none, 0, by rw [h0], by omega, Nat.zero_le _⟩
  · exact ⟨_, _, rfl, hc, hm⟩

set_option maxHeartbeats 8000000 in
theorem cloneS_any (L : List (List UInt8)) (u : Value) (w : World) (hu : BL u L w) (hs : L.length ≤ 100000) :
    Calls Tryz.prog 66 #[u] w fun e w' => ∃ v', e = .returned v' ∧ NR w.heap.size v' L w' ∧ Below w.heap.size w w' := by
  have q22 : ∀ (w : World) (a : Option Addr) (n c n' c' : Nat), (binOp .eql 28 (.slice a n c) (.slice none n' c')).run Tryz.prog w = .ok (.bool a.isNone) w := fun w a n c n' c' => Lib.run_eql_slice_nil w _ _ a n c n' c' Tryz.underlying28
  obtain ⟨a, cap, rfl, hcap, hmax, hn, _⟩ := id hu
  cases a with
  | none =>
    obtain rfl := hn rfl
    have h0 : L = [] := List.eq_nil_of_length_eq_zero (by omega)
    subst h0
    clear hu
    go_enter Tryz.func66, Tryz.ntmps66
    go_wp2
    go_ret
    exact ⟨_, rfl, NR.none _ _, Below.refl _ _⟩
  | some ad =>
    have HE := Lib.hid (emptyNR w)
    have hbE := Lib.hid ((Below.refl w.heap.size w).alloc (Nat.le_refl _) (.cells #[] 9))
    have HU := Lib.hid (hu.after hbE.out)
    obtain ⟨n, hnn⟩ : ∃ n, L.length = n := ⟨_, rfl⟩
    have HN := Lib.hid hnn
    rw [hnn] at hcap hs HU ⊢
    have HZ : RowKit.Hid (([] : List (List UInt8)).length + L.length ≤ 1000000) := by unfold RowKit.Hid; rw [List.length_nil, hnn]; omega
    clear hu hnn hn
    go_enter Tryz.func66, Tryz.ntmps66
    go_wp2_with (at_builtin; refine append_sS _ rfl _ _ rfl w.heap.size _ [] rfl HE.out (fun h => by cases h) (.slice (some ad) n cap) L rfl HU.out HZ.out (by simp) ?_; intro v2 w2 h2 hg2 hn2 hl2)
    have HB2 : RowKit.Hid (Below w.heap.size w w2) := hbE.out.grown hg2 (by simp) (fun j hj => by cases hj; exact Nat.le_refl _)
    have H2 := Lib.hid h2
    obtain ⟨ao, cp, rfl, _, _⟩ := own_form13 h2
    clear h2 hg2 hn2 hl2
    go_wp2
    go_ret
    exact ⟨_, rfl, H2.out, HB2.out⟩

set_option maxHeartbeats 8000000 in
theorem cloneI_any (L : List Int) (u : Value) (w : World) (hu : IL u L w) (hs : L.length ≤ 100000) :
    Calls Tryz.prog 51 #[u] w fun e w' => ∃ v', e = .returned v' ∧ IR w.heap.size v' L w' ∧ Below w.heap.size w w' := by
  have q22 : ∀ (w : World) (a : Option Addr) (n c n' c' : Nat), (binOp .eql 29 (.slice a n c) (.slice none n' c')).run Tryz.prog w = .ok (.bool a.isNone) w := fun w a n c n' c' => Lib.run_eql_slice_nil w _ _ a n c n' c' Tryz.underlying29
  obtain ⟨a, cap, rfl, hcap, hn⟩ := id hu
  cases a with
  | none =>
    have h0 : L = [] := by
      cases L with
      | nil => rfl
      | cons y r =>
        obtain ⟨g, o, h1, _⟩ := hn 0 y rfl
        cases h1
    subst h0
    clear hu
    go_enter Tryz.func51, Tryz.ntmps51
    go_wp2
    go_ret
    exact ⟨_, rfl, IR.zero _ _, Below.refl _ _⟩
  | some ad =>
    have HE := Lib.hid (emptyIR w)
    have hbE := Lib.hid ((Below.refl w.heap.size w).alloc (Nat.le_refl _) (.cells #[] 3))
    have HU := Lib.hid (hu.after hbE.out)
    obtain ⟨n, hnn⟩ : ∃ n, L.length = n := ⟨_, rfl⟩
    have HN := Lib.hid hnn
    rw [hnn] at hcap hs HU ⊢
    have HZ : RowKit.Hid (([] : List Int).length + L.length ≤ 1000000) := by unfold RowKit.Hid; rw [List.length_nil, hnn]; omega
    clear hu hnn hn
    go_enter Tryz.func51, Tryz.ntmps51
    go_wp2_with (at_builtin; refine append_sI _ rfl _ _ rfl w.heap.size _ [] rfl HE.out (fun h => by cases h) (.slice (some ad) n cap) L rfl HU.out HZ.out (by simp) ?_; intro v2 w2 h2 hg2 hn2 hl2)
    have HB2 : RowKit.Hid (Below w.heap.size w w2) := hbE.out.grown hg2 (by simp) (fun j hj => by cases hj; exact Nat.le_refl _)
    have H2 := Lib.hid h2
    obtain ⟨ao, cp, rfl, _, _⟩ := own_form13 h2
    clear h2 hg2 hn2 hl2
    go_wp2
    go_ret
    exact ⟨_, rfl, H2.out, HB2.out⟩
end

end Go.Proofs.YtmcolapcmjdoeaaGreatDoor
