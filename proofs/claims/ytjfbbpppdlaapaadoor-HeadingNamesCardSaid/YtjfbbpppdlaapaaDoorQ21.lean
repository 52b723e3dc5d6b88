/- Merged: R12C, Env12. -/
import Derived.Test.YtjfbbpppdlaapaaDoorQ20
import Derived.Test.YtjfbbpppdlaapaaDoorShelf
import Derived.Test.YtjfbbpppdlaapaaDoorQ03
import Derived.Test.YtjfbbpppdlaapaaDoorQ05
import Derived.Test.YtjfbbpppdlaapaaDoorQ08
import Derived.Test.YtjfbbpppdlaapaaDoorQ10
namespace Go.Proofs.YtjfbbpppdlaapaaDoor

section
open Go.RowKit Go.PlainAid
theorem row_bl {B : Nat} {v : Value} {L : List (List UInt8)} {w : World} (h : w.ownsRow B 9 1 v L.length (L.map strB)) : BL v L w := by
  rcases h.2 with ⟨rfl, h0⟩ | ⟨g, cap, cur, rfl, hg0, hg, hc, hm, hsz, ht⟩
  · have : L = [] := List.eq_nil_of_length_eq_zero h0
    subst this
    exact ⟨none, 0, rfl, Nat.le_refl _, Nat.zero_le _, fun _ => rfl, fun i hi => by cases hi⟩
  · refine ⟨_, cap, rfl, hc, hm, (fun h => by cases h), fun i hi => ⟨g, 0, rfl, (Array.getElem?_eq_some_iff.1 hg).1, ?_⟩⟩
    have := h.cells (g := g) rfl i (strB (L.getD i [])) (by rw [List.getElem?_map, List.getElem?_eq_getElem hi, List.getD_eq_getElem?_getD, List.getElem?_eq_getElem hi]; rfl)
    have hadd : (⟨g, 0, none⟩ : Addr).add i = ⟨g, i, none⟩ := by unfold Addr.add; split <;> simp_all
    rw [hadd] at this
    rw [Nat.zero_add]
    exact this
theorem strs_bl {B : Nat} {v : Value} {ws : List (List Nat)} {w : World} (h : Strs B v ws w) : BL v (ws.map enc) w := by
  refine row_bl (B := B) ?_
  rw [List.length_map, List.map_map]
  exact h
theorem glu_words (ws : List (List Nat)) : gluX [32] (ws.map enc) = enc (joinL ws) := by
  refine snoc_ind2 (p := fun ws => gluX [32] (ws.map enc) = enc (joinL ws)) ?_ ?_ ws
  · rfl
  · intro l x ih
    rw [List.map_append, List.map_cons, List.map_nil, glu_snoc, joinL_snoc]
    by_cases h : l = []
    · subst h
      rfl
    · rw [if_neg (by simpa using h), if_neg h, ih, enc_append, enc_append]
      rfl
theorem word_le : ∀ (ws : List (List Nat)) (x : List Nat), x ∈ ws → x.length ≤ total ws
  | [], x, hx => by cases hx
  | y :: t, x, hx => by
    have e : total (y :: t) = y.length + 1 + total t := by simp [total]
    rw [e]
    rcases List.mem_cons.1 hx with rfl | hx
    · omega
    · have := word_le t x hx
      omega
theorem parts_len (l : List UInt8) (h : validT l = true) : ∀ x ∈ partsX l, ∃ c1, OKs c1 ∧ x = enc c1 ∧ c1.length ≤ l.length := by
  obtain ⟨cs, hcs, rfl⟩ := validT_text l h
  intro x hx
  obtain ⟨hx, hne⟩ := nonE_mem hx
  obtain ⟨y, hy, rfl⟩ := List.mem_map.1 hx
  have hyl := spl_mem dd _ _ (Nat.le_refl _) y hy
  obtain ⟨c1, hc1, rfl⟩ := spl_valid dd dd_ascii _ cs (Nat.le_refl _) hcs y hy
  rw [cleanX_enc c1 hc1]
  refine ⟨cleanL c1, clean_OK c1 hc1, rfl, ?_⟩
  have h1 := clean_tight c1
  have h2 := len_le c1
  rw [T_size] at h2
  omega
/-- The words of a part, joined by blanks. -/
theorem refWordsS_any (x : List UInt8) (m : Nat) (hm : m ≤ 10000) (hx : ∃ c1, OKs c1 ∧ x = enc c1 ∧ c1.length ≤ m) (w : World) :
    Calls Tryd.prog 37 #[.string (S x)] w fun e w' => ∃ v L, e = .returned v ∧ BL v L w' ∧ Below w.heap.size w w' ∧ gluX [32] L = wordX x ∧ (∀ y ∈ L, y.length ≤ 100000) ∧ L.length ≤ 100000 ∧ (wordX x).length ≤ 100000 := by
  obtain ⟨c1, h1, rfl, hl⟩ := hx
  refine (refWords_any c1 h1 _ rfl (by omega) w).mono ?_
  rintro e w' ⟨v, rfl, hs, hb⟩
  have ht := W_total c1
  refine ⟨v, (W c1).map enc, rfl, strs_bl hs, hb, by rw [glu_words, wordX_enc c1 h1], ?_, ?_, ?_⟩
  · intro y hy
    obtain ⟨z, hz, rfl⟩ := List.mem_map.1 hy
    have h2 := word_le _ z hz
    have h3 := enc_le z
    omega
  · rw [List.length_map]
    have := len_total (W c1)
    omega
  · rw [wordX_enc c1 h1]
    have h2 := join_total (W c1)
    have h3 := enc_le (joinL (W c1))
    omega
set_option maxHeartbeats 16000000 in
set_option maxRecDepth 100000 in
theorem refNorm_any (l : List UInt8) (hv : validT l = true) (hl : l.length ≤ 9000) (w : World) :
    Calls Tryd.prog 17 #[.string (S l)] w fun e w' => e = .returned (.string (S (normX l))) ∧ Below w.heap.size w w' := by
  obtain ⟨Q, hQ⟩ : ∃ Q, (fun (e : Ending) (w' : World) => e = .returned (.string (S (normX l))) ∧ Below w.heap.size w w') = Q := ⟨_, rfl⟩
  rw [hQ]
  have HQ : RowKit.Hid (∀ W, Below w.heap.size w W → Q (.returned (.string (S (normX l)))) W) := by rw [← hQ]; exact fun W k => ⟨rfl, k⟩
  clear hQ
  have cS := Lib.hid (refParts_any l hv (by omega) w)
  have hpl := parts_len l hv
  have hpn : (partsX l).length ≤ 100000 := by
    have h1 := nonE_le ((splG dd l).map cleanX)
    have h2 := spl_len dd l.length l (Nat.le_refl _)
    unfold partsX
    rw [List.length_map] at h1
    omega
  unfold normX normL at HQ
  obtain ⟨P, hP⟩ : ∃ P, partsX l = P := ⟨_, rfl⟩
  rw [hP] at cS hpl hpn HQ
  have HC := Lib.hid (fun k (hk : k < P.length) W => refWordsS_any (P.getD k []) 9000 (by decide) (by
    obtain ⟨c1, h1, h2, h3⟩ := hpl _ (mem_getD12 P k hk)
    exact ⟨c1, h1, h2, by omega⟩) W)
  have HSt := Lib.hid (fun k (hk : k < P.length) => map_take_snoc wordX P k hk)
  have HG := Lib.hid (fun L v W h h2 h3 => refGlue_any [32] L v W h (by decide) 100000 (by decide) h2 h3)
  have HG2 := Lib.hid (fun L v W h h2 h3 => refGlue_any dd L v W h (by decide) 100000 (by decide) h2 h3)
  have edd : S dd = ⟨#[45, 45]⟩ := rfl
  have e32 : S [32] = ⟨#[32]⟩ := rfl
  rw [edd] at HG2
  rw [e32] at HG
  obtain ⟨n, hn⟩ : ∃ n, P.length = n := ⟨_, rfl⟩
  rw [hn] at HC HSt hpn
  have HN := Lib.hid hn
  clear hP hpl edd e32 hl hv hn
  generalize S l = st at *
  go_enter Tryd.func17, Tryd.ntmps17
  go_wp2_with fail
  refine cS.out.mono ?_
  rintro e w1 ⟨v, rfl, hr1, hb1⟩
  obtain ⟨gp, cpp, rfl⟩ := sr_form hr1
  have HP := Lib.hid hr1.bl
  have HB1 := Lib.hid hb1
  have hrow0 := SR.empty w1
  have hbw0 : Below w1.heap.size w1 (w1.alloc (.cells #[] 9)) := (Below.refl _ _).alloc (Nat.le_refl _) _
  have HR0 := Lib.hid hrow0
  have HBw0 := Lib.hid hbw0
  rw [HN.out]
  rw [HN.out] at HP
  clear hr1 hb1 hrow0 hbw0 cS
  go_wp2
  go_loopw [4, 5] (fun v4 v5 wr => ∃ (k g cp d : Nat) (D : List (List UInt8)), v4 = .slice (some ⟨g, 0, none⟩) d cp ∧ v5 = .int .i64 (k : Int) ∧ k ≤ n ∧ D.length = d ∧ d ≤ k ∧ RowKit.Hid (∀ y ∈ D, y.length ≤ 100000) ∧ RowKit.Hid (D = nonE ((P.take k).map wordX)) ∧ RowKit.Hid (SR w1.heap.size (.slice (some ⟨g, 0, none⟩) d cp) D wr) ∧ RowKit.Hid (Below w1.heap.size w1 wr)) (fun _ v5 _ => n - (intOf v5).toNat)
  case atStart => exact ⟨0, _, _, _, [], rfl, rfl, by omega, rfl, by omega, (fun y hy => by cases hy), rfl, HR0, HBw0⟩
  case round =>
    obtain ⟨k, g, cp, d, D, rfl, rfl, hk, hDd, hdk, HDl, HD, HR, HB⟩ := hrel
    clear HR0 HBw0
    by_cases hkn : k < n
    · have i1 : (0 : Int) ≤ (k : Int) := by omega
      have i2 : (k : Int) < (n : Int) := by omega
      obtain ⟨g2, o2, cap2, he, hg, c0⟩ := (HP.out.after HB.out).at12 k (by rw [HN.out]; exact hkn)
      obtain ⟨ha, -, hcp⟩ := Value.slice.inj he
      obtain ⟨rfl, rfl, -⟩ := Addr.mk.inj (Option.some.inj ha)
      subst hcp
      rw [Nat.zero_add] at c0
      clear he ha
      have cC := Lib.hid (HC.out k hkn wr)
      have hst := HSt.out k hkn
      obtain ⟨p, hp⟩ : ∃ p, P.getD k [] = p := ⟨_, rfl⟩
      rw [hp] at c0 cC hst
      obtain ⟨y, hy⟩ : ∃ y, wordX p = y := ⟨_, rfl⟩
      rw [hy] at cC hst
      have HSt2 := Lib.hid hst
      clear hp hy hst HC HSt
      generalize S p = sp at *
      go_wp2_with fail
      refine cC.out.mono ?_
      rintro e w2 ⟨vw, M, rfl, hbl, hb2, hgl, hml, hmn, hyl⟩
      obtain ⟨ma, mc, rfl, -, -⟩ := hbl.length
      have HB2 : RowKit.Hid (Below w1.heap.size w1 w2) := HB.out.trans (hb2.mono HB.out.size)
      have HR2 := Lib.hid (HR.out.after hb2)
      have cG := HG.out M _ w2 hbl hml (by omega)
      rw [hgl] at cG
      have CG := Lib.hid cG
      have HYl := Lib.hid hyl
      obtain ⟨ml, hmle⟩ : ∃ x, M.length = x := ⟨_, rfl⟩
      rw [hmle] at CG ⊢
      clear hb2 cC c0 hbl hgl hml hmn hyl cG hmle
      go_wp2_with fail
      refine CG.out.mono ?_
      rintro e w3 ⟨rfl, hw3⟩
      rw [hw3]
      clear hw3 CG w3
      by_cases h0 : y = []
      · subst h0
        have e0 : S [] = (⟨#[]⟩ : ByteArray) := rfl
        rw [e0]
        have HD2 : RowKit.Hid (D = nonE ((P.take (k + 1)).map wordX)) := by
          unfold RowKit.Hid
          rw [HSt2.out, nonE_snoc, if_pos rfl]
          exact HD.out
        go_wp2
        go_roundw
        case rel => exact ⟨k + 1, g, cp, d, D, by first | rfl | trivial, by go_num, by omega, hDd, by omega, HDl, HD2, HR2, HB2⟩
        case measure => simp [intOf]; omega
      · obtain ⟨s1, s2⟩ := S_facts y h0
        have HD2 : RowKit.Hid (D ++ [y] = nonE ((P.take (k + 1)).map wordX)) := by
          unfold RowKit.Hid
          rw [HSt2.out, nonE_snoc, if_neg h0, HD.out]
        have HDl2 : RowKit.Hid (∀ z ∈ D ++ [y], z.length ≤ 100000) := by
          intro z hz
          rcases List.mem_append.1 hz with hz | hz
          · exact HDl.out z hz
          · rw [List.mem_singleton.1 hz]; exact HYl.out
        have hsz := HB2.out.size
        clear h0
        go_wp2_with (at_builtin; go_loud (refine append_sr _ rfl _ _ rfl w1.heap.size (.slice (some ⟨g, 0, none⟩) d cp) D y rfl HR2.out rfl (by omega) hsz w1.heap.size w1 (Nat.le_refl _) HB2.out ?_))
        intro v2 w3 hr3 hb3
        (try intro _)
        obtain ⟨g3, cp3, rfl⟩ := sr_form hr3
        have hl3 : (D ++ [y]).length = d + 1 := by rw [List.length_append, hDd]; rfl
        have HL3 := Lib.hid hl3
        rw [hl3] at hr3 ⊢
        have HR3 := Lib.hid hr3
        have HB3 := Lib.hid hb3
        clear hr3 hb3 hl3 s1 s2
        go_wp2
        go_roundw
        case rel => exact ⟨k + 1, g3, cp3, d + 1, D ++ [y], by first | rfl | trivial, by go_num, by omega, HL3.out, by omega, HDl2, HD2, HR3, HB3⟩
        case measure => simp [intOf]; omega
    · obtain rfl : k = n := by omega
      have hD := HD.out
      have ht : P.take k = P := by rw [← HN.out, List.take_length]
      rw [ht] at hD
      have cG := HG2.out D _ wr HR.out.bl HDl.out (by omega)
      rw [hD] at cG
      have CG := Lib.hid cG
      have HBf := Lib.hid (HB1.out.trans (HB.out.mono HB1.out.size))
      clear ht HD hD cG
      go_wp2_with fail
      refine CG.out.mono ?_
      rintro e w3 ⟨rfl, hw3⟩
      rw [hw3]
      clear hw3 CG w3
      go_wp2
      first | exact HQ.out _ HBf.out | (go_ret; exact HQ.out _ HBf.out)
set_option maxHeartbeats 8000000 in
theorem refSame12_any (a b : List UInt8) (ha : validT a = true) (hla : a.length ≤ 9000) (hb : validT b = true) (hlb : b.length ≤ 9000) (w : World) :
    Calls Tryd.prog 19 #[.string (S a), .string (S b)] w fun e w' => e = .returned (.bool (sameX a b)) ∧ Below w.heap.size w w' := by
  have cA := Lib.hid (fun W => refNorm_any a ha hla W)
  have cB := Lib.hid (fun W => refNorm_any b hb hlb W)
  have hq := S_eq12 (normX a) (normX b)
  unfold sameX
  have hne := S_facts (normX a)
  obtain ⟨na, hna⟩ : ∃ x, normX a = x := ⟨_, rfl⟩
  obtain ⟨nb, hnb⟩ : ∃ x, normX b = x := ⟨_, rfl⟩
  rw [hna] at cA hq hne ⊢
  rw [hnb] at cB hq ⊢
  clear hna hnb ha hb hla hlb
  by_cases h0 : na = []
  · subst h0
    have e0 : S [] = (⟨#[]⟩ : ByteArray) := rfl
    rw [e0] at cA
    have hf : (decide (([] : List UInt8) ≠ []) && decide ([] = nb)) = false := by simp
    rw [hf]
    clear hq hne hf
    generalize S a = sa at *
    generalize S b = sb at *
    go_enter Tryd.func19, Tryd.ntmps19
    go_wp2_with fail
    refine (cA.out w).mono ?_
    rintro e w1 ⟨rfl, hb1⟩
    have B1 := Lib.hid hb1
    clear hb1
    go_wp2
    first | exact ⟨rfl, B1.out⟩ | (go_ret; exact ⟨rfl, B1.out⟩)
  · obtain ⟨s1, s2⟩ := hne h0
    rw [decide_eq_true h0, Bool.true_and]
    have HQq := Lib.hid hq
    obtain ⟨eq, heq⟩ : ∃ x, decide (na = nb) = x := ⟨_, rfl⟩
    rw [heq] at hq ⊢
    clear hne h0 heq HQq
    generalize S a = sa at *
    generalize S b = sb at *
    generalize S na = xa at *
    generalize S nb = xb at *
    go_enter Tryd.func19, Tryd.ntmps19
    go_wp2_with fail
    refine (cA.out w).mono ?_
    rintro e w1 ⟨rfl, hb1⟩
    have B1 := Lib.hid hb1
    clear hb1
    go_wp2_with fail
    refine (cA.out w1).mono ?_
    rintro e w2 ⟨rfl, hb2⟩
    have B2 := Lib.hid (B1.out.trans (hb2.mono B1.out.size))
    clear hb2
    go_wp2_with fail
    refine (cB.out w2).mono ?_
    rintro e w3 ⟨rfl, hb3⟩
    have B3 := Lib.hid (B2.out.trans (hb3.mono B2.out.size))
    clear hb3
    go_wp2
    first | exact ⟨rfl, B3.out⟩ | (go_ret; exact ⟨rfl, B3.out⟩)
end

section
open Go.RowKit
structure Env (w : World) : Prop where
  tabs : Tabs w
  acc : Acc w
  most : ∃ m, w.cell? ⟨3, 0, none⟩ = some (.int .i64 m)
theorem cell_below {w w' : World} {g : Nat} {v : Value} (h : w.cell? ⟨g, 0, none⟩ = some v) (hb : Below w.heap.size w w') : w'.cell? ⟨g, 0, none⟩ = some v := by
  have hlt : g < w.heap.size := by
    rcases Nat.lt_or_ge g w.heap.size with h' | h'
    · exact h'
    · simp [World.cell?, Array.getElem?_eq_none h'] at h
  exact (hb.cell (p := ⟨g, 0, none⟩) hlt).trans h
theorem Env.after {w w' : World} (h : Env w) (hb : Below w.heap.size w w') : Env w' := by
  obtain ⟨h1, h2, ⟨m, hm⟩⟩ := h
  exact ⟨h1.after hb, h2.after hb, ⟨m, cell_below hm hb⟩⟩
theorem drewN_below (w : World) (n : Nat) : Below w.heap.size w (w.drewN n) := ⟨rfl, rfl, rfl, Nat.le_refl _, fun _ _ => rfl⟩
/-- A slice of texts of the call's own, nil at first. -/
def NR (B : Nat) (v : Value) (L : List (List UInt8)) (w : World) : Prop := w.ownsRow B 9 1 v L.length (L.map strB)
theorem NR.after {B : Nat} {v : Value} {L : List (List UInt8)} {w w' : World} (h : NR B v L w) (hb : Below w.heap.size w w') : NR B v L w' := own_after h hb
theorem NR.none (B : Nat) (w : World) : NR B (.slice none 0 0) [] w := ⟨rfl, .inl ⟨rfl, rfl⟩⟩
theorem NR.bl {B : Nat} {v : Value} {L : List (List UInt8)} {w : World} (h : NR B v L w) : BL v L w := row_bl h
/-- append of one text that has just been laid to such a row. -/
theorem append_nr {ops : Array Oper} {rest : List Oper} {o : Oper} {a : Act} {Q : Exit → Act → World → Prop} (w : World) (hgd : o.guard = none) (s x : Operand)
    (ho : o.op = .call { callee := .builtin .append, args := #[s, x], argTypes := #[25, 25] })
    (B : Nat) (v : Value) (L : List (List UInt8)) (y : List UInt8) (hs : a.eval s = v) (h : NR B v L w) (hx : a.eval x = .slice (some ⟨w.heap.size, 0, none⟩) 1 1) (hz : L.length ≤ 10000000) (hB : B ≤ w.heap.size)
    (N : Nat) (W1 : World) (hNB : N ≤ B) (hb : Below N W1 w)
    (hk : ∀ v' w', NR B v' (L ++ [y]) w' → Below N W1 w' → B ≤ w'.heap.size → wpList Tryd.prog ops Q rest (a.put o.dst v') w') : wpList Tryd.prog ops Q (o :: rest) a (w.alloc (.cells #[strB y] 9)) := by
  obtain ⟨i0, hi, hz0, hz1, hz2⟩ := info_string
  have hrow := World.ownsRow.alloc h (.cells #[strB y] 9)
  refine wpList_append_own _ hgd s x 25 ho B 9 i0 (.string ⟨#[]⟩) 1 16 Tryd.underlying25 hi hz0 hz1 hz2 rfl (by decide) v L.length _ hs hrow ⟨w.heap.size, 0, none⟩ 1 1 [strB y] hx rfl (cells_one12 _ _ _) (by intro u hu; simp at hu; subst hu; rfl) (by unfold maxLen; omega) (by omega) (by simp; omega) ?_
  intro v2 w2 hown2 hg2 hn2
  refine hk v2 w2 (by unfold NR; rw [List.length_append, List.map_append]; exact hown2) ?_ (Nat.le_trans (by simp; omega) hg2.size)
  exact (hb.alloc (by omega) _).grown hg2 (by simp; omega) (fun j hj => Nat.le_trans hNB (hrow.lt j hj).1)

/-- text.Valid. -/
theorem cValid (l : List UInt8) (hz : l.length ≤ 1000000) (b : Bool) (hb : validT l = b) (w : World) (hE : Env w) :
    Calls Tryd.prog 61 #[.string (S l)] w fun e w' => e = .returned (.bool b) ∧ Below w.heap.size w w' :=
  valid_is (S l) b hb (by rw [S_size]; omega) w hE.tabs
/-- text.Clean of a text. -/
theorem cClean (x : List UInt8) (hx : ∃ c1, OKs c1 ∧ x = enc c1) (hz : x.length ≤ 1000000) (w : World) :
    Calls Tryd.prog 31 #[.string (S x)] w fun e w' => e = .returned (.string (S (cleanX x))) ∧ Below w.heap.size w w' := by
  obtain ⟨c1, h1, rfl⟩ := hx
  have hl := len_le c1
  rw [T_size] at hl
  exact clean_is _ _ c1 h1 rfl (by omega) (by rw [cleanX_enc c1 h1]; rfl) w
/-- text.Words of a part. -/
theorem cWords (x : List UInt8) (m : Nat) (hm : m ≤ 10000) (hx : ∃ c1, OKs c1 ∧ x = enc c1 ∧ c1.length ≤ m) (w : World) (hE : Env w) :
    Calls Tryd.prog 34 #[.string (S x)] w fun e w' => ∃ v L, e = .returned v ∧ BL v L w' ∧ Below w.heap.size w w' ∧ gluX [32] L = wordX x ∧ (∀ y ∈ L, y.length ≤ 100000) ∧ L.length ≤ 100000 ∧ (wordX x).length ≤ 100000 ∧ (L = [] ↔ wordX x = []) := by
  obtain ⟨c1, h1, rfl, hl⟩ := hx
  refine (words_any c1 h1 _ rfl (by omega) w hE.acc).mono ?_
  rintro e w' ⟨v, rfl, hs, hb⟩
  have ht := W_total c1
  refine ⟨v, (W c1).map enc, rfl, strs_bl hs, hb, by rw [glu_words, wordX_enc c1 h1], ?_, ?_, ?_, ?_⟩
  · intro y hy
    obtain ⟨z, hz, rfl⟩ := List.mem_map.1 hy
    have h2 := word_le _ z hz
    have h3 := enc_le z
    omega
  · rw [List.length_map]
    have := len_total (W c1)
    omega
  · rw [wordX_enc c1 h1]
    have h2 := join_total (W c1)
    have h3 := enc_le (joinL (W c1))
    omega
  · rw [wordX_enc c1 h1, List.map_eq_nil_iff]
    constructor
    · intro h
      rw [h]
      rfl
    · intro h
      by_cases h0 : W c1 = []
      · exact h0
      · have h2 := join_ne (W c1) (fun x hx => (W_words c1 x hx).1) h0
        have h3 := len_le (joinL (W c1))
        rw [T_size, h] at h3
        have := List.length_pos_iff.2 h2
        simp at h3
        exact absurd h3 h2
theorem row_of (w w' : World) (P : List (List UInt8)) (N : Nat) (X : Array Value) (hn : P.length ≤ N) (hN : N ≤ maxLen) (hX : ∀ i, i < P.length → X[i]? = some (strB (P.getD i []))) (hw : w' = w.alloc (.cells X 9)) :
    BL (.slice (some ⟨w.heap.size, 0, none⟩) P.length N) P w' := by
  subst hw
  have hbk := heap_alloc_new w (.cells X 9)
  refine ⟨_, _, rfl, hn, hN, (fun h => by cases h), fun i hi => ⟨w.heap.size, 0, rfl, (Array.getElem?_eq_some_iff.1 hbk).1, ?_⟩⟩
  rw [Lib.cell_of_heap hbk, Nat.zero_add]
  exact hX i hi
theorem spl_le12 (sep l : List UInt8) : (splG sep l).length ≤ l.length + 1 := spl_len sep l.length l (Nat.le_refl _)
/-- strings.Split. -/
theorem cSplit (l sep : List UInt8) (h0 : sep ≠ []) (hz : l.length ≤ 1000000) (w : World) (hE : Env w) :
    Calls Tryd.prog 30 #[.string (S l), .string (S sep)] w fun e w' => ∃ g cp, e = .returned (.slice (some ⟨g, 0, none⟩) (splG sep l).length cp) ∧ BL (.slice (some ⟨g, 0, none⟩) (splG sep l).length cp) (splG sep l) w' ∧ Below w.heap.size w w' := by
  obtain ⟨m, hm⟩ := hE.most
  refine (Tryd.strings_Split (S l) (S sep) m w (by rw [S_size]; omega) hm (by rw [S_size]; exact List.length_pos_iff.2 h0)).mono fun e w' hh => ?_
  obtain ⟨rfl, hw⟩ := hh
  have hd : (Lib.splitB (S sep) 0 (Lib.countB (S l) (S sep)) (S l)).map (·.data.toList) = splG sep l := (Lib.splitB_data (S sep) 0 _ (S l)).trans (split_spl sep h0 l)
  have hlen : Lib.countB (S l) (S sep) + 1 = (splG sep l).length := (countFrom_spl sep h0 (l.length + 1) l (by omega)).symm
  have hle := spl_le12 sep l
  have hP : (Lib.splitB (S sep) 0 (Lib.countB (S l) (S sep)) (S l)).map Value.string = (splG sep l).map strB := by
    rw [← hd, List.map_map]
    rfl
  rw [hlen, hw]
  refine ⟨w.heap.size, _, rfl, row_of w _ (splG sep l) _ _ (Nat.le_refl _) (by unfold maxLen; omega) (fun i hi => ?_) rfl, (Below.refl _ _).alloc (Nat.le_refl _) _⟩
  rw [hP]
  simp [List.getD_eq_getElem?_getD, List.getElem?_eq_getElem hi]
/-- strings.SplitN. -/
theorem cSplitN (l sep : List UInt8) (n : Nat) (hn : 1 ≤ n) (hn2 : n ≤ 100) (h0 : sep ≠ []) (hz : l.length ≤ 1000000) (w : World) (hE : Env w) :
    Calls Tryd.prog 40 #[.string (S l), .string (S sep), .int .i64 n] w fun e w' => ∃ (P : List (List UInt8)) (g cp : Nat), e = .returned (.slice (some ⟨g, 0, none⟩) P.length cp) ∧ BL (.slice (some ⟨g, 0, none⟩) P.length cp) P w' ∧ Below w.heap.size w w' ∧ ((splG sep l).length ≤ n → P = splG sep l) ∧ (n < (splG sep l).length → P.length = n) := by
  obtain ⟨m, hm⟩ := hE.most
  refine (Tryd.strings_SplitN (S l) (S sep) n m w (by rw [S_size]; omega) hm (by rw [S_size]; exact List.length_pos_iff.2 h0) hn (by omega)).mono fun e w' hh => ?_
  obtain ⟨rfl, hw⟩ := hh
  rw [S_size] at hw ⊢
  have hd : (Lib.splitB (S sep) 0 (min n (l.length + 1) - 1) (S l)).map (·.data.toList) = Lib.splitN l sep n := Lib.splitB_data (S sep) 0 _ (S l)
  have hle := Lib.splitB_length_le (S sep) 0 (min n (l.length + 1) - 1) (S l)
  obtain ⟨h1, h2⟩ := splitN_spl sep h0 l n hn (spl_le12 sep l)
  have hlen : (Lib.splitB (S sep) 0 (min n (l.length + 1) - 1) (S l)).length = (Lib.splitN l sep n).length := by rw [← hd, List.length_map]
  have hP : (Lib.splitB (S sep) 0 (min n (l.length + 1) - 1) (S l)).map Value.string = (Lib.splitN l sep n).map strB := by
    rw [← hd, List.map_map]
    rfl
  rw [hlen] at hle ⊢
  rw [hw]
  refine ⟨Lib.splitN l sep n, w.heap.size, _, rfl, row_of w _ _ _ _ (by omega) (by unfold maxLen; omega) (fun i hi => ?_) rfl, (Below.refl _ _).alloc (Nat.le_refl _) _, h1, h2⟩
  unfold Lib.cellsOf
  rw [hP]
  simp only [List.getElem?_toArray]
  rw [List.getElem?_append_left (by rw [List.length_map]; exact hi)]
  simp [List.getD_eq_getElem?_getD, List.getElem?_eq_getElem hi]
/-- strings.Join. -/
theorem cJoin (sep : List UInt8) (v : Value) (L : List (List UInt8)) (w : World) (hv : BL v L w) (hs : sep.length ≤ 100) (m : Nat) (hm : m ≤ 1000000) (hL : ∀ x ∈ L, x.length ≤ m) (hn : L.length ≤ 1000000) :
    Calls Tryd.prog 35 #[v, .string (S sep)] w fun e w' => e = .returned (.string (S (gluX sep L))) ∧ Below w.heap.size w w' := by
  have hjs := glu_le sep m hs L hL
  have hmul : (m + 100) * L.length ≤ 1000100 * 1000000 := Nat.mul_le_mul (by omega) hn
  obtain ⟨a, cap, rfl, hcap, hmax, hn0, hcell⟩ := hv
  by_cases h0 : L.length = 0
  · have : L = [] := List.eq_nil_of_length_eq_zero h0
    subst this
    refine (Tryd.strings_Join_none a cap (S sep) w).mono fun e w' hh => ?_
    obtain ⟨he, rfl⟩ := hh
    exact ⟨he, Below.refl _ _⟩
  · obtain ⟨g, o, rfl, hg, _⟩ := hcell 0 (by omega)
    have hmap : (L.map S).map (·.data.toList) = L := by
      rw [List.map_map]
      conv => rhs; rw [← List.map_id L]
      exact List.map_congr_left fun x _ => rfl
    have h := Tryd.strings_Join g o cap (L.map S) (S sep) w (fun j x hx => by
      have hj : j < L.length := by
        have := (List.getElem?_eq_some_iff.1 hx).1
        rwa [List.length_map] at this
      obtain ⟨g', o', he, _, hc⟩ := hcell j hj
      simp only [Option.some.injEq, Addr.mk.injEq] at he
      obtain ⟨rfl, rfl, _⟩ := he
      rw [hc]
      rw [List.getElem?_map, List.getElem?_eq_getElem hj] at hx
      simp only [Option.map_some, Option.some.injEq] at hx
      rw [← hx, List.getD_eq_getElem?_getD, List.getElem?_eq_getElem hj]
      rfl) hg (by rw [List.length_map]; omega) (by rw [List.length_map]; exact hcap) (by
        rw [hmap, show (S sep).data.toList = sep from rfl, join_glu]
        omega)
    rw [List.length_map, hmap, show (S sep).data.toList = sep from rfl, join_glu] at h
    exact h
/-- strings.Contains. -/
theorem cContains (l sep : List UInt8) (h0 : sep ≠ []) (hz : l.length ≤ 1000000) (w : World) (hE : Env w) :
    Calls Tryd.prog 42 #[.string (S l), .string (S sep)] w fun e w' => e = .returned (.bool (!decide ((splG sep l).length ≤ 1))) ∧ w' = w := by
  obtain ⟨m, hm⟩ := hE.most
  have h := Tryd.strings_Contains (S l) (S sep) m w (by rw [S_size]; omega) hm
  rw [show (S l).data.toList = l from rfl, show (S sep).data.toList = sep from rfl, contains_spl sep h0] at h
  exact h
/-- strings.HasPrefix and strings.HasSuffix at a hyphen. -/
theorem cPrefix (l : List UInt8) (w : World) :
    Calls Tryd.prog 70 #[.string (S l), .string ⟨#[45]⟩] w fun e w' => e = .returned (.bool (decide (l.getD 0 0 = 45))) ∧ w' = w := by
  have h := Tryd.strings_HasPrefix (S l) (S [45]) w
  rw [show (S l).data.toList = l from rfl, show (S [45]).data.toList = [45] from rfl, prefix_one 45 (by decide)] at h
  exact h
theorem cSuffix (l : List UInt8) (hz : l.length ≤ 1000000) (w : World) :
    Calls Tryd.prog 71 #[.string (S l), .string ⟨#[45]⟩] w fun e w' => e = .returned (.bool (decide (l.getD (l.length - 1) 0 = 45))) ∧ w' = w := by
  have h := Tryd.strings_HasSuffix (S l) (S [45]) w (by rw [S_size]; omega)
  rw [show (S l).data.toList = l from rfl, show (S [45]).data.toList = [45] from rfl, suffix_one 45 (by decide)] at h
  exact h
/-- strings.Cut at a hyphen. -/
theorem cCut (l : List UInt8) (hz : l.length ≤ 1000000) (a b : List UInt8) (t : Bool) (h : Lib.cut l [45] = (a, b, t)) (w : World) (hE : Env w) :
    Calls Tryd.prog 75 #[.string (S l), .string ⟨#[45]⟩] w fun e w' => e = .returned (.tuple #[.string (S a), .string (S b), .bool t]) ∧ Below w.heap.size w w' := by
  obtain ⟨m, hm⟩ := hE.most
  refine (Tryd.strings_Cut (S l) (S [45]) m w (by rw [S_size]; omega) hm).mono fun e w' hh => ?_
  obtain ⟨he, n, rfl⟩ := hh
  refine ⟨?_, drewN_below w n⟩
  rw [he, show (S l).data.toList = l from rfl, show (S [45]).data.toList = [45] from rfl, h]
  rfl
end

end Go.Proofs.YtjfbbpppdlaapaaDoor
