/- Merged: RWords, R12B, Plain12D, R12C, Env12. -/
import Derived.Test.YthjdopnoophigaaGreatDoorQ15
import Derived.Test.YthjdopnoophigaaGreatDoorQ13
import Derived.Test.YthjdopnoophigaaGreatDoorQ03
import Derived.Test.YthjdopnoophigaaGreatDoorQ10
import Derived.RegionTactic
import Derived.BigRegion
import Derived.Deep.RegionLaw
import Derived.Deep.Cut
import Derived.Deep.CutRange
import Derived.Test.YthjdopnoophigaaGreatDoorQ02
import Derived.Test.YthjdopnoophigaaGreatDoorShelf
import Derived.Test.YthjdopnoophigaaGreatDoorQ12
import Derived.Test.YthjdopnoophigaaGreatDoorQ14
import Derived.Test.YthjdopnoophigaaGreatDoorQ07
import Derived.Lib.LaidTab
namespace Go.Proofs.YthjdopnoophigaaGreatDoor

section
open Go.RowKit
/-- What the loop of the reference's Words has at place k. -/
def RAt (fs : List Nat) (k B : Nat) (v wd : Value) (w : World) : Prop := Strs B v (wst (fs.take k)).1 w ∧ wd = .string (T (wst (fs.take k)).2)
end

section
open Go.RowKit Go.PlainAid
theorem BL.at12 {v : Value} {L : List (List UInt8)} {w : World} (h : BL v L w) (k : Nat) (hk : k < L.length) : ∃ g o cap, v = .slice (some ⟨g, o, none⟩) L.length cap ∧ g < w.heap.size ∧ w.cell? ⟨g, o + k, none⟩ = some (.string (S (L.getD k []))) := by
  obtain ⟨a, cap, rfl, _, _, _, hx⟩ := h
  obtain ⟨g, o, rfl, h1, h2⟩ := hx k hk
  exact ⟨g, o, cap, rfl, h1, h2⟩
theorem SR.mono {B B' : Nat} {v : Value} {L : List (List UInt8)} {w : World} (h : SR B' v L w) (hB : B ≤ B') : SR B v L w := by
  refine ⟨⟨h.row.1, ?_⟩, h.nn⟩
  rcases h.row.2 with hn | ⟨g, cap, cur, hv, hB', rest⟩
  · exact .inl hn
  · exact .inr ⟨g, cap, cur, hv, Nat.le_trans hB hB', rest⟩
theorem nonE_snoc (L : List (List UInt8)) (x : List UInt8) : nonE (L ++ [x]) = if x = [] then nonE L else nonE L ++ [x] := by
  unfold nonE
  rw [List.filter_append]
  by_cases h : x = []
  · rw [if_pos h]; simp [h]
  · rw [if_neg h]; simp [h]
theorem map_take_snoc (f : List UInt8 → List UInt8) (L : List (List UInt8)) (k : Nat) (h : k < L.length) : (L.take (k + 1)).map f = (L.take k).map f ++ [f (L.getD k [])] := by
  rw [List.take_succ_eq_append_getElem h, List.map_append, List.getD_eq_getElem?_getD, List.getElem?_eq_getElem h]
  rfl
theorem nonE_le (L : List (List UInt8)) : (nonE L).length ≤ L.length := List.length_filter_le _ _
theorem mem_getD12 (L : List (List UInt8)) (k : Nat) (h : k < L.length) : L.getD k [] ∈ L := by
  rw [List.getD_eq_getElem?_getD, List.getElem?_eq_getElem h]
  exact List.getElem_mem h
theorem spl_len (sep : List UInt8) : ∀ (n : Nat) (l : List UInt8), l.length ≤ n → (splG sep l).length ≤ l.length + 1
  | _, [], _ => by rw [spl_nil]; simp
  | 0, c :: t, h => by simp at h
  | n + 1, c :: t, h => by
    by_cases h0 : sep ≠ [] ∧ sep.isPrefixOf (c :: t) = true
    · have hp := List.length_pos_iff.2 h0.1
      have := spl_len sep n ((c :: t).drop sep.length) (by rw [List.length_drop]; omega)
      rw [spl_hit sep _ h0.1 h0.2]
      rw [List.length_drop] at this
      simp only [List.length_cons] at this ⊢
      omega
    · have ih := spl_len sep n t (by simpa using h)
      rw [splG, dif_neg h0]
      cases e : splG sep t with
      | nil => simp [addH]
      | cons p r =>
        rw [e] at ih
        simp only [addH, List.length_cons] at ih ⊢
        omega
theorem spl_mem (sep : List UInt8) : ∀ (n : Nat) (l : List UInt8), l.length ≤ n → ∀ x ∈ splG sep l, x.length ≤ l.length
  | _, [], _ => by
    rw [spl_nil]
    intro x hx
    rw [List.mem_singleton.1 hx]
    exact Nat.le_refl _
  | 0, c :: t, h => by simp at h
  | n + 1, c :: t, h => by
    by_cases h0 : sep ≠ [] ∧ sep.isPrefixOf (c :: t) = true
    · have hp := List.length_pos_iff.2 h0.1
      have ih := spl_mem sep n ((c :: t).drop sep.length) (by rw [List.length_drop]; omega)
      rw [spl_hit sep _ h0.1 h0.2]
      intro x hx
      rcases List.mem_cons.1 hx with rfl | hx
      · exact Nat.zero_le _
      · have := ih x hx
        rw [List.length_drop] at this
        omega
    · have ih := spl_mem sep n t (by simpa using h)
      rw [splG, dif_neg h0]
      intro x hx
      cases e : splG sep t with
      | nil =>
        rw [e] at hx
        rw [List.mem_singleton.1 hx]
        simp
      | cons p r =>
        rw [e] at hx ih
        rcases List.mem_cons.1 hx with rfl | hx
        · have := ih p (by simp)
          simp only [List.length_append, List.length_cons, List.length_nil]
          omega
        · have := ih x (by simp [hx])
          simp only [List.length_cons]
          omega
/-- libraryref01.Clean of a text. -/
theorem refCleanS_any (x : List UInt8) (hx : ∃ c1, OKs c1 ∧ x = enc c1) (hz : x.length ≤ 1000000) (w : World) :
    Calls Tryz.prog 97 #[.string (S x)] w fun e w' => e = .returned (.string (S (cleanX x))) ∧ Below w.heap.size w w' := by
  obtain ⟨c1, h1, rfl⟩ := hx
  exact refClean_any c1 h1 _ _ rfl (by rw [T_size]; exact hz) (by rw [cleanX_enc c1 h1]; rfl) w
set_option maxHeartbeats 16000000 in
set_option maxRecDepth 100000 in
theorem refParts_any (l : List UInt8) (hv : validT l = true) (hl : l.length ≤ 100000) (w : World) :
    Calls Tryz.prog 72 #[.string (S l)] w fun e w' => ∃ v, e = .returned v ∧ SR w.heap.size v (partsX l) w' ∧ Below w.heap.size w w' := by
  obtain ⟨Q, hQ⟩ : ∃ Q, (fun (e : Ending) (w' : World) => ∃ v, e = .returned v ∧ SR w.heap.size v (partsX l) w' ∧ Below w.heap.size w w') = Q := ⟨_, rfl⟩
  rw [hQ]
  have HQ : RowKit.Hid (∀ v W, SR w.heap.size v (partsX l) W → Below w.heap.size w W → Q (.returned v) W) := by rw [← hQ]; exact fun v W h k => ⟨v, rfl, h, k⟩
  clear hQ
  have cS := Lib.hid (refSplit_any dd l (by decide) (by decide) (by omega) w)
  have hpv : ∀ x ∈ splG dd l, ∃ c1, OKs c1 ∧ x = enc c1 := by
    obtain ⟨cs, hcs, rfl⟩ := validT_text l hv
    exact spl_valid dd dd_ascii _ cs (Nat.le_refl _) hcs
  have hpl := spl_mem dd l.length l (Nat.le_refl _)
  have hpn := spl_len dd l.length l (Nat.le_refl _)
  unfold partsX at HQ
  obtain ⟨P, hP⟩ : ∃ P, splG dd l = P := ⟨_, rfl⟩
  rw [hP] at cS hpv hpl hpn HQ
  have HC := Lib.hid (fun k (hk : k < P.length) W => refCleanS_any (P.getD k []) (hpv _ (mem_getD12 P k hk)) (Nat.le_trans (hpl _ (mem_getD12 P k hk)) (by omega)) W)
  have HSt := Lib.hid (fun k (hk : k < P.length) => map_take_snoc cleanX P k hk)
  have edd : S dd = ⟨#[45, 45]⟩ := rfl
  rw [edd] at cS
  obtain ⟨n, hn⟩ : ∃ n, P.length = n := ⟨_, rfl⟩
  rw [hn] at HC HSt hpn
  have HN := Lib.hid hn
  have hn9 : n ≤ 100001 := by omega
  clear hP hpv hpl hpn edd hl hv hn
  generalize S l = st at *
  go_enter Tryz.func72, Tryz.ntmps72
  go_wp2_with fail
  refine cS.out.mono ?_
  rintro e w1 ⟨v, rfl, hr1, hb1⟩
  obtain ⟨gp, cpp, rfl⟩ := sr_form hr1
  have HP := Lib.hid hr1.bl
  have HB1 := Lib.hid hb1
  have hrow0 := SR.empty w1
  have hbw0 : Below w1.heap.size w1 (w1.alloc (.cells #[] 9)) := (Below.refl _ _).alloc (Nat.le_refl _) _
  have HR0 := Lib.hid hrow0
  have HBw0 := Lib.hid hbw0
  rw [HN.out]
  rw [HN.out] at HP
  clear hr1 hb1 hrow0 hbw0 cS
  go_wp2
  go_loopw [4, 5] (fun v4 v5 wr => ∃ (k g cp d : Nat) (D : List (List UInt8)), v4 = .slice (some ⟨g, 0, none⟩) d cp ∧ v5 = .int .i64 (k : Int) ∧ k ≤ n ∧ D.length = d ∧ d ≤ k ∧ RowKit.Hid (D = nonE ((P.take k).map cleanX)) ∧ RowKit.Hid (SR w1.heap.size (.slice (some ⟨g, 0, none⟩) d cp) D wr) ∧ RowKit.Hid (Below w1.heap.size w1 wr)) (fun _ v5 _ => n - (intOf v5).toNat)
  case atStart => exact ⟨0, _, _, _, [], rfl, rfl, by omega, rfl, by omega, rfl, HR0, HBw0⟩
  case round =>
    obtain ⟨k, g, cp, d, D, rfl, rfl, hk, hDd, hdk, HD, HR, HB⟩ := hrel
    clear HR0 HBw0
    by_cases hkn : k < n
    · have i1 : (0 : Int) ≤ (k : Int) := by omega
      have i2 : (k : Int) < (n : Int) := by omega
      obtain ⟨g2, o2, cap2, he, hg, c0⟩ := (HP.out.after HB.out).at12 k (by rw [HN.out]; exact hkn)
      obtain ⟨ha, -, hcp⟩ := Value.slice.inj he
      obtain ⟨rfl, rfl, -⟩ := Addr.mk.inj (Option.some.inj ha)
      subst hcp
      rw [Nat.zero_add] at c0
      clear he ha
      have cC := Lib.hid (HC.out k hkn wr)
      have hst := HSt.out k hkn
      obtain ⟨p, hp⟩ : ∃ p, P.getD k [] = p := ⟨_, rfl⟩
      rw [hp] at c0 cC hst
      obtain ⟨y, hy⟩ : ∃ y, cleanX p = y := ⟨_, rfl⟩
      rw [hy] at cC hst
      have HSt2 := Lib.hid hst
      clear hp hy hst
      generalize S p = sp at *
      go_wp2_with fail
      refine cC.out.mono ?_
      rintro e w2 ⟨rfl, hb2⟩
      have HB2 : RowKit.Hid (Below w1.heap.size w1 w2) := HB.out.trans (hb2.mono HB.out.size)
      have HR2 := Lib.hid (HR.out.after hb2)
      clear hb2 cC c0
      by_cases h0 : y = []
      · subst h0
        have e0 : S [] = (⟨#[]⟩ : ByteArray) := rfl
        rw [e0]
        have HD2 : RowKit.Hid (D = nonE ((P.take (k + 1)).map cleanX)) := by
          unfold RowKit.Hid
          rw [HSt2.out, nonE_snoc, if_pos rfl]
          exact HD.out
        go_wp2
        go_roundw
        case rel => exact ⟨k + 1, g, cp, d, D, by first | rfl | trivial, by go_num, by omega, hDd, by omega, HD2, HR2, HB2⟩
        case measure => simp [intOf]; omega
      · obtain ⟨s1, s2⟩ := S_facts y h0
        have HD2 : RowKit.Hid (D ++ [y] = nonE ((P.take (k + 1)).map cleanX)) := by
          unfold RowKit.Hid
          rw [HSt2.out, nonE_snoc, if_neg h0, HD.out]
        have hsz := HB2.out.size
        clear h0
        go_wp2_with (at_builtin; go_loud (refine append_sr _ rfl _ _ rfl w1.heap.size (.slice (some ⟨g, 0, none⟩) d cp) D y rfl HR2.out rfl (by omega) hsz w1.heap.size w1 (Nat.le_refl _) HB2.out ?_))
        intro v2 w3 hr3 hb3
        (try intro _)
        obtain ⟨g3, cp3, rfl⟩ := sr_form hr3
        have hl3 : (D ++ [y]).length = d + 1 := by rw [List.length_append, hDd]; rfl
        have HL3 := Lib.hid hl3
        rw [hl3] at hr3 ⊢
        have HR3 := Lib.hid hr3
        have HB3 := Lib.hid hb3
        clear hr3 hb3 hl3 s1 s2
        go_wp2
        go_roundw
        case rel => exact ⟨k + 1, g3, cp3, d + 1, D ++ [y], by first | rfl | trivial, by go_num, by omega, HL3.out, by omega, HD2, HR3, HB3⟩
        case measure => simp [intOf]; omega
    · obtain rfl : k = n := by omega
      have hD := HD.out
      have ht : P.take k = P := by rw [← HN.out, List.take_length]
      rw [ht] at hD
      subst hD
      have HRf := Lib.hid (HR.out.mono HB1.out.size)
      have HBf := Lib.hid (HB1.out.trans (HB.out.mono HB1.out.size))
      clear ht HD
      go_wp2
      first | exact HQ.out _ _ HRf.out HBf.out | (go_ret; exact HQ.out _ _ HRf.out HBf.out)
end

section
open Go.Lib
def sumF (f : List UInt8 → Nat) (L : List (List UInt8)) : Nat := (L.map f).sum
theorem sumF_cons (f : List UInt8 → Nat) (x : List UInt8) (L : List (List UInt8)) : sumF f (x :: L) = f x + sumF f L := by simp [sumF]
theorem sumF_filter (f : List UInt8 → Nat) (p : List UInt8 → Bool) : ∀ L : List (List UInt8), sumF f (L.filter p) ≤ sumF f L
  | [] => Nat.le_refl _
  | x :: L => by
    have ih := sumF_filter f p L
    rw [List.filter_cons]
    split
    · rw [sumF_cons, sumF_cons]; omega
    · rw [sumF_cons]; omega
theorem sumF_map (f : List UInt8 → Nat) (g : List UInt8 → List UInt8) (L : List (List UInt8)) : sumF f (L.map g) = sumF (fun x => f (g x)) L := by
  simp [sumF, Function.comp_def]
theorem sumF_le (f g : List UInt8 → Nat) (k : Nat) : ∀ L : List (List UInt8), (∀ x ∈ L, f x ≤ k * g x) → sumF f L ≤ k * sumF g L
  | [], _ => by simp [sumF]
  | x :: L, h => by
    have h1 := h x (by simp)
    have ih := sumF_le f g k L (fun y hy => h y (by simp [hy]))
    rw [sumF_cons, sumF_cons, Nat.mul_add]
    omega
theorem spl_sum (sep : List UInt8) : ∀ (n : Nat) (l : List UInt8), l.length ≤ n → sumF (fun x => x.length + 1) (splG sep l) ≤ l.length + 1
  | _, [], _ => by rw [spl_nil]; simp [sumF]
  | 0, c :: t, h => by simp at h
  | n + 1, c :: t, h => by
    by_cases h0 : sep ≠ [] ∧ sep.isPrefixOf (c :: t) = true
    · have hp := List.length_pos_iff.2 h0.1
      have := spl_sum sep n ((c :: t).drop sep.length) (by rw [List.length_drop]; omega)
      rw [spl_hit sep _ h0.1 h0.2, sumF_cons]
      rw [List.length_drop] at this
      simp only [List.length_cons, List.length_nil] at this ⊢
      omega
    · have ih := spl_sum sep n t (by simpa using h)
      rw [splG, dif_neg h0]
      cases e : splG sep t with
      | nil => simp [addH, sumF]
      | cons p r =>
        rw [e, sumF_cons] at ih
        simp only [addH, sumF_cons, List.length_cons, List.length_append, List.length_nil] at ih ⊢
        omega
theorem glu_sum (sep : List UInt8) : ∀ L : List (List UInt8), (gluX sep L).length ≤ sumF (fun x => x.length + sep.length) L
  | [] => by simp [gluX]
  | [x] => by
    show x.length ≤ _
    rw [sumF_cons]
    omega
  | x :: y :: r => by
    have ih := glu_sum sep (y :: r)
    rw [sumF_cons]
    show (x ++ sep ++ gluX sep (y :: r)).length ≤ _
    rw [List.length_append, List.length_append]
    omega
/-- Cleaning makes no text longer. -/
theorem clean_run_le (cs : List Nat) : (cleanRun cs).1.length + (if (cleanRun cs).2 = true then 1 else 0) ≤ cs.length := by
  refine snoc_ind (p := fun cs => (cleanRun cs).1.length + (if (cleanRun cs).2 = true then 1 else 0) ≤ cs.length) ?_ ?_ cs
  · simp [cleanRun]
  · intro l c ih
    rw [cleanRun_snoc]
    revert ih
    generalize cleanRun l = st
    obtain ⟨o, b⟩ := st
    intro ih
    unfold cleanStep
    rw [List.length_append]
    cases b <;> by_cases hb : blankc c = true <;> by_cases ho : o = [] <;> simp_all <;> omega
theorem clean_tight (cs : List Nat) : (cleanL cs).length ≤ cs.length := by
  have := clean_run_le cs
  unfold cleanL
  omega
theorem norm_len (l : List UInt8) (h : validT l = true) : (normX l).length ≤ 8 * (l.length + 1) := by
  obtain ⟨cs, hcs, rfl⟩ := validT_text l h
  refine Nat.le_trans (glu_sum dd _) ?_
  unfold normL partsX nonE
  refine Nat.le_trans (sumF_filter _ _ _) ?_
  rw [sumF_map]
  refine Nat.le_trans (sumF_filter _ _ _) ?_
  rw [sumF_map]
  refine Nat.le_trans (sumF_le _ (fun x => x.length + 1) 8 _ ?_) (Nat.mul_le_mul_left 8 (spl_sum dd _ _ (Nat.le_refl _)))
  intro x hx
  obtain ⟨c1, hc1, rfl⟩ := spl_valid dd dd_ascii _ cs (Nat.le_refl _) hcs x hx
  rw [cleanX_enc c1 hc1, wordX_enc _ (clean_OK c1 hc1)]
  have h1 := clean_tight c1
  have h2 := len_le c1
  rw [T_size] at h2
  have h3 := W_total (cleanL c1)
  have h4 := join_total (W (cleanL c1))
  have h5 := enc_le (joinL (W (cleanL c1)))
  have h6 : dd.length = 2 := rfl
  omega
end

section
open Go.RowKit Go.PlainAid
theorem row_bl {B : Nat} {v : Value} {L : List (List UInt8)} {w : World} (h : w.ownsRow B 9 1 v L.length (L.map strB)) : BL v L w := by
  rcases h.2 with ⟨rfl, h0⟩ | ⟨g, cap, cur, rfl, hg0, hg, hc, hm, hsz, ht⟩
  · have : L = [] := List.eq_nil_of_length_eq_zero h0
    subst this
    exact ⟨none, 0, rfl, Nat.le_refl _, Nat.zero_le _, fun _ => rfl, fun i hi => by cases hi⟩
  · refine ⟨_, cap, rfl, hc, hm, (fun h => by cases h), fun i hi => ⟨g, 0, rfl, (Array.getElem?_eq_some_iff.1 hg).1, ?_⟩⟩
    have := h.cells (g := g) rfl i (strB (L.getD i [])) (by rw [List.getElem?_map, List.getElem?_eq_getElem hi, List.getD_eq_getElem?_getD, List.getElem?_eq_getElem hi]; rfl)
    have hadd : (⟨g, 0, none⟩ : Addr).add i = ⟨g, i, none⟩ := by unfold Addr.add; split <;> simp_all
    rw [hadd] at this
    rw [Nat.zero_add]
    exact this
theorem strs_bl {B : Nat} {v : Value} {ws : List (List Nat)} {w : World} (h : Strs B v ws w) : BL v (ws.map enc) w := by
  refine row_bl (B := B) ?_
  rw [List.length_map, List.map_map]
  exact h
theorem glu_words (ws : List (List Nat)) : gluX [32] (ws.map enc) = enc (joinL ws) := by
  refine snoc_ind2 (p := fun ws => gluX [32] (ws.map enc) = enc (joinL ws)) ?_ ?_ ws
  · rfl
  · intro l x ih
    rw [List.map_append, List.map_cons, List.map_nil, glu_snoc, joinL_snoc]
    by_cases h : l = []
    · subst h
      rfl
    · rw [if_neg (by simpa using h), if_neg h, ih, enc_append, enc_append]
      rfl
theorem word_le : ∀ (ws : List (List Nat)) (x : List Nat), x ∈ ws → x.length ≤ total ws
  | [], x, hx => by cases hx
  | y :: t, x, hx => by
    have e : total (y :: t) = y.length + 1 + total t := by simp [total]
    rw [e]
    rcases List.mem_cons.1 hx with rfl | hx
    · omega
    · have := word_le t x hx
      omega
theorem parts_len (l : List UInt8) (h : validT l = true) : ∀ x ∈ partsX l, ∃ c1, OKs c1 ∧ x = enc c1 ∧ c1.length ≤ l.length := by
  obtain ⟨cs, hcs, rfl⟩ := validT_text l h
  intro x hx
  obtain ⟨hx, hne⟩ := nonE_mem hx
  obtain ⟨y, hy, rfl⟩ := List.mem_map.1 hx
  have hyl := spl_mem dd _ _ (Nat.le_refl _) y hy
  obtain ⟨c1, hc1, rfl⟩ := spl_valid dd dd_ascii _ cs (Nat.le_refl _) hcs y hy
  rw [cleanX_enc c1 hc1]
  refine ⟨cleanL c1, clean_OK c1 hc1, rfl, ?_⟩
  have h1 := clean_tight c1
  have h2 := len_le c1
  rw [T_size] at h2
  omega
end

section
open Go.RowKit
structure Env (w : World) : Prop where
  tabs : Tabs w
  acc : Acc w
  most : ∃ m, w.cell? ⟨1, 0, none⟩ = some (.int .i64 m)
  pows : Lib.TabIs Tryz.prog w "internal/strconv.uint64pow10" .u64 Lib.pow10Tab
  std : ST w
theorem tabIs_below {w w' : World} {n : String} {k : IntKind} {zs : List Int} (h : Lib.TabIs Tryz.prog w n k zs) (hb : Below w.heap.size w w') : Lib.TabIs Tryz.prog w' n k zs := by
  unfold Lib.TabIs World.var? at *
  cases hg : Tryz.prog.globalNamed n with
  | none => simp [hg] at h
  | some g =>
    simp only [hg, Option.bind_some] at h ⊢
    have hlt : g < w.heap.size := by
      rcases Nat.lt_or_ge g w.heap.size with h' | h'
      · exact h'
      · rw [Array.getElem?_eq_none h'] at h; simp at h
    rw [hb.block g hlt]
    exact h
theorem cell_below {w w' : World} {g : Nat} {v : Value} (h : w.cell? ⟨g, 0, none⟩ = some v) (hb : Below w.heap.size w w') : w'.cell? ⟨g, 0, none⟩ = some v := by
  have hlt : g < w.heap.size := by
    rcases Nat.lt_or_ge g w.heap.size with h' | h'
    · exact h'
    · simp [World.cell?, Array.getElem?_eq_none h'] at h
  exact (hb.cell (p := ⟨g, 0, none⟩) hlt).trans h
theorem Env.after {w w' : World} (h : Env w) (hb : Below w.heap.size w w') : Env w' := by
  obtain ⟨h1, h2, ⟨m, hm⟩, h4, h5⟩ := h
  exact ⟨h1.after hb, h2.after hb, ⟨m, cell_below hm hb⟩, tabIs_below h4 hb, h5.after hb⟩
theorem drewN_below (w : World) (n : Nat) : Below w.heap.size w (w.drewN n) := ⟨rfl, rfl, rfl, Nat.le_refl _, fun _ _ => rfl⟩
/-- A slice of texts of the call's own, nil at first. -/
def NR (B : Nat) (v : Value) (L : List (List UInt8)) (w : World) : Prop := w.ownsRow B 9 1 v L.length (L.map strB)
theorem NR.after {B : Nat} {v : Value} {L : List (List UInt8)} {w w' : World} (h : NR B v L w) (hb : Below w.heap.size w w') : NR B v L w' := own_after h hb
theorem NR.none (B : Nat) (w : World) : NR B (.slice none 0 0) [] w := ⟨rfl, .inl ⟨rfl, rfl⟩⟩
theorem NR.bl {B : Nat} {v : Value} {L : List (List UInt8)} {w : World} (h : NR B v L w) : BL v L w := row_bl h
/-- append of one text that has just been laid to such a row. -/
theorem append_nr {ops : Array Oper} {rest : List Oper} {o : Oper} {a : Act} {Q : Exit → Act → World → Prop} (w : World) (hgd : o.guard = none) (s x : Operand)
    (ho : o.op = .call { callee := .builtin .append, args := #[s, x], argTypes := #[54, 54] })
    (B : Nat) (v : Value) (L : List (List UInt8)) (y : List UInt8) (hs : a.eval s = v) (h : NR B v L w) (hx : a.eval x = .slice (some ⟨w.heap.size, 0, none⟩) 1 1) (hz : L.length ≤ 10000000) (hB : B ≤ w.heap.size)
    (N : Nat) (W1 : World) (hNB : N ≤ B) (hb : Below N W1 w)
    (hk : ∀ v' w', NR B v' (L ++ [y]) w' → Below N W1 w' → B ≤ w'.heap.size → wpList Tryz.prog ops Q rest (a.put o.dst v') w') : wpList Tryz.prog ops Q (o :: rest) a (w.alloc (.cells #[strB y] 9)) := by
  obtain ⟨i0, hi, hz0, hz1, hz2⟩ := info_string
  have hrow := World.ownsRow.alloc h (.cells #[strB y] 9)
  refine wpList_append_own _ hgd s x 54 ho B 9 i0 (.string ⟨#[]⟩) 1 16 Tryz.underlying54 hi hz0 hz1 hz2 rfl (by decide) v L.length _ hs hrow ⟨w.heap.size, 0, none⟩ 1 1 [strB y] hx rfl (cells_one12 _ _ _) (by intro u hu; simp at hu; subst hu; rfl) (by unfold maxLen; omega) (by omega) (by simp; omega) ?_
  intro v2 w2 hown2 hg2 hn2
  refine hk v2 w2 (by unfold NR; rw [List.length_append, List.map_append]; exact hown2) ?_ (Nat.le_trans (by simp; omega) hg2.size)
  exact (hb.alloc (by omega) _).grown hg2 (by simp; omega) (fun j hj => Nat.le_trans hNB (hrow.lt j hj).1)

/-- text.Valid. -/
theorem cValid (l : List UInt8) (hz : l.length ≤ 1000000) (b : Bool) (hb : validT l = b) (w : World) (hE : Env w) :
    Calls Tryz.prog 115 #[.string (S l)] w fun e w' => e = .returned (.bool b) ∧ Below w.heap.size w w' :=
  valid_is (S l) b hb (by rw [S_size]; omega) w hE.tabs
/-- text.Clean of a text. -/
theorem cClean (x : List UInt8) (hx : ∃ c1, OKs c1 ∧ x = enc c1) (hz : x.length ≤ 1000000) (w : World) :
    Calls Tryz.prog 130 #[.string (S x)] w fun e w' => e = .returned (.string (S (cleanX x))) ∧ Below w.heap.size w w' := by
  obtain ⟨c1, h1, rfl⟩ := hx
  have hl := len_le c1
  rw [T_size] at hl
  exact clean_is _ _ c1 h1 rfl (by omega) (by rw [cleanX_enc c1 h1]; rfl) w
/-- text.Words of a part. -/
theorem cWords (x : List UInt8) (m : Nat) (hm : m ≤ 10000) (hx : ∃ c1, OKs c1 ∧ x = enc c1 ∧ c1.length ≤ m) (w : World) (hE : Env w) :
    Calls Tryz.prog 150 #[.string (S x)] w fun e w' => ∃ v L, e = .returned v ∧ BL v L w' ∧ Below w.heap.size w w' ∧ gluX [32] L = wordX x ∧ (∀ y ∈ L, y.length ≤ 100000) ∧ L.length ≤ 100000 ∧ (wordX x).length ≤ 100000 ∧ (L = [] ↔ wordX x = []) := by
  obtain ⟨c1, h1, rfl, hl⟩ := hx
  refine (words_any c1 h1 _ rfl (by omega) w hE.acc).mono ?_
  rintro e w' ⟨v, rfl, hs, hb⟩
  have ht := W_total c1
  refine ⟨v, (W c1).map enc, rfl, strs_bl hs, hb, by rw [glu_words, wordX_enc c1 h1], ?_, ?_, ?_, ?_⟩
  · intro y hy
    obtain ⟨z, hz, rfl⟩ := List.mem_map.1 hy
    have h2 := word_le _ z hz
    have h3 := enc_le z
    omega
  · rw [List.length_map]
    have := len_total (W c1)
    omega
  · rw [wordX_enc c1 h1]
    have h2 := join_total (W c1)
    have h3 := enc_le (joinL (W c1))
    omega
  · rw [wordX_enc c1 h1, List.map_eq_nil_iff]
    constructor
    · intro h
      rw [h]
      rfl
    · intro h
      by_cases h0 : W c1 = []
      · exact h0
      · have h2 := join_ne (W c1) (fun x hx => (W_words c1 x hx).1) h0
        have h3 := len_le (joinL (W c1))
        rw [T_size, h] at h3
        have := List.length_pos_iff.2 h2
        simp at h3
        exact absurd h3 h2
theorem row_of (w w' : World) (P : List (List UInt8)) (N : Nat) (X : Array Value) (hn : P.length ≤ N) (hN : N ≤ maxLen) (hX : ∀ i, i < P.length → X[i]? = some (strB (P.getD i []))) (hw : w' = w.alloc (.cells X 9)) :
    BL (.slice (some ⟨w.heap.size, 0, none⟩) P.length N) P w' := by
  subst hw
  have hbk := heap_alloc_new w (.cells X 9)
  refine ⟨_, _, rfl, hn, hN, (fun h => by cases h), fun i hi => ⟨w.heap.size, 0, rfl, (Array.getElem?_eq_some_iff.1 hbk).1, ?_⟩⟩
  rw [Lib.cell_of_heap hbk, Nat.zero_add]
  exact hX i hi
theorem spl_le12 (sep l : List UInt8) : (splG sep l).length ≤ l.length + 1 := spl_len sep l.length l (Nat.le_refl _)
/-- strings.Split. -/
theorem cSplit (l sep : List UInt8) (h0 : sep ≠ []) (hz : l.length ≤ 1000000) (w : World) (hE : Env w) :
    Calls Tryz.prog 129 #[.string (S l), .string (S sep)] w fun e w' => ∃ g cp, e = .returned (.slice (some ⟨g, 0, none⟩) (splG sep l).length cp) ∧ BL (.slice (some ⟨g, 0, none⟩) (splG sep l).length cp) (splG sep l) w' ∧ Below w.heap.size w w' := by
  obtain ⟨m, hm⟩ := hE.most
  refine (Tryz.strings_Split (S l) (S sep) m w (by rw [S_size]; omega) hm (by rw [S_size]; exact List.length_pos_iff.2 h0)).mono fun e w' hh => ?_
  obtain ⟨rfl, hw⟩ := hh
  have hd : (Lib.splitB (S sep) 0 (Lib.countB (S l) (S sep)) (S l)).map (·.data.toList) = splG sep l := (Lib.splitB_data (S sep) 0 _ (S l)).trans (split_spl sep h0 l)
  have hlen : Lib.countB (S l) (S sep) + 1 = (splG sep l).length := (countFrom_spl sep h0 (l.length + 1) l (by omega)).symm
  have hle := spl_le12 sep l
  have hP : (Lib.splitB (S sep) 0 (Lib.countB (S l) (S sep)) (S l)).map Value.string = (splG sep l).map strB := by
    rw [← hd, List.map_map]
    rfl
  rw [hlen, hw]
  refine ⟨w.heap.size, _, rfl, row_of w _ (splG sep l) _ _ (Nat.le_refl _) (by unfold maxLen; omega) (fun i hi => ?_) rfl, (Below.refl _ _).alloc (Nat.le_refl _) _⟩
  rw [hP]
  simp [List.getD_eq_getElem?_getD, List.getElem?_eq_getElem hi]
/-- strings.SplitN. -/
theorem cSplitN (l sep : List UInt8) (n : Nat) (hn : 1 ≤ n) (hn2 : n ≤ 100) (h0 : sep ≠ []) (hz : l.length ≤ 1000000) (w : World) (hE : Env w) :
    Calls Tryz.prog 125 #[.string (S l), .string (S sep), .int .i64 n] w fun e w' => ∃ (P : List (List UInt8)) (g cp : Nat), e = .returned (.slice (some ⟨g, 0, none⟩) P.length cp) ∧ BL (.slice (some ⟨g, 0, none⟩) P.length cp) P w' ∧ Below w.heap.size w w' ∧ ((splG sep l).length ≤ n → P = splG sep l) ∧ (n < (splG sep l).length → P.length = n) := by
  obtain ⟨m, hm⟩ := hE.most
  refine (Tryz.strings_SplitN (S l) (S sep) n m w (by rw [S_size]; omega) hm (by rw [S_size]; exact List.length_pos_iff.2 h0) hn (by omega)).mono fun e w' hh => ?_
  obtain ⟨rfl, hw⟩ := hh
  rw [S_size] at hw ⊢
  have hd : (Lib.splitB (S sep) 0 (min n (l.length + 1) - 1) (S l)).map (·.data.toList) = Lib.splitN l sep n := Lib.splitB_data (S sep) 0 _ (S l)
  have hle := Lib.splitB_length_le (S sep) 0 (min n (l.length + 1) - 1) (S l)
  obtain ⟨h1, h2⟩ := splitN_spl sep h0 l n hn (spl_le12 sep l)
  have hlen : (Lib.splitB (S sep) 0 (min n (l.length + 1) - 1) (S l)).length = (Lib.splitN l sep n).length := by rw [← hd, List.length_map]
  have hP : (Lib.splitB (S sep) 0 (min n (l.length + 1) - 1) (S l)).map Value.string = (Lib.splitN l sep n).map strB := by
    rw [← hd, List.map_map]
    rfl
  rw [hlen] at hle ⊢
  rw [hw]
  refine ⟨Lib.splitN l sep n, w.heap.size, _, rfl, row_of w _ _ _ _ (by omega) (by unfold maxLen; omega) (fun i hi => ?_) rfl, (Below.refl _ _).alloc (Nat.le_refl _) _, h1, h2⟩
  unfold Lib.cellsOf
  rw [hP]
  simp only [List.getElem?_toArray]
  rw [List.getElem?_append_left (by rw [List.length_map]; exact hi)]
  simp [List.getD_eq_getElem?_getD, List.getElem?_eq_getElem hi]
/-- strings.Join. -/
theorem cJoin (sep : List UInt8) (v : Value) (L : List (List UInt8)) (w : World) (hv : BL v L w) (hs : sep.length ≤ 100) (m : Nat) (hm : m ≤ 1000000) (hL : ∀ x ∈ L, x.length ≤ m) (hn : L.length ≤ 1000000) :
    Calls Tryz.prog 53 #[v, .string (S sep)] w fun e w' => e = .returned (.string (S (gluX sep L))) ∧ Below w.heap.size w w' := by
  have hjs := glu_le sep m hs L hL
  have hmul : (m + 100) * L.length ≤ 1000100 * 1000000 := Nat.mul_le_mul (by omega) hn
  obtain ⟨a, cap, rfl, hcap, hmax, hn0, hcell⟩ := hv
  by_cases h0 : L.length = 0
  · have : L = [] := List.eq_nil_of_length_eq_zero h0
    subst this
    refine (Tryz.strings_Join_none a cap (S sep) w).mono fun e w' hh => ?_
    obtain ⟨he, rfl⟩ := hh
    exact ⟨he, Below.refl _ _⟩
  · obtain ⟨g, o, rfl, hg, _⟩ := hcell 0 (by omega)
    have hmap : (L.map S).map (·.data.toList) = L := by
      rw [List.map_map]
      conv => rhs; rw [← List.map_id L]
      exact List.map_congr_left fun x _ => rfl
    have h := Tryz.strings_Join g o cap (L.map S) (S sep) w (fun j x hx => by
      have hj : j < L.length := by
        have := (List.getElem?_eq_some_iff.1 hx).1
        rwa [List.length_map] at this
      obtain ⟨g', o', he, _, hc⟩ := hcell j hj
      simp only [Option.some.injEq, Addr.mk.injEq] at he
      obtain ⟨rfl, rfl, _⟩ := he
      rw [hc]
      rw [List.getElem?_map, List.getElem?_eq_getElem hj] at hx
      simp only [Option.map_some, Option.some.injEq] at hx
      rw [← hx, List.getD_eq_getElem?_getD, List.getElem?_eq_getElem hj]
      rfl) hg (by rw [List.length_map]; omega) (by rw [List.length_map]; exact hcap) (by
        rw [hmap, show (S sep).data.toList = sep from rfl, join_glu]
        omega)
    rw [List.length_map, hmap, show (S sep).data.toList = sep from rfl, join_glu] at h
    exact h
/-- strings.Contains. -/
theorem cContains (l sep : List UInt8) (h0 : sep ≠ []) (hz : l.length ≤ 1000000) (w : World) (hE : Env w) :
    Calls Tryz.prog 127 #[.string (S l), .string (S sep)] w fun e w' => e = .returned (.bool (!decide ((splG sep l).length ≤ 1))) ∧ w' = w := by
  obtain ⟨m, hm⟩ := hE.most
  have h := Tryz.strings_Contains (S l) (S sep) m w (by rw [S_size]; omega) hm
  rw [show (S l).data.toList = l from rfl, show (S sep).data.toList = sep from rfl, contains_spl sep h0] at h
  exact h
/-- strings.Cut at a hyphen. -/
theorem cCut (l : List UInt8) (hz : l.length ≤ 1000000) (a b : List UInt8) (t : Bool) (h : Lib.cut l [45] = (a, b, t)) (w : World) (hE : Env w) :
    Calls Tryz.prog 174 #[.string (S l), .string ⟨#[45]⟩] w fun e w' => e = .returned (.tuple #[.string (S a), .string (S b), .bool t]) ∧ Below w.heap.size w w' := by
  obtain ⟨m, hm⟩ := hE.most
  refine (Tryz.strings_Cut (S l) (S [45]) m w (by rw [S_size]; omega) hm).mono fun e w' hh => ?_
  obtain ⟨he, n, rfl⟩ := hh
  refine ⟨?_, drewN_below w n⟩
  rw [he, show (S l).data.toList = l from rfl, show (S [45]).data.toList = [45] from rfl, h]
  rfl
end

end Go.Proofs.YthjdopnoophigaaGreatDoor
