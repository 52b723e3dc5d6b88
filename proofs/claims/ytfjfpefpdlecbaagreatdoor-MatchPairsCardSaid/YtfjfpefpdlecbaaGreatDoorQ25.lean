/- Merged: DW15, KB15, FA07, FB07. -/
import Derived.Test.YtfjfpefpdlecbaaGreatDoorQ07
import Derived.Test.YtfjfpefpdlecbaaGreatDoorQ24
import Derived.Test.YtfjfpefpdlecbaaGreatDoorQ12
import Derived.Test.YtfjfpefpdlecbaaGreatDoorQ22
import Derived.Shelf.GgClosure.GivesRunes
import Derived.Test.YtfjfpefpdlecbaaGreatDoorQ03
namespace Go.Proofs.YtfjfpefpdlecbaaGreatDoor

section
open Go.Lib
theorem dgb_same (c : UInt8) : dgB5 c = digB c := rfl
theorem digF_skip (r : List UInt8) : ∀ (bs run : List UInt8), bs ≠ [] → (∀ b ∈ bs, digB b = false) → digF run (bs ++ r) = if run.length = 4 then run else digF [] r
  | [], _, h, _ => absurd rfl h
  | b :: t, run, _, h => by
    rw [List.cons_append, digF, if_neg (by rw [dgb_same, h b (by simp)]; decide)]
    by_cases hy : run.length = 4
    · rw [if_pos hy, if_pos hy]
    · rw [if_neg hy, if_neg hy]
      cases t with
      | nil => rfl
      | cons b2 t2 =>
        rw [digF_skip r (b2 :: t2) [] (by simp) (fun x hx => h x (List.mem_cons_of_mem _ hx)), if_neg (by simp)]
/-- The first of these words that has four characters. -/
def fourW : List (List Nat) → List Nat
  | [] => []
  | w :: r => if w.length = 4 then w else fourW r
theorem fourW_app : ∀ (ws more : List (List Nat)), (∀ w ∈ ws, w.length ≠ 4) → fourW (ws ++ more) = fourW more
  | [], _, _ => rfl
  | w :: ws, more, h => by
    rw [List.cons_append, fourW, if_neg (h w (by simp))]
    exact fourW_app ws more fun x hx => h x (List.mem_cons_of_mem _ hx)
theorem enc_len (w : List Nat) (h : ∀ c ∈ w, digC8 c = true) : (enc w).length = w.length := by rw [enc_digs w h, List.length_map]
theorem digF_words : ∀ (cs : List Nat), OKs cs → ∀ (ws : List (List Nat)) (cur : List Nat), (∀ w ∈ ws, w.length ≠ 4) → (∀ c ∈ cur, digC8 c = true) → digF (enc cur) (enc cs) = enc (fourW (flush (cs.foldl dstep (ws, cur))).1)
  | [], _, ws, cur, h, hd => by
    show digF (enc cur) [] = enc (fourW (flush (ws, cur)).1)
    rw [digF, enc_len cur hd]
    unfold flush
    by_cases hc : cur = []
    · rw [if_pos hc]
      have := fourW_app ws [] h
      rw [List.append_nil] at this
      rw [this, hc]
      rfl
    · rw [if_neg hc, fourW_app ws _ h, fourW]
      by_cases h4 : cur.length = 4
      · rw [if_pos h4, if_pos h4]
      · rw [if_neg h4, if_neg h4]
        rfl
  | c :: t, hk, ws, cur, h, hd => by
    have hc : okc c := hk c (by simp)
    have ht : OKs t := fun x hx => hk x (List.mem_cons_of_mem _ hx)
    rw [List.foldl_cons, enc_cons]
    by_cases hdc : digC8 c = true
    · have e : dstep (ws, cur) c = (ws, cur ++ [c]) := by simp [dstep, hdc]
      have e2 : enc cur ++ [UInt8.ofNat c] = enc (cur ++ [c]) := by rw [enc_append, enc_cons, enc_dig c hdc]; simp [enc]
      have hb : dgB5 (UInt8.ofNat c) = true := by
        have := (digC8_iff c).1 hdc
        have hn : (UInt8.ofNat c).toNat = c := by simp; omega
        rw [dgb_same, digB_iff, hn]
        exact this
      rw [e, enc_dig c hdc, List.cons_append, List.nil_append, digF, if_pos hb, e2]
      exact digF_words t ht ws (cur ++ [c]) h fun x hx => by
        rcases List.mem_append.1 hx with hx | hx
        · exact hd x hx
        · obtain rfl : x = c := by simpa using hx
          exact hdc
    · have hd' : digC8 c = false := by simpa using hdc
      obtain ⟨h1, h2⟩ := enc_else c hc hd'
      rw [digF_skip (enc t) _ (enc cur) h1 h2, enc_len cur hd]
      by_cases hn : cur = []
      · subst hn
        have e : dstep (ws, []) c = (ws, []) := by simp [dstep, hdc, flush]
        rw [e, if_neg (by simp)]
        exact digF_words t ht ws [] h (fun x hx => by cases hx)
      · have e : dstep (ws, cur) c = (ws ++ [cur], []) := by simp [dstep, hdc, flush, hn]
        rw [e]
        by_cases h4 : cur.length = 4
        · rw [if_pos h4]
          obtain ⟨more, hm⟩ := dfold_pre t (ws ++ [cur]) []
          rw [hm, List.append_assoc, fourW_app ws _ h]
          show _ = enc (fourW (cur :: more))
          rw [fourW, if_pos h4]
        · rw [if_neg h4]
          exact digF_words t ht (ws ++ [cur]) [] (fun w hw => by
            rcases List.mem_append.1 hw with hw | hw
            · exact h w hw
            · obtain rfl : w = cur := by simpa using hw
              exact h4) (fun x hx => by cases hx)
theorem digits4_words (cs : List Nat) (h : OKs cs) : digits4 (enc cs) = enc (fourW (dwords cs)) := digF_words cs h [] [] (fun w hw => by cases hw) (fun c hc => by cases hc)
theorem fourW_hit : ∀ (ws : List (List Nat)) (k : Nat), k < ws.length → (∀ j, j < k → (ws.getD j []).length ≠ 4) → (ws.getD k []).length = 4 → fourW ws = ws.getD k []
  | [], _, h, _, _ => by cases h
  | w :: ws, 0, _, _, h4 => by
    have h4 : w.length = 4 := h4
    rw [fourW, if_pos h4]
    rfl
  | w :: ws, k + 1, hk, hj, h4 => by
    have h0 : w.length ≠ 4 := hj 0 (by omega)
    rw [fourW, if_neg h0]
    exact fourW_hit ws k (by simpa using hk) (fun j hjk => hj (j + 1) (by omega)) h4
theorem fourW_miss : ∀ (ws : List (List Nat)), (∀ j, j < ws.length → (ws.getD j []).length ≠ 4) → fourW ws = []
  | [], _ => rfl
  | w :: ws, h => by
    have h0 : w.length ≠ 4 := h 0 (by simp)
    rw [fourW, if_neg h0]
    exact fourW_miss ws fun j hj => h (j + 1) (by simpa using hj)
end

section
open Go.RowKit Go.PlainAid
set_option maxHeartbeats 4000000 in
theorem mwords_any (v : List UInt8) (hv : validT v = true) (hl : v.length ≤ 10000) (w : World) (hE : Env w) :
    Calls Tryz.prog 59 #[.string (S v)] w fun e w' => e = .returned (.string (S (wordX v))) ∧ Below w.heap.size w w' := by
  obtain ⟨cs, hcs, rfl⟩ := validT_text v hv
  have hcl : cs.length ≤ 10000 := by
    have := len_le cs
    rw [T_size] at this
    omega
  have cW := Lib.hid (cWords (enc cs) 10000 (Nat.le_refl _) ⟨cs, hcs, rfl, hcl⟩ w hE)
  have cJ := Lib.hid (fun (u : Value) (L : List (List UInt8)) (W : World) (hu : BL u L W) (hL : ∀ x ∈ L, x.length ≤ 100000) (hn : L.length ≤ 100000) => cJoin [32] u L W hu (by decide) 100000 (by decide) hL (by omega))
  change RowKit.Hid (∀ (u : Value) (L : List (List UInt8)) (W : World), BL u L W → (∀ x ∈ L, x.length ≤ 100000) → L.length ≤ 100000 → Calls Tryz.prog 81 #[u, .string ⟨#[32]⟩] W fun e w' => e = .returned (.string (S (gluX [32] L))) ∧ Below W.heap.size W w') at cJ
  clear hv hl hcs hcl
  generalize wordX (enc cs) = r at *
  generalize S (enc cs) = s at *
  go_enter Tryz.func59, Tryz.ntmps59
  go_wp2_with fail
  refine cW.out.mono ?_
  rintro e w1 ⟨u, L, rfl, hu, hb, hg, hL, hn, -, -⟩
  have cj := Lib.hid (cJ.out u L w1 hu hL hn)
  rw [hg] at cj
  have HB := Lib.hid hb
  clear hu hb hg hL hn cW cJ
  go_wp2_with fail
  refine cj.out.mono ?_
  rintro e w2 ⟨rfl, hb2⟩
  have HG := Lib.hid (HB.out.trans (hb2.mono HB.out.size))
  clear cj hb2
  go_wp2
  first | exact ⟨rfl, HG.out⟩ | (go_ret; exact ⟨rfl, HG.out⟩)

theorem mnoDigit_any (c : Nat) (w : World) : Calls Tryz.prog 90 #[.int .i32 (c : Int)] w fun e w' => e = .returned (.bool (!digC8 c)) ∧ w' = w := by
  unfold digC8
  by_cases h1 : c < 48
  · have d0 : decide ((c : Int) < 48) = true := decide_eq_true (by omega)
    have d1 : decide (48 ≤ c) = false := decide_eq_false (by omega)
    rw [d1]
    clear h1 d1
    go_enter Tryz.func90, Tryz.ntmps90
    go_wp2
    go_ret
    exact ⟨rfl, rfl⟩
  · have d0 : decide ((c : Int) < 48) = false := decide_eq_false (by omega)
    have d1 : decide (48 ≤ c) = true := decide_eq_true (by omega)
    rw [d1]
    by_cases h2 : c ≤ 57
    · have d2 : decide (57 < (c : Int)) = false := decide_eq_false (by omega)
      rw [decide_eq_true h2]
      clear h1 d1 h2
      go_enter Tryz.func90, Tryz.ntmps90
      go_wp2
      go_ret
      exact ⟨rfl, rfl⟩
    · have d2 : decide (57 < (c : Int)) = true := decide_eq_true (by omega)
      rw [decide_eq_false h2]
      clear h1 d1 h2
      go_enter Tryz.func90, Tryz.ntmps90
      go_wp2
      go_ret
      exact ⟨rfl, rfl⟩
theorem mnoDigit_pred (w : World) : PredAtRunes Tryz.prog 90 #[] (fun c => !digC8 c) w := by
  intro W x _ _
  exact (mnoDigit_any x W).mono fun e w' ⟨h1, h2⟩ => ⟨h1, 0, h2⟩
theorem mfields_any (fs : List Nat) (h : OKs fs) (hz : fs.length ≤ 1000000) (w : World) :
    Calls Tryz.prog 89 #[.string (T fs), .func (.func 90) #[] #[]] w fun e w' => ∃ A, e = .returned (.slice (some ⟨A, 0, none⟩) (dwords fs).length (dwords fs).length) ∧ A < w'.heap.size ∧
      (∀ j, j < (dwords fs).length → w'.cell? ⟨A, j, none⟩ = some (.string (T ((dwords fs).getD j [])))) ∧ Below w.heap.size w w' := by
  have hsz := T_bound fs
  have hF := Tryz.strings_FieldsFunc_runes 90 #[] (enters_of Tryz.func90 (by kernel_rfl) rfl) (fun c => !digC8 c) (T fs) w (by omega) (mnoDigit_pred w)
  rw [dfields_T fs h (fun c => !digC8 c) (fun c _ => rfl)] at hF
  refine hF.mono ?_
  rintro e w' ⟨A, rfl, hA, hown, hb⟩
  rw [List.length_map] at hown ⊢
  refine ⟨A, rfl, ?_, ?_, hb⟩
  · rcases hown.2 with ⟨h0, _⟩ | ⟨g, cap, cur, hv, _, hg, _⟩
    · cases h0
    · have e1 : A = g := by have h := hv; simp at h; exact h.1
      subst e1
      exact (Array.getElem?_eq_some_iff.1 hg).1
  · intro j hj
    have := hown.cells (g := A) rfl j (.string (T ((dwords fs).getD j []))) (by rw [List.getElem?_map, List.getElem?_map, List.getD_eq_getElem?_getD, List.getElem?_eq_getElem hj]; rfl)
    have hadd : (⟨A, 0, none⟩ : Addr).add j = ⟨A, j, none⟩ := by unfold Addr.add; split <;> simp_all
    rwa [hadd] at this

set_option maxHeartbeats 8000000 in
set_option maxRecDepth 100000 in
theorem myear_any (fs : List Nat) (h : OKs fs) (hz : fs.length ≤ 1000000) (w : World) :
    Calls Tryz.prog 62 #[.string (T fs)] w fun e w' => e = .returned (.string (S (digits4 (enc fs)))) ∧ Below w.heap.size w w' := by
  have hF := Lib.hid (mfields_any fs h hz w)
  have hdl := dwords_len fs
  have hdg := Lib.hid (dwords_dig fs)
  rw [digits4_words fs h]
  obtain ⟨y, hy⟩ : ∃ y, S (enc (fourW (dwords fs))) = y := ⟨_, rfl⟩
  have HHit := Lib.hid (fun k h1 h2 h3 => (congrArg (fun x => S (enc x)) (fourW_hit (dwords fs) k h1 h2 h3)).symm.trans hy)
  have HMiss := Lib.hid (fun h2 => (congrArg (fun x => S (enc x)) (fourW_miss (dwords fs) h2)).symm.trans hy)
  rw [hy]
  clear h hy
  generalize dwords fs = ws at *
  obtain ⟨n, hn⟩ : ∃ n, ws.length = n := ⟨_, rfl⟩
  rw [hn] at hF hdl
  have HN := Lib.hid hn
  clear hn
  go_enter Tryz.func62, Tryz.ntmps62
  go_wp2_with fail
  refine hF.out.mono ?_
  rintro e w1 ⟨A, rfl, hA, hc, b1⟩
  have HC := Lib.hid hc
  have HB1 := Lib.hid b1
  clear hF hc b1
  go_wp2
  go_loopw [4, 8] (fun _ i wr => ∃ k : Nat, k ≤ n ∧ i = .int .i64 (k : Int) ∧ RowKit.Hid (∀ j, j < k → (ws.getD j []).length ≠ 4) ∧ RowKit.Hid (Below w1.heap.size w1 wr)) (fun _ i _ => n - (intOf i).toNat)
  case atStart => exact ⟨0, Nat.zero_le _, rfl, (fun j hj => by omega), Below.refl _ _⟩
  case round =>
    obtain ⟨k, hk, rfl, hj, hbw⟩ := hrel
    have HBw := Lib.hid (HB1.out.trans (hbw.out.mono HB1.out.size))
    have i1 : (0 : Int) ≤ (k : Int) := by omega
    by_cases hkn : k < n
    · have c0 := (hbw.out.cell (p := ⟨A, k, none⟩) hA).trans (HC.out k hkn)
      obtain ⟨x, hx⟩ : ∃ x, ws.getD k [] = x := ⟨_, rfl⟩
      have hxd : ∀ c ∈ x, digC8 c = true := by
        rw [← hx, List.getD_eq_getElem?_getD, List.getElem?_eq_getElem (by rw [HN.out]; exact hkn)]
        exact hdg.out _ (List.getElem_mem _)
      have hts : (T x).size = x.length := by
        have := T_list x
        rw [enc_digs x hxd] at this
        have h2 := congrArg List.length this
        rw [List.length_map] at h2
        rw [← h2]
        rfl
      have i2 : (k : Int) < (n : Int) := by omega
      by_cases h4 : x.length = 4
      · have hyv : T x = y := by
          have := HHit.out k (by rw [HN.out]; exact hkn) hj.out (by rw [hx]; exact h4)
          rw [hx] at this
          exact this
        have d1 : ((((T x).size : Nat) : Int) == 4) = true := by rw [hts]; simpa using (show ((x.length : Int) = 4) by omega)
        rw [hx] at c0
        rw [hyv] at c0 d1
        clear hts hxd hx h4 hj hyv
        go_wp2_with fail
        first | exact ⟨rfl, HBw.out⟩ | (go_ret; exact ⟨rfl, HBw.out⟩)
      · have HJ2 : RowKit.Hid (∀ j, j < k + 1 → (ws.getD j []).length ≠ 4) := by
          intro j hj2
          rcases Nat.lt_or_ge j k with h | h
          · exact hj.out j h
          · rw [show j = k by omega, hx]; exact h4
        have d1 : ((((T x).size : Nat) : Int) == 4) = false := by rw [hts]; simpa using (show ¬ ((x.length : Int) = 4) by omega)
        rw [hx] at c0
        clear hts hxd hx h4 hj
        generalize T x = t at *
        go_wp2_with fail
        go_roundw
        case rel => exact ⟨k + 1, by omega, by go_num, HJ2.out, hbw.out⟩
        case measure => simp [intOf]; omega
    · obtain rfl : k = n := by omega
      have hyv : S (enc []) = y := HMiss.out (fun j hj2 => hj.out j (by rw [← HN.out]; exact hj2))
      subst hyv
      clear hj
      go_wp2_with fail
      first | exact ⟨rfl, HBw.out⟩ | (go_ret; exact ⟨rfl, HBw.out⟩)

theorem isbnI_bad (l r : List UInt8) (e : Int) (h : isbnI l = (r, e)) (he : e ≠ 0) : r = [] := isbnT_bad _ r e h he
set_option maxHeartbeats 8000000 in
theorem mchanged_any (n : Int) (v : List UInt8) (hn0 : 0 ≤ n) (hn4 : n ≤ 4) (hv : validT v = true) (hl : v.length ≤ 10000) (w : World) (hE : Env w) :
    Calls Tryz.prog 38 #[.string (S v), .int .i64 n] w fun e w' => e = .returned (.string (S (normV n v))) ∧ Below w.heap.size w w' := by
  have HR := Lib.hid (Below.refl w.heap.size w)
  unfold normV
  by_cases h0 : n = 0
  · subst h0
    rw [if_pos rfl]
    generalize S v = s at *
    go_enter Tryz.func38, Tryz.ntmps38
    go_wp2
    first | exact ⟨rfl, HR.out⟩ | (go_ret; exact ⟨rfl, HR.out⟩)
  rw [if_neg h0]
  by_cases h1 : n = 1
  · subst h1
    have cW := Lib.hid (mwords_any v hv hl w hE)
    rw [if_pos rfl]
    clear hE hv hl
    generalize S (wordX v) = r at *
    generalize S v = s at *
    go_enter Tryz.func38, Tryz.ntmps38
    go_wp2_with fail
    refine cW.out.mono ?_
    rintro e w1 ⟨rfl, hb⟩
    have HB := Lib.hid hb
    clear hb cW
    go_wp2
    first | exact ⟨rfl, HB.out⟩ | (go_ret; exact ⟨rfl, HB.out⟩)
  rw [if_neg h1]
  by_cases h2 : n = 2
  · subst h2
    obtain ⟨r, er, hr⟩ : ∃ r er, isbnI v = (r, er) := ⟨_, _, rfl⟩
    have cI := Lib.hid (barIsbn_any v (by omega) r er hr w hE)
    have hrr : (if (isbnI v).2 = 0 then (isbnI v).1 else []) = r := by
      rw [hr]
      by_cases he : er = 0
      · exact if_pos he
      · rw [isbnI_bad v r er hr he]
        exact if_neg he
    rw [if_pos rfl, hrr]
    clear hE hv hl hr hrr
    generalize S r = x at *
    generalize S v = s at *
    go_enter Tryz.func38, Tryz.ntmps38
    go_wp2_with fail
    refine cI.out.mono ?_
    rintro e w1 ⟨rfl, hb⟩
    have HB := Lib.hid hb
    clear hb cI
    go_wp2
    first | exact ⟨rfl, HB.out⟩ | (go_ret; exact ⟨rfl, HB.out⟩)
  rw [if_neg h2]
  by_cases h3 : n = 3
  · subst h3
    have cW := Lib.hid (mwords_any v hv hl w hE)
    have hw4 : S (clip4 (wordX v)) = S (clip4 (wordX v)) := rfl
    obtain ⟨cs, hcs, rfl⟩ := validT_text v hv
    have cC := Lib.hid (fun V => clip_is (S (wordX (enc cs))) (S (clip4 (wordX (enc cs)))) (joinL (W cs)) (wordX_OK cs hcs) (S_wordX cs hcs) 4 (by decide) (by decide) (S_clip4 cs hcs).symm V)
    rw [if_pos rfl]
    clear hE hv hl hw4
    generalize S (clip4 (wordX (enc cs))) = x at *
    generalize S (wordX (enc cs)) = r at *
    generalize S (enc cs) = s at *
    go_enter Tryz.func38, Tryz.ntmps38
    go_wp2_with fail
    refine cW.out.mono ?_
    rintro e w1 ⟨rfl, hb⟩
    have HB := Lib.hid hb
    have cC1 := Lib.hid (cC.out w1)
    clear hb cW cC
    go_wp2_with fail
    refine cC1.out.mono ?_
    rintro e w2 ⟨rfl, hb2⟩
    have HG := Lib.hid (HB.out.trans (hb2.mono HB.out.size))
    clear hb2 cC1
    go_wp2
    first | exact ⟨rfl, HG.out⟩ | (go_ret; exact ⟨rfl, HG.out⟩)
  rw [if_neg h3]
  obtain rfl : n = 4 := by omega
  obtain ⟨cs, hcs, rfl⟩ := validT_text v hv
  have hcl : cs.length ≤ 1000000 := by
    have := len_le cs
    rw [T_size] at this
    omega
  have cY := Lib.hid (myear_any cs hcs hcl w)
  change RowKit.Hid (Calls Tryz.prog 62 #[.string (S (enc cs))] w fun e w' => e = .returned (.string (S (digits4 (enc cs)))) ∧ Below w.heap.size w w') at cY
  clear hE hv hl hcs hcl h0 h1 h2 h3
  generalize S (digits4 (enc cs)) = r at *
  generalize S (enc cs) = s at *
  go_enter Tryz.func38, Tryz.ntmps38
  go_wp2_with fail
  refine cY.out.mono ?_
  rintro e w1 ⟨rfl, hb⟩
  have HB := Lib.hid hb
  clear hb cY
  go_wp2
  first | exact ⟨rfl, HB.out⟩ | (go_ret; exact ⟨rfl, HB.out⟩)
end

section
open Go.RowKit Go.PlainAid
def letB (x : UInt8) : Bool := decide (97 ≤ x.toNat) && decide (x.toNat ≤ 122)
theorem codeB_eq (x : UInt8) : codeB x = (digB x || letB x) := rfl

set_option maxHeartbeats 4000000 in
theorem fdigit_any (x : UInt8) (b : Bool) (hb : digB x = b) (w : World) :
    Calls Tryz.prog 120 #[.int .u8 (x.toNat : Int)] w fun e w' => e = .returned (.bool b) ∧ w' = w := by
  unfold digB at hb
  by_cases h1 : 48 ≤ x.toNat
  · have t1 : decide ((48 : Int) ≤ (x.toNat : Int)) = true := decide_eq_true (by omega)
    rw [decide_eq_true h1, Bool.true_and] at hb
    have t2 : decide ((x.toNat : Int) ≤ 57) = b := by rw [← hb, decide_eq_decide]; omega
    clear hb h1
    generalize x.toNat = n at *
    go_enter Tryz.func120, Tryz.ntmps120
    go_wp2
    go_ret
    exact ⟨rfl, rfl⟩
  · have t1 : decide ((48 : Int) ≤ (x.toNat : Int)) = false := decide_eq_false (by omega)
    rw [decide_eq_false h1, Bool.false_and] at hb
    subst hb
    clear h1
    generalize x.toNat = n at *
    go_enter Tryz.func120, Tryz.ntmps120
    go_wp2
    go_ret
    exact ⟨rfl, rfl⟩

set_option maxHeartbeats 4000000 in
theorem fletter_any (x : UInt8) (b : Bool) (hb : letB x = b) (w : World) :
    Calls Tryz.prog 122 #[.int .u8 (x.toNat : Int)] w fun e w' => e = .returned (.bool b) ∧ w' = w := by
  unfold letB at hb
  by_cases h1 : 97 ≤ x.toNat
  · have t1 : decide ((97 : Int) ≤ (x.toNat : Int)) = true := decide_eq_true (by omega)
    rw [decide_eq_true h1, Bool.true_and] at hb
    have t2 : decide ((x.toNat : Int) ≤ 122) = b := by rw [← hb, decide_eq_decide]; omega
    clear hb h1
    generalize x.toNat = n at *
    go_enter Tryz.func122, Tryz.ntmps122
    go_wp2
    go_ret
    exact ⟨rfl, rfl⟩
  · have t1 : decide ((97 : Int) ≤ (x.toNat : Int)) = false := decide_eq_false (by omega)
    rw [decide_eq_false h1, Bool.false_and] at hb
    subst hb
    clear h1
    generalize x.toNat = n at *
    go_enter Tryz.func122, Tryz.ntmps122
    go_wp2
    go_ret
    exact ⟨rfl, rfl⟩

theorem all_iff (l : List UInt8) : l.all digB = true ↔ ∀ i, i < l.length → digB (l.getD i 0) = true := by
  rw [List.all_eq_true]
  constructor
  · intro h i hi
    rw [List.getD_eq_getElem?_getD, List.getElem?_eq_getElem hi]
    exact h _ (List.getElem_mem hi)
  · intro h x hx
    obtain ⟨i, hi, rfl⟩ := List.getElem_of_mem hx
    have := h i hi
    rwa [List.getD_eq_getElem?_getD, List.getElem?_eq_getElem hi] at this

set_option maxHeartbeats 8000000 in
theorem fdigits_any (l : List UInt8) (hz : l.length ≤ 1000000000) (b : Bool) (hb : l.all digB = b) (w : World) :
    Calls Tryz.prog 76 #[.string (S l)] w fun e w' => e = .returned (.bool b) ∧ w' = w := by
  obtain ⟨n, hn⟩ : ∃ n, l.length = n := ⟨_, rfl⟩
  have hsz : (S l).size = n := by rw [S_size, hn]
  obtain ⟨j, hj, hg, hbad⟩ : ∃ j, j ≤ n ∧ (∀ i, i < j → digB (l.getD i 0) = true) ∧ (j < n → digB (l.getD j 0) = false) := by
    rcases first_bad (fun i => digB (l.getD i 0)) n with h | ⟨j, hj, h1, h2⟩
    · exact ⟨n, Nat.le_refl _, h, fun h => by omega⟩
    · exact ⟨j, by omega, h1, fun _ => h2⟩
  have hbb : b = decide (j = n) := by
    rw [← hb]
    by_cases h : j < n
    · rw [decide_eq_false (by omega)]
      cases hx : l.all digB with
      | false => rfl
      | true =>
        have := (all_iff l).1 hx j (by omega)
        rw [hbad h] at this
        cases this
    · rw [decide_eq_true (by omega)]
      rw [all_iff]
      intro i hi
      exact hg i (by omega)
  have hbt := get_bt (S l)
  have HG := Lib.hid hg
  have HB := Lib.hid hbad
  have HBB := Lib.hid hbb
  have HBS := Lib.hid (fun i => bt_S l i)
  have cD := Lib.hid (fun x b hb W => fdigit_any x b hb W)
  rw [hn] at hz
  clear hg hbad hbb hn hb
  generalize S l = s at *
  go_enter Tryz.func76, Tryz.ntmps76
  go_wp2
  go_loopw [6] (fun i wr => ∃ k : Nat, k ≤ j ∧ i = .int .i64 (k : Int) ∧ w = wr) (fun i _ => j - (intOf i).toNat)
  case atStart => exact ⟨0, Nat.zero_le _, rfl, rfl⟩
  case round =>
    obtain ⟨k, hk, rfl, rfl⟩ := hrel
    by_cases hkn : k < n
    · have hki : (k : Int) < (n : Int) := by omega
      have hk0 : (0 : Int) ≤ (k : Int) := by omega
      have hbk := HBS.out k
      by_cases hlt : k < j
      · have hc := cD.out _ true (HG.out k hlt) w
        rw [← hbk] at hc
        clear hbk
        go_wp2_with fail
        refine hc.mono ?_
        rintro e w1 ⟨rfl, rfl⟩
        go_wp2
        go_roundw
        case rel => exact ⟨k + 1, by omega, by go_num, trivial⟩
        case measure => simp [intOf]; omega
      · obtain rfl : k = j := by omega
        have hc := cD.out _ false (HB.out hkn) w
        rw [← hbk] at hc
        clear hbk
        obtain rfl : b = false := by rw [HBB.out, decide_eq_false (by omega)]
        go_wp2_with fail
        refine hc.mono ?_
        rintro e w1 ⟨rfl, rfl⟩
        go_wp2
        go_ret
        exact ⟨rfl, rfl⟩
    · obtain rfl : k = n := by omega
      obtain rfl : b = true := by rw [HBB.out, decide_eq_true (by omega)]
      go_wp2
      go_ret
      exact ⟨rfl, rfl⟩
end

section
open Go.RowKit Go.PlainAid
/-- A subfield's value. -/
def SV (s : Sub) : Value := .agg #[.int .u8 (s.1.toNat : Int), .string (S s.2)]
end

end Go.Proofs.YtfjfpefpdlecbaaGreatDoor
