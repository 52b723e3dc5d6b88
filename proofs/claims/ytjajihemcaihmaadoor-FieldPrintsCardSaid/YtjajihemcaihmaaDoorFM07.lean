/- Package field: read, Parse. -/
import Derived.Test.YtjajihemcaihmaaDoorFL07
import Derived.Test.YtjajihemcaihmaaDoorFJ07
namespace Go.Proofs.YtjajihemcaihmaaDoor
open Go.RowKit Go.PlainAid

theorem readP_le (s : List UInt8) : (readP s).subs.length ≤ 17 ∧ ∀ i, i < (readP s).subs.length → ((readP s).subs.getD i sub0).2.length ≤ s.length := by
  obtain ⟨h1, h2⟩ := subsK_le 17 (Lib.cut (Lib.cut s [32]).2.1 [32]).2.1
  refine ⟨h1, fun i hi => ?_⟩
  have h3 := (cut_le (Lib.cut s [32]).2.1 [32]).2
  have h4 := (cut_le s [32]).2
  have := h2 i hi
  show ((subsK 17 (Lib.cut (Lib.cut s [32]).2.1 [32]).2.1).getD i sub0).2.length ≤ _
  omega

set_option maxHeartbeats 16000000 in
set_option maxRecDepth 100000 in
theorem read_any (s : List UInt8) (hz : s.length ≤ 1000000) (w : World) (hE : Env w) :
    Calls Tryd.prog 51 #[.string (S s)] w fun e w' => ∃ v, e = .returned (FV (readP s) v) ∧ w'.ownsRow w.heap.size 45 2 v (readP s).subs.length (cellsL (readP s).subs) ∧ Below w.heap.size w w' := by
  obtain ⟨⟨hd, rest, t1⟩, hc1⟩ : ∃ p, Lib.cut s [32] = p := ⟨_, rfl⟩
  obtain ⟨⟨ind, subs, t2⟩, hc2⟩ : ∃ p, Lib.cut rest [32] = p := ⟨_, rfl⟩
  obtain ⟨⟨tag, num, t3⟩, hc3⟩ : ∃ p, Lib.cut hd [64] = p := ⟨_, rfl⟩
  have hrp : readP s = ⟨tag, ind.map unB, subsK 17 subs, atoiV num⟩ := by
    unfold readP
    simp only [hc1, hc2, hc3]
  have l1 := cut_le s [32]
  have l2 := cut_le rest [32]
  have l3 := cut_le hd [64]
  rw [hc1] at l1
  rw [hc2] at l2
  rw [hc3] at l3
  simp only at l1 l2 l3
  rw [hrp]
  unfold FV
  simp only
  have cC1 := Lib.hid (fun W hE => cCut s 32 hz hd rest t1 hc1 W hE)
  have cC2 := Lib.hid (fun W hE => cCut rest 32 (by omega) ind subs t2 hc2 W hE)
  have cC3 := Lib.hid (fun W hE => cCut hd 64 (by omega) tag num t3 hc3 W hE)
  have cA := Lib.hid (fun W hE => cAtoi num (by omega) W hE)
  have cU := Lib.hid (fun W hE => cUnmark ind (by omega) W hE)
  have cS := Lib.hid (fun W hE => readSubs_any subs (by omega) W hE)
  clear hrp hc1 hc2 hc3 l1 l2 l3 hz
  have b0 : Below w.heap.size w (w.alloc (.cells #[.string ⟨#[]⟩, .string ⟨#[]⟩, .slice none 0 0, .int .i64 0] 24)) := (Below.refl w.heap.size w).alloc (Nat.le_refl _) _
  have hR0 : (w.alloc (.cells #[.string ⟨#[]⟩, .string ⟨#[]⟩, .slice none 0 0, .int .i64 0] 24)).heap[w.heap.size]? = some (.cells #[.string ⟨#[]⟩, .string ⟨#[]⟩, .slice none 0 0, .int .i64 0] 24 (0, 0)) := heap_alloc_new w _
  have hlt0 : w.heap.size < (w.alloc (.cells #[.string ⟨#[]⟩, .string ⟨#[]⟩, .slice none 0 0, .int .i64 0] 24)).heap.size := by simp
  obtain ⟨W0, hW0⟩ : ∃ W0, w.alloc (.cells #[.string ⟨#[]⟩, .string ⟨#[]⟩, .slice none 0 0, .int .i64 0] 24) = W0 := ⟨_, rfl⟩
  rw [hW0] at b0 hR0 hlt0
  have HW0 := Lib.hid hW0
  have HE := Lib.hid (fun W (h : Below W0.heap.size W0 W) => (hE.after b0).after h)
  have HR0 := Lib.hid hR0
  clear hW0 hE hR0
  generalize atoiV num = au at *
  generalize S s = ss at *
  generalize S hd = shd at *
  generalize S rest = srest at *
  generalize S num = snum at *
  generalize S tag = stag at *
  go_enter Tryd.func51, Tryd.ntmps51
  go_wp2_with fail
  rw [HW0.out]
  refine (cC1.out _ (HE.out _ (Below.refl _ _))).mono ?_
  rintro e w1 ⟨rfl, b1⟩
  have B1 := Lib.hid b1
  have s1 := b1.size
  clear b1 cC1
  go_wp2_with fail
  refine (cC2.out _ (HE.out _ B1.out)).mono ?_
  rintro e w2 ⟨rfl, b2⟩
  have B2 := Lib.hid (B1.out.trans (b2.mono s1))
  have s2 := Nat.le_trans s1 b2.size
  clear b2 B1 cC2
  go_wp2_with fail
  refine (cC3.out _ (HE.out _ B2.out)).mono ?_
  rintro e w3 ⟨rfl, b3⟩
  have B3 := Lib.hid (B2.out.trans (b3.mono s2))
  have s3 := Nat.le_trans s2 b3.size
  clear b3 B2 cC3
  go_wp2_with fail
  refine (cA.out _ (HE.out _ B3.out)).mono ?_
  rintro e w4 ⟨er, rfl, b4⟩
  have B4 := Lib.hid (B3.out.trans (b4.mono s3))
  have s4 := Nat.le_trans s3 b4.size
  clear b4 B3 cA
  go_wp2_with fail
  refine (cU.out _ (HE.out _ B4.out)).mono ?_
  rintro e w5 ⟨rfl, b5⟩
  have B5 := Lib.hid (B4.out.trans (b5.mono s4))
  have s5 := Nat.le_trans s4 b5.size
  clear b5 B4 cU
  go_wp2_with fail
  refine (cS.out _ (HE.out _ B5.out)).mono ?_
  rintro e w6 ⟨v, rfl, hown, b6⟩
  have B6 := Lib.hid (B5.out.trans (b6.mono s5))
  obtain ⟨ao, cp, rfl⟩ := own_form hown
  have hR6 := (B6.out.block w.heap.size hlt0).trans HR0.out
  obtain ⟨⟨r0, r1, r2, r3⟩, g0, g1, g2, g3⟩ := field_cells hR6
  have hfin := Lib.hid (field_set (x0 := .string stag) (x1 := .string (S (ind.map unB))) (x2 := .slice ao (subsK 17 subs).length cp) (x3 := .int .i64 au) hR6)
  have hbl := Lib.hid (b0.trans (B6.out.mono b0.size))
  have Fin := Lib.hid ((((hbl.out.setCell (p := ⟨w.heap.size, 0, none⟩) (Nat.le_refl _) (.string stag)).setCell (p := ⟨w.heap.size, 1, none⟩) (Nat.le_refl _) (.string (S (ind.map unB)))).setCell (p := ⟨w.heap.size, 2, none⟩) (Nat.le_refl _) (.slice ao (subsK 17 subs).length cp)).setCell (p := ⟨w.heap.size, 3, none⟩) (Nat.le_refl _) (.int .i64 au))
  have hlo : w.heap.size < w5.heap.size := Nat.lt_of_lt_of_le hlt0 s5
  have HO := Lib.hid (own_setCell (own_setCell (own_setCell (own_setCell hown (p := ⟨w.heap.size, 0, none⟩) hlo (.string stag)) (p := ⟨w.heap.size, 1, none⟩) hlo (.string (S (ind.map unB)))) (p := ⟨w.heap.size, 2, none⟩) hlo (.slice ao (subsK 17 subs).length cp)) (p := ⟨w.heap.size, 3, none⟩) hlo (.int .i64 au))
  have hle : w.heap.size ≤ w5.heap.size := Nat.le_of_lt hlo
  clear hown b6 B5 cS hR6 hlo
  go_wp2
  (try simp only [Exit.inBlock, Exit.then])
  refine bodyPost_ret (results_cell_row rfl _ _ w.heap.size _ _ _ _ rfl hfin.out Tryd.underlying24 rfl (by kernel_rfl)) rfl ?_
  refine ⟨_, rfl, ?_, Fin.out⟩
  have := HO.out
  refine ⟨this.1, ?_⟩
  rcases this.2 with hn | ⟨g, cap, cur, hv, hB', rest⟩
  · exact .inl hn
  · exact .inr ⟨g, cap, cur, hv, Nat.le_trans hle hB', rest⟩

set_option maxHeartbeats 16000000 in
set_option maxRecDepth 100000 in
theorem fParse_any (s : List UInt8) (hs : s.length ≤ 1000000) (w : World) (hE : Env w) (f : Fld) (er : Int) (h : parseR s = (f, er)) :
    Calls Tryd.prog 26 #[.string (S s)] w fun e w' => ∃ v, e = .returned (.tuple #[FV f v, .int .i64 er]) ∧ QL v f.subs w' ∧ Below w.heap.size w w' := by
  have hR0 : (w.alloc (.cells #[.string ⟨#[]⟩, .string ⟨#[]⟩, .slice none 0 0, .int .i64 0] 24)).heap[w.heap.size]? = some (.cells #[.string ⟨#[]⟩, .string ⟨#[]⟩, .slice none 0 0, .int .i64 0] 24 (0, 0)) := heap_alloc_new w _
  have b0 : Below w.heap.size w (w.alloc (.cells #[.string ⟨#[]⟩, .string ⟨#[]⟩, .slice none 0 0, .int .i64 0] 24)) := (Below.refl w.heap.size w).alloc (Nat.le_refl _) _
  have hlt0 : w.heap.size < (w.alloc (.cells #[.string ⟨#[]⟩, .string ⟨#[]⟩, .slice none 0 0, .int .i64 0] 24)).heap.size := by simp
  have cR := Lib.hid (read_any s hs _ (hE.after b0))
  obtain ⟨Q, hQ⟩ : ∃ Q, (fun (e : Ending) (w' : World) => ∃ v, e = .returned (.tuple #[FV f v, .int .i64 er]) ∧ QL v f.subs w' ∧ Below w.heap.size w w') = Q := ⟨_, rfl⟩
  rw [hQ]
  have HQ : RowKit.Hid (∀ e w', (∃ v, e = .returned (.tuple #[FV f v, .int .i64 er]) ∧ QL v f.subs w' ∧ Below w.heap.size w w') → Q e w') := by rw [← hQ]; exact fun _ _ h => h
  clear hQ
  have H := Lib.hid h
  clear h
  obtain ⟨hn17, hle⟩ := readP_le s
  obtain ⟨f0, hf0⟩ : ∃ f0, readP s = f0 := ⟨_, rfl⟩
  have HSome := Lib.hid (readP_some s)
  have HNone := Lib.hid (readP_none s)
  rw [hf0] at cR hle HSome HNone
  obtain ⟨pr, hpr⟩ : ∃ pr, printR f0 = pr := ⟨_, rfl⟩
  obtain ⟨r, pe⟩ := pr
  have HEnv := Lib.hid (fun W (h : Below w.heap.size w W) => hE.after h)
  have cP := Lib.hid (fun u W hE hq => fPrint_any f0 u W hE hq (fun i hi => by have := hle i hi; omega) r pe hpr)
  clear hle hn17 hf0 hE
  obtain ⟨st, hst⟩ : ∃ st, S s = st := ⟨_, rfl⟩
  rw [hst] at cR ⊢
  have HST := Lib.hid hst
  clear hst
  unfold FV at cR
  go_enter Tryd.func26, Tryd.ntmps26
  go_wp2_with fail
  refine cR.out.mono ?_
  rintro e w1 ⟨v, rfl, hown, hb⟩
  obtain ⟨ao, cp, rfl⟩ := own_form hown
  obtain ⟨n, hn⟩ : ∃ n, f0.subs.length = n := ⟨_, rfl⟩
  have hR1 := (hb.block w.heap.size hlt0).trans hR0
  have hb1 := b0.trans (hb.mono (Nat.le_of_lt hlt0))
  have hlt1 : w.heap.size < w1.heap.size := Nat.lt_of_lt_of_le hlt0 hb.size
  have hR2 : (w1.alloc (.cells #[.string (S f0.tag), .string (S f0.ind), .slice ao f0.subs.length cp, .int .i64 f0.auth] 24)).heap[w.heap.size]? = some (.cells #[.string ⟨#[]⟩, .string ⟨#[]⟩, .slice none 0 0, .int .i64 0] 24 (0, 0)) := (Below.heap_alloc _ _ _ hlt1).trans hR1
  have hF2 : (w1.alloc (.cells #[.string (S f0.tag), .string (S f0.ind), .slice ao f0.subs.length cp, .int .i64 f0.auth] 24)).heap[w1.heap.size]? = some (.cells #[.string (S f0.tag), .string (S f0.ind), .slice ao f0.subs.length cp, .int .i64 f0.auth] 24 (0, 0)) := heap_alloc_new w1 _
  have hb2 := hb1.alloc (Nat.le_of_lt hlt1) (.cells #[.string (S f0.tag), .string (S f0.ind), .slice ao f0.subs.length cp, .int .i64 f0.auth] 24)
  have hown2 := hown.alloc (.cells #[.string (S f0.tag), .string (S f0.ind), .slice ao f0.subs.length cp, .int .i64 f0.auth] 24)
  have hlt2 : w1.heap.size < (w1.alloc (.cells #[.string (S f0.tag), .string (S f0.ind), .slice ao f0.subs.length cp, .int .i64 f0.auth] 24)).heap.size := by simp
  have cP2 := Lib.hid (cP.out _ _ (HEnv.out _ hb2) (QL.of_row hown2))
  unfold FV at cP2
  obtain ⟨w2, hw2⟩ : ∃ w2, w1.alloc (.cells #[.string (S f0.tag), .string (S f0.ind), .slice ao f0.subs.length cp, .int .i64 f0.auth] 24) = w2 := ⟨_, rfl⟩
  rw [hw2] at cP2 hown2 hR2 hF2 hb2 hlt2
  have HW2 := Lib.hid hw2
  have HR2 := Lib.hid hR2
  have HF2 := Lib.hid hF2
  have HB2 := Lib.hid hb2
  have HOwn2 := Lib.hid hown2
  clear hR1 hb1 hR0 b0 hb hb2 hown hown2 hR2 hF2 hw2 cP hn
  go_wp2_with fail
  rw [HW2.out]
  refine cP2.out.mono ?_
  rintro e w3 ⟨rfl, b3⟩
  have hR3 := (b3.block w.heap.size (by omega)).trans HR2.out
  have hF3 := (b3.block w1.heap.size hlt2).trans HF2.out
  have HOwn3 := Lib.hid (own_after HOwn2.out b3)
  have HB3 := Lib.hid (HB2.out.trans (b3.mono (by omega)))
  clear b3 cP2
  have hq := S_eq r s
  rw [HST.out] at hq
  by_cases hok : rightI f0 = 0 ∧ lineL f0 = s
  · have hP : parseR s = (f0, 0) := by
      unfold parseR
      rw [HSome.out hok]
    have hH := H.out
    rw [hP] at hH
    obtain ⟨rfl, rfl⟩ := Prod.mk.inj hH
    unfold printR at hpr
    rw [if_pos hok.1] at hpr
    obtain ⟨hr1, rfl⟩ := Prod.mk.inj hpr
    rw [← hr1, hok.2, decide_eq_true rfl, HST.out] at hq
    rw [← hr1, hok.2, HST.out]
    obtain ⟨⟨q0, q1, q2, q3⟩, p0, p1, p2, p3⟩ := field_cells hF3
    obtain ⟨⟨r0, r1, r2, r3⟩, g0, g1, g2, g3⟩ := field_cells hR3
    have hfin := Lib.hid (field_set (x0 := .string (S f0.tag)) (x1 := .string (S f0.ind)) (x2 := .slice ao f0.subs.length cp) (x3 := .int .i64 f0.auth) hR3)
    have Fin := Lib.hid ((((HB3.out.setCell (p := ⟨w.heap.size, 0, none⟩) (Nat.le_refl _) (.string (S f0.tag))).setCell (p := ⟨w.heap.size, 1, none⟩) (Nat.le_refl _) (.string (S f0.ind))).setCell (p := ⟨w.heap.size, 2, none⟩) (Nat.le_refl _) (.slice ao f0.subs.length cp)).setCell (p := ⟨w.heap.size, 3, none⟩) (Nat.le_refl _) (.int .i64 f0.auth))
    have hB' : ∀ k, k < 4 → (⟨w.heap.size, k, none⟩ : Addr).block < (w.alloc (.cells #[.string ⟨#[]⟩, .string ⟨#[]⟩, .slice none 0 0, .int .i64 0] 24)).heap.size := fun k _ => hlt0
    have HQL := Lib.hid (QL.of_row (own_setCell (own_setCell (own_setCell (own_setCell HOwn3.out (hB' 0 (by decide)) (.string (S f0.tag))) (hB' 1 (by decide)) (.string (S f0.ind))) (hB' 2 (by decide)) (.slice ao f0.subs.length cp)) (hB' 3 (by decide)) (.int .i64 f0.auth)))
    clear hB' hok hP hH hpr hr1 hR3 hF3
    go_wp2
    (try simp only [Exit.inBlock, Exit.then])
    refine bodyPost_ret (results_row_tmp rfl _ _ w.heap.size _ _ _ _ rfl hfin.out Tryd.underlying24 rfl (by kernel_rfl)) rfl ?_
    exact HQ.out _ _ ⟨_, rfl, HQL.out, Fin.out⟩
  · have hP : parseR s = (fld0, 3) := by
      unfold parseR
      rw [HNone.out hok]
    have hH := H.out
    rw [hP] at hH
    obtain ⟨rfl, rfl⟩ := Prod.mk.inj hH
    have hcase : pe ≠ 0 ∨ (pe = 0 ∧ r ≠ s) := by
      unfold printR at hpr
      by_cases h0 : rightI f0 = 0
      · rw [if_pos h0] at hpr
        obtain ⟨hr1, rfl⟩ := Prod.mk.inj hpr
        exact .inr ⟨rfl, fun e => hok ⟨h0, hr1.trans e⟩⟩
      · rw [if_neg h0] at hpr
        obtain ⟨_, rfl⟩ := Prod.mk.inj hpr
        exact .inl h0
    obtain ⟨⟨r0, r1, r2, r3⟩, g0, g1, g2, g3⟩ := field_cells hR3
    have hfin := Lib.hid (field_set (x0 := .string ⟨#[]⟩) (x1 := .string ⟨#[]⟩) (x2 := .slice none 0 0) (x3 := .int .i64 0) hR3)
    have Fin := Lib.hid ((((HB3.out.setCell (p := ⟨w.heap.size, 0, none⟩) (Nat.le_refl _) (.string ⟨#[]⟩)).setCell (p := ⟨w.heap.size, 1, none⟩) (Nat.le_refl _) (.string ⟨#[]⟩)).setCell (p := ⟨w.heap.size, 2, none⟩) (Nat.le_refl _) (.slice none 0 0)).setCell (p := ⟨w.heap.size, 3, none⟩) (Nat.le_refl _) (.int .i64 0))
    clear hok hP hH hpr hR3 hF3
    rcases hcase with h0 | ⟨rfl, hne⟩
    · have t0 : (pe != 0) = true := by simpa using h0
      clear hq
      go_wp2
      (try simp only [Exit.inBlock, Exit.then])
      refine bodyPost_ret (results_row_tmp rfl _ _ w.heap.size _ _ _ _ rfl hfin.out Tryd.underlying24 rfl (by kernel_rfl)) rfl ?_
      exact HQ.out _ _ ⟨_, rfl, ⟨Option.none, 0, rfl, Nat.le_refl _, Nat.zero_le _, fun _ => rfl, fun i hi => by cases hi⟩, Fin.out⟩
    · rw [decide_eq_false hne] at hq
      clear hne
      generalize S r = sr at *
      go_wp2
      (try simp only [Exit.inBlock, Exit.then])
      refine bodyPost_ret (results_row_tmp rfl _ _ w.heap.size _ _ _ _ rfl hfin.out Tryd.underlying24 rfl (by kernel_rfl)) rfl ?_
      exact HQ.out _ _ ⟨_, rfl, ⟨Option.none, 0, rfl, Nat.le_refl _, Nat.zero_le _, fun _ => rfl, fun i hi => by cases hi⟩, Fin.out⟩
end Go.Proofs.YtjajihemcaihmaaDoor
