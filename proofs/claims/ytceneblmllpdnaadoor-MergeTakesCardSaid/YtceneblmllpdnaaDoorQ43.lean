/- Merged: LV16, RegEnd. -/
import Derived.Test.YtceneblmllpdnaaDoorQ39
import Derived.Test.YtceneblmllpdnaaDoorQ31
import Derived.Test.YtceneblmllpdnaaDoorQ25
import Derived.Test.YtceneblmllpdnaaDoorQ21
namespace Go.Proofs.YtceneblmllpdnaaDoor

section
open Go.RowKit Go.PlainAid
theorem right_fields16 (r : Rec) (h : rightRI r = 0) : ∀ f ∈ r.fields, rightI f = 0 := by
  unfold rightRI at h
  split at h
  · cases h
  split at h
  · cases h
  split at h
  · cases h
  split at h
  · cases h
  split at h
  · cases h
  exact (firstFE_zero _).1 h
theorem right_with16 (r : Rec) (N : List Fld) (h : rightRI r = 0) (hl : N.length ≤ 64) (hN : ∀ f ∈ N, rightI f = 0) : rightRI { r with fields := N } = 0 := by
  unfold rightRI at h ⊢
  dsimp only at h ⊢
  split at h
  · cases h
  split at h
  · cases h
  split at h
  · cases h
  split at h
  · cases h
  split at h
  · cases h
  rw [if_neg ‹_›, if_neg ‹_›, if_neg ‹_›, if_neg ‹_›, if_neg (by omega)]
  exact (firstFE_zero N).2 hN
theorem merge_mem16 (a b : Rec) (l : List Kp) : ∀ g ∈ (mergeF a.fields b.fields l).1, g ∈ a.fields ∨ g ∈ b.fields := by
  have hmo := merge_ok a.fields b.fields l fd0
  intro g hg
  rw [hmo.1, List.mem_append, List.mem_map] at hg
  rcases hg with h | ⟨j, hj, rfl⟩
  · exact .inl h
  · have := hmo.2.1 j hj
    rw [List.getD_eq_getElem?_getD, List.getElem?_eq_getElem this]
    exact .inr (List.getElem_mem _)
/-- Merging again has no error. -/
theorem errM_again (a b : Rec) (l : List Kp) (h : errM a b l = 0) : errM { a with fields := (mergeF a.fields b.fields l).1 } b l = 0 := by
  obtain ⟨h1, h2, h3, h4, h5, h6, h7⟩ := errM_ok a b l h
  have hr : rightRI { a with fields := (mergeF a.fields b.fields l).1 } = 0 := right_with16 a _ h1 h7 fun g hg => by
    rcases merge_mem16 a b l g hg with h | h
    · exact right_fields16 a h1 g h
    · exact right_fields16 b h2 g h
  unfold errM
  dsimp only
  rw [merge_again, if_neg (fun g => g hr), if_neg (fun g => g h2), if_neg (fun g => g.elim h3 h4), if_neg h5, if_neg (fun g => g h6)]
  exact if_neg (by show ¬ 64 < (mergeF a.fields b.fields l).1.length; omega)
theorem mrg_bnd16 (a b : Rec) (l : List Kp) (ha : BndR a) (hb : BndR b) (hz : (mergeF a.fields b.fields l).1.length ≤ 10000) : BndR { a with fields := (mergeF a.fields b.fields l).1 } := by
  refine ⟨ha.lang, hz, fun g hg => ?_, fun g hg s hs => ?_⟩
  · rcases merge_mem16 a b l g hg with h | h
    · exact ha.subs g h
    · exact hb.subs g h
  · rcases merge_mem16 a b l g hg with h | h
    · exact ha.vals g h s hs
    · exact hb.vals g h s hs
theorem hasF_take (L : List Fld) (g : Fld) (j : Nat) (h : j < L.length) : hasF (L.take (j + 1)) g = (hasF (L.take j) g || sameB (L.getD j fd0) g) := by
  unfold hasF
  rw [List.take_add_one, List.getElem?_eq_getElem h, List.getD_eq_getElem?_getD, List.getElem?_eq_getElem h, List.any_append, Option.toList_some, List.any_cons, List.any_nil, Bool.or_false]
  rfl

set_option maxHeartbeats 32000000 in
set_option maxRecDepth 100000 in
theorem ltak_no (a b : Rec) (l : List Kp) (u x k : Value) (w : World) (hE : Env w) (hu : FL u a.fields w) (hx : FL x b.fields w) (hk : KpL k l w) (he : fairB a b stdK = true → errM a b stdK ≠ 0) :
    Calls Tryd.prog 6 #[PairV a u b x k] w fun e w' => e = .returned (.bool true) ∧ Below w.heap.size w w' := by
  rw [fairV]
  have HE := Lib.hid (fun (W : World) (h : Below w.heap.size w W) => hE.after h)
  have HU := Lib.hid (fun (W : World) (h : Below w.heap.size w W) => hu.after h)
  have HV := Lib.hid (fun (W : World) (h : Below w.heap.size w W) => hx.after h)
  obtain ⟨fb, hfb⟩ : ∃ y, fairB a b stdK = y := ⟨_, rfl⟩
  have cF := Lib.hid (fun (W : World) (h : Below w.heap.size w W) (sv : Value) (hs : KpL sv stdK W) => lfair_any a b stdK u x sv W (hu.after h) (hx.after h) hs fb hfb)
  have cM := Lib.hid (fun (W : World) (h : Below w.heap.size w W) (sv : Value) (hs : KpL sv stdK W) (hf : fairB a b stdK = true) => mrg_err16 a b stdK u x sv W (HE.out W h) (HU.out W h) (HV.out W h) hs (fairB_ok hf).1.1 (fairB_ok hf).2.1 (he hf))
  obtain ⟨ee, hee⟩ : ∃ y, errM a b stdK = y := ⟨_, rfl⟩
  rw [hee] at cM he
  obtain ⟨ua, uc, ug, uo, uus, hua, -, -, hu4, hu5⟩ := hu.open16
  obtain ⟨xa, xc, xg, xo, xus, hxa, -, -, hx4, hx5⟩ := hx.open16
  obtain ⟨ka, kc, -, -, hka, -, -, -, -⟩ := hk.opened
  subst hua hxa hka
  obtain ⟨W0, hW0⟩ : ∃ W0, w.alloc (.cells #[.int .i64 a.id, .int .i64 a.ver, .int .i64 a.kind, .string (S a.lang), .slice ua a.fields.length uc, .int .i64 b.id, .int .i64 b.ver, .int .i64 b.kind, .string (S b.lang), .slice xa b.fields.length xc, .slice ka l.length kc] 33) = W0 := ⟨_, rfl⟩
  have b0 : Below w.heap.size w W0 := by rw [← hW0]; exact (Below.refl w.heap.size w).alloc (Nat.le_refl _) _
  have hs0 : W0.heap.size = w.heap.size + 1 := by rw [← hW0]; simp
  have hX : W0.heap[w.heap.size]? = some (.cells #[.int .i64 a.id, .int .i64 a.ver, .int .i64 a.kind, .string (S a.lang), .slice ua a.fields.length uc, .int .i64 b.id, .int .i64 b.ver, .int .i64 b.kind, .string (S b.lang), .slice xa b.fields.length xc, .slice ka l.length kc] 33 (0, 0)) := by rw [← hW0]; exact heap_alloc_new w _
  have HX0 := Lib.hid (fun (W : World) (h : Below W0.heap.size W0 W) => (h.block w.heap.size (Array.getElem?_eq_some_iff.1 hX).1).trans hX)
  have HW0 := Lib.hid hW0
  have HB0 := Lib.hid b0
  have HS0 := Lib.hid hs0
  have HU4 := Lib.hid hu4
  have HU5 := Lib.hid hu5
  have HX4 := Lib.hid hx4
  have HX5 := Lib.hid hx5
  have HFb := Lib.hid hfb
  simp only [fairV] at cF
  unfold RV at *
  clear hE hu hx hk hW0 b0 hX hs0 HU HV hu4 hu5 hx4 hx5 hfb hee
  generalize S a.lang = la at *
  generalize a.id = a0 at *
  generalize a.ver = a1 at *
  generalize a.kind = a2 at *
  generalize S b.lang = lb' at *
  generalize b.id = b0 at *
  generalize b.ver = b1 at *
  generalize b.kind = b2 at *
  generalize han : a.fields.length = an at *
  generalize hbn : b.fields.length = bn at *
  generalize l.length = kn at *
  have HAN := Lib.hid han
  have HBN := Lib.hid hbn
  clear han hbn
  go_enter Tryd.func6, Tryd.ntmps6
  go_upto_region 1 with fail
  (try rw [HW0.out])
  clear HW0
  go_wp2_with fail
  refine (refStandard16_row W0).mono ?_
  rintro e w1 ⟨sv, rfl, hs, hb1⟩
  obtain ⟨sa, sc, rfl⟩ : ∃ a c, sv = .slice a 10 c := own_form hs
  have hx1 := HX0.out w1 hb1
  obtain ⟨Wb, hWb⟩ : ∃ X, w1.setCell ⟨w.heap.size, 10, none⟩ (.slice sa 10 sc) = X := ⟨_, rfl⟩
  have hob : ∀ i, i ≠ w.heap.size → Wb.heap[i]? = w1.heap[i]? := fun i hi => by rw [← hWb]; exact heap_setn _ _ _ _ hi
  have hXb : Wb.heap[w.heap.size]? = some (.cells #[.int .i64 a0, .int .i64 a1, .int .i64 a2, .string la, .slice ua an uc, .int .i64 b0, .int .i64 b1, .int .i64 b2, .string lb', .slice xa bn xc, .slice sa 10 sc] 33 (0, 0)) := by
    rw [← hWb]
    simp [World.setCell, Array.getElem?_modify, hx1]
  have hbb : Below w.heap.size w Wb := by rw [← hWb]; exact (HB0.out.trans (hb1.mono HB0.out.size)).setCell (p := ⟨w.heap.size, 10, none⟩) (Nat.le_refl _) _
  have hks : KpL (.slice sa 10 sc) stdK Wb := KpR.kpl (B := W0.heap.size) (own_kept hs (fun b cs hb _ => hob b (by have := HS0.out; omega)))
  have HX := Lib.hid (fun (W : World) (h : Below Wb.heap.size Wb W) => (h.block w.heap.size (Array.getElem?_eq_some_iff.1 hXb).1).trans hXb)
  have HK := Lib.hid (fun (W : World) (h : Below Wb.heap.size Wb W) => hks.after h)
  have HBb := Lib.hid hbb
  have g10 := Lib.frozen_of_heap hx1 10
  obtain ⟨-, -, z10⟩ := pair_cells hx1
  clear hs hb1 hx1 hob hXb hbb hks HX0 HB0 HS0
  go_upto_region 2 with fail
  (try rw [hWb])
  clear hWb g10 z10
  obtain ⟨⟨x0, x1, x2, x3, x4⟩, ⟨x5, x6, x7, x8, x9⟩, x10⟩ := pair_cells (HX.out Wb (Below.refl _ _))
  go_wp2_with fail
  refine (cF.out Wb HBb.out _ (HK.out Wb (Below.refl _ _))).mono ?_
  rintro e w2 ⟨rfl, hb2⟩
  have HW2 := Lib.hid hb2
  have HB2 := Lib.hid (HBb.out.trans (hb2.mono HBb.out.size))
  clear hb2 cF x0 x1 x2 x3 x4 x5 x6 x7 x8 x9 x10
  cases fb with
  | false =>
    go_wp2_with fail
    refine (lalive16_any w2 (HE.out w2 HB2.out)).mono ?_
    rintro e w3 ⟨rfl, hb⟩
    have HBz := Lib.hid (HB2.out.trans (hb.mono HB2.out.size))
    clear hb
    go_wp2
    first | exact ⟨rfl, HBz.out⟩ | (go_ret; exact ⟨rfl, HBz.out⟩)
  | true =>
  have he := he HFb.out
  obtain ⟨⟨x0, x1, x2, x3, x4⟩, ⟨x5, x6, x7, x8, x9⟩, x10⟩ := pair_cells (HX.out w2 HW2.out)
  go_wp2_with fail
  refine (cM.out w2 HB2.out _ (HK.out w2 HW2.out) HFb.out).mono ?_
  rintro e w3 ⟨ma, mc, fa, fc, ta, tc, rfl, hb3⟩
  have HW3 := Lib.hid (HW2.out.trans (hb3.mono HW2.out.size))
  have HB3 := Lib.hid (HB2.out.trans (hb3.mono HB2.out.size))
  clear hb3 cM x0 x1 x2 x3 x4 x5 x6 x7 x8 x9 x10
  obtain ⟨ca, hca⟩ : ∃ y, (#[.int .i64 0, .int .i64 0, .int .i64 0, .string ⟨#[]⟩, .slice ma 0 mc] : Array Value) = y := ⟨_, rfl⟩
  obtain ⟨cb, hcb⟩ : ∃ y, (#[.int .i64 0, .int .i64 0, .int .i64 0, .int .i64 0, .string ⟨#[]⟩, .slice fa 0 fc, .slice ta 0 tc] : Array Value) = y := ⟨_, rfl⟩
  obtain ⟨wA, hwA⟩ : ∃ X, (w3.alloc (.cells #[.int .i64 0, .int .i64 0, .int .i64 0, .string ⟨#[]⟩, .slice none 0 0] 31)).alloc (.cells #[.int .i64 0, .int .i64 0, .int .i64 0, .int .i64 0, .string ⟨#[]⟩, .slice none 0 0, .slice none 0 0] 36) = X := ⟨_, rfl⟩
  have hbx : box2W w3 = wA := hwA
  have h1 := box2_one w3
  have h2 := box2_two w3 ca
  rw [hbx] at h1 h2
  have HZ1 := Lib.hid h1
  have HZ2 := Lib.hid h2
  clear h1 h2
  have h1 := box2_a w3 ca cb
  have h2 := box2_b w3 ca cb
  have h3 := box2_below w3 ca cb
  unfold box2F at h1 h2 h3
  rw [hbx] at h1 h2 h3
  clear hbx
  go_upto_region 5 with (first | (refine wpList_store_row rfl 31 (.tmp 3) (.tmp 28) rfl w3.heap.size ca rfl (by rw [← hca]; rfl) 31 _ (by (try rw [hwA]); exact HZ1.out) (by rw [← hca]; kernel_rfl) (by rw [← hca]; rfl) (by rw [← hca]; simp [Value.oneCell']) ?_) | (refine wpList_store_row rfl 36 (.tmp 4) (.tmp 29) rfl (w3.heap.size + 1) cb rfl (by rw [← hcb]; rfl) 36 _ (by (try rw [hwA]); exact HZ2.out) (by rw [← hcb]; kernel_rfl) (by rw [← hcb]; rfl) (by rw [← hcb]; simp [Value.oneCell']) ?_))
  (try rw [hwA])
  obtain ⟨w4, hW7⟩ : ∃ X, (wA.setRow w3.heap.size ca).setRow (w3.heap.size + 1) cb = X := ⟨_, rfl⟩
  rw [hW7] at h1 h2 h3
  rw [← hca] at h1
  rw [← hcb] at h2
  (try rw [hW7])
  have HaN := Lib.hid (Nat.le_refl w3.heap.size)
  obtain ⟨n5, hnA⟩ : ∃ y, w3.heap.size = y := ⟨_, rfl⟩
  rw [hnA] at h1 h2 HaN
  (try rw [hnA])
  have HaE := Lib.hid hnA
  have HaA := Lib.hid h1
  have HaP := Lib.hid h2
  have HaB := Lib.hid h3
  clear h1 h2 h3 hW7 hwA HZ1 HZ2 hca hcb hnA
  have q0 : (ee == 0) = false := beq_false_of_ne he
  have d0 : decide (ee = 0) = false := decide_eq_false he
  have HB4 := Lib.hid (HB3.out.trans (HaB.out.mono HB3.out.size))
  clear he
  go_wp2_with fail
  refine (lalive16_any w4 (HE.out w4 HB4.out)).mono ?_
  rintro e w5 ⟨rfl, hb5⟩
  have HB5 := Lib.hid (HB4.out.trans (hb5.mono HB4.out.size))
  clear hb5
  go_wp2
  first | exact ⟨rfl, HB5.out⟩ | (go_ret; exact ⟨rfl, HB5.out⟩)
end

section
open Go.RowKit
theorem wp_region_end {P : Program} {id : Nat} {ops : Array Oper} {Q : Exit → Act → World → Prop} {a0 : Act} {w0 : World} (R : World → World → Prop) (htrans : ∀ u v w, R u v → R v w → R u w) (hdrew : R w0 w0.drew)
    (V : List (SPR R)) (A : (Nat → Value) → Act) (n f : Nat) (ol : Oper)
    (hm : P.follows .mixedOrders = true) (hd : distinctB (ops.toList.take n) = true) (hb : backB ops.toList 0 = true) (hA : ∀ vs, puts (ops.toList.take n) vs 0 a0 = A vs)
    (hlast : lastB ops f n = true) (hol : ops[n]? = some ol)
    (hob : ObsR R P Q ops A w0 V (ops.toList.take n) 0)
    (hfin : ∀ vs w, R w0 w → (∀ k, k < n → (V.getD k (SPR.any R)).p (vs k) w) →
      if Region.wanted ol (yielded ops (A vs).tmps) = true then Oper.wp P ol (A vs) w (fun a w' => Q .normal a w') Q else Q .normal ((A vs).put ol.dst undef) w) :
    (Code.region id ops true).wp P Q a0 w0 := by
  unfold lastB at hlast
  rw [Bool.and_eq_true, decide_eq_true_eq] at hlast
  obtain ⟨hn, hreach⟩ := hlast
  refine wp_region_any hm ?_
  refine wpAny_inv (I := fun l a w => l.size = ops.size ∧ ((l.getD n false = true ∧ (∀ k, k < ops.size → l.getD k false = true) ∧ Q .normal a w) ∨ (l.getD n false = false ∧ (∀ k o, ops[k]? = some o → l.getD k false = true → ∀ e, e ∈ o.after → Region.binds .any e = true → l.getD e.on false = true) ∧
    ∃ vs, a = A vs ∧ R w0 w ∧ ∀ k, l.getD k false = true → (V.getD k (SPR.any R)).p (vs k) w))) (fun l a w h => h.1) ?_ ?_ _ _ _ _ ?_ ?_
  · rintro l a w i ⟨hl, hI⟩ hi
    obtain ⟨h0, o, ho, hall⟩ := mem_ready.1 hi
    have hlt : i < ops.size := (Array.getElem?_eq_some_iff.1 ho).1
    have hif : l.getD i false = false := by
      have : i < l.size := by omega
      simpa [this] using h0
    rcases hI with ⟨_, hall2, _⟩ | ⟨hnf, hc, vs, rfl, hw, hk⟩
    · rw [hall2 i hlt] at hif
      cases hif
    by_cases hin : i = n
    · subst hin
      obtain rfl : o = ol := by rw [hol] at ho; exact (Option.some.inj ho).symm
      have hdone : ∀ j, j < i → l.getD j false = true := fun j hj => by
        have hr := List.all_eq_true.1 hreach j (List.mem_range.2 hj)
        exact reach_done hc f i j o ho (fun e he hx => hall e he hx) hr
      have hst := hfin vs w hw (fun k hk' => hk k (hdone k hk'))
      have hfin2 : ∀ a' w', Q .normal a' w' → (l.setIfInBounds i true).size = ops.size ∧ (((l.setIfInBounds i true).getD i false = true ∧ (∀ k, k < ops.size → (l.setIfInBounds i true).getD k false = true) ∧ Q .normal a' w') ∨ ((l.setIfInBounds i true).getD i false = false ∧ (∀ k o, ops[k]? = some o → (l.setIfInBounds i true).getD k false = true → ∀ e, e ∈ o.after → Region.binds .any e = true → (l.setIfInBounds i true).getD e.on false = true) ∧
          ∃ vs, a' = A vs ∧ R w0 w' ∧ ∀ k, (l.setIfInBounds i true).getD k false = true → (V.getD k (SPR.any R)).p (vs k) w')) := by
        intro a' w' hq
        have hself : (l.setIfInBounds i true).getD i false = true := by
          have : i < l.size := by omega
          simp [this]
        refine ⟨by simpa using hl, .inl ⟨hself, fun k hk' => ?_, hq⟩⟩
        by_cases hki : k = i
        · subst hki; exact hself
        · rw [getD_set_ne false (Ne.symm hki)]
          exact hdone k (by omega)
      unfold wpOp
      simp only [ho]
      split
      · rename_i hw'
        rw [if_pos hw'] at hst
        exact .inl (Oper.wp_mono (fun a' w' h => hfin2 a' w' h) hst)
      · rename_i hw'
        rw [if_neg hw'] at hst
        exact hfin2 _ _ hst
    · have hi2 : i < n := by omega
      have hO := ObsR.at R P Q ops A w0 V (ops.toList.take n) 0 i o hob (by rw [List.getElem?_take_of_lt hi2]; simpa using ho)
      rw [Nat.zero_add] at hO
      have hput : ∀ v, (A vs).put o.dst v = A (upd vs i v) := fun v => by
        rw [← hA, ← hA, puts_upd (ops.toList.take n) vs 0 i a0 o v hd (by rw [List.getElem?_take_of_lt hi2]; simpa using ho), Nat.zero_add]
      have hst := hO vs w hw (fun j hj => hk _ (dep_done (fun e he hx => hall e he hx) hj)) (fun a' w' => (l.setIfInBounds i true).size = ops.size ∧ (((l.setIfInBounds i true).getD n false = true ∧ (∀ k, k < ops.size → (l.setIfInBounds i true).getD k false = true) ∧ Q .normal a' w') ∨ ((l.setIfInBounds i true).getD n false = false ∧ (∀ k o, ops[k]? = some o → (l.setIfInBounds i true).getD k false = true → ∀ e, e ∈ o.after → Region.binds .any e = true → (l.setIfInBounds i true).getD e.on false = true) ∧
          ∃ vs, a' = A vs ∧ R w0 w' ∧ ∀ k, (l.setIfInBounds i true).getD k false = true → (V.getD k (SPR.any R)).p (vs k) w')))
        (by
          intro v w' hv hbw
          have hmono : ∀ j, l.getD j false = true → (l.setIfInBounds i true).getD j false = true := fun j hj => by
            by_cases hji : j = i
            · subst hji; rw [hj] at hif; cases hif
            · rw [getD_set_ne false (Ne.symm hji)]; exact hj
          refine ⟨by simpa using hl, .inr ⟨by rw [getD_set_ne false hin]; exact hnf, fun k o' ho' hk' e he hx => ?_, upd vs i v, hput v, htrans _ _ _ hw hbw, fun k hk' => ?_⟩⟩
          · by_cases hki : k = i
            · subst hki
              obtain rfl : o = o' := Option.some.inj (ho.symm.trans ho')
              exact hmono _ (hall e he hx)
            · rw [getD_set_ne false (Ne.symm hki)] at hk'
              exact hmono _ (hc k o' ho' hk' e he hx)
          · by_cases hki : k = i
            · subst hki
              have e : upd vs k v k = v := by simp [upd]
              rw [e]
              exact hv
            · have e : upd vs i v k = vs k := by unfold upd; rw [if_neg hki]
              rw [e]
              refine (V.getD k (SPR.any R)).st _ _ _ (hk k ?_) hbw
              rwa [getD_set_ne false (Ne.symm hki)] at hk')
      unfold wpOp
      simp only [ho]
      split
      · rename_i hw'
        rw [if_pos hw'] at hst
        exact .inl hst
      · rename_i hw'
        rw [if_neg hw'] at hst
        exact hst
  · rintro l a w ⟨hl, hI⟩ hr
    rcases hI with ⟨_, _, hq⟩ | ⟨hnf, _⟩
    · exact hq
    · rw [ready_all hb hl hr n (by omega)] at hnf
      cases hnf
  · simp
  · obtain ⟨vs, hvs⟩ := puts_self (ops.toList.take n) 0 a0
    have hf : ∀ k, (Array.replicate ops.size false).getD k false = false := fun k => by
      by_cases h : k < ops.size
      · simp [h]
      · simp [h]
    refine ⟨by simp, .inr ⟨hf n, fun k _ _ hk => ?_, vs, by rw [← hA, hvs], hdrew, fun k hk => ?_⟩⟩
    · rw [hf k] at hk; cases hk
    · rw [hf k] at hk; cases hk
end

end Go.Proofs.YtceneblmllpdnaaDoor
