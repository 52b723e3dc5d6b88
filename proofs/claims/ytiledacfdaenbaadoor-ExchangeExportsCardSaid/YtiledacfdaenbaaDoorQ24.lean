/- Merged: PJ10, PK10, RL10. -/
import Derived.Test.YtiledacfdaenbaaDoorQ23
import Derived.Test.YtiledacfdaenbaaDoorQ03
import Derived.Laws.AppendOwnNone
namespace Go.Proofs.YtiledacfdaenbaaDoor

section
open Go.RowKit Go.PlainAid
set_option maxHeartbeats 16000000 in
set_option maxRecDepth 100000 in
theorem pDecode_any (l : List UInt8) (w : World) (hE : Env w) (hz : l.length ≤ 100000) :
    Calls Tryd.prog 12 #[.string (S l)] w fun e w' => ∃ u, e = .returned (.tuple #[RV (decE l).1 u, .int .i64 (decE l).2]) ∧ New w.heap.size (FL u (decE l).1.fields) w' ∧ Below w.heap.size w w' := by
  obtain ⟨q, er, hd⟩ : ∃ q er, decE l = (q, er) := ⟨_, _, rfl⟩
  rw [hd]
  obtain ⟨Q, hQ⟩ : ∃ Q, (fun (e : Ending) (w' : World) => ∃ u, e = .returned (.tuple #[RV q u, .int .i64 er]) ∧ New w.heap.size (FL u q.fields) w' ∧ Below w.heap.size w w') = Q := ⟨_, rfl⟩
  show Calls _ _ _ _ (fun (e : Ending) (w' : World) => ∃ u, e = .returned (.tuple #[RV q u, .int .i64 er]) ∧ New w.heap.size (FL u q.fields) w' ∧ Below w.heap.size w w')
  rw [hQ]
  have HQ : RowKit.Hid (∀ e w', (∃ u, e = .returned (.tuple #[RV q u, .int .i64 er]) ∧ New w.heap.size (FL u q.fields) w' ∧ Below w.heap.size w w') → Q e w') := by rw [← hQ]; exact fun _ _ h => h
  clear hQ
  have hR0 : (w.alloc (.cells #[.int .i64 0, .int .i64 0, .int .i64 0, .string ⟨#[]⟩, .slice none 0 0] 24)).heap[w.heap.size]? = some (.cells #[.int .i64 0, .int .i64 0, .int .i64 0, .string ⟨#[]⟩, .slice none 0 0] 24 (0, 0)) := heap_alloc_new w _
  have b0 : Below w.heap.size w (w.alloc (.cells #[.int .i64 0, .int .i64 0, .int .i64 0, .string ⟨#[]⟩, .slice none 0 0] 24)) := (Below.refl w.heap.size w).alloc (Nat.le_refl _) _
  obtain ⟨W0, hW0⟩ : ∃ W0, w.alloc (.cells #[.int .i64 0, .int .i64 0, .int .i64 0, .string ⟨#[]⟩, .slice none 0 0] 24) = W0 := ⟨_, rfl⟩
  rw [hW0] at hR0 b0
  have hlt0 : w.heap.size < W0.heap.size := by rw [← hW0]; simp
  have HW0 := Lib.hid hW0
  have B0 := Lib.hid b0
  have HR0 := Lib.hid hR0
  have HEW : RowKit.Hid (∀ W, Below W0.heap.size W0 W → Env W) := fun W hW => hE.after (b0.trans (hW.mono b0.size))
  have hsz := S_size l
  have hne : ∀ x, S_eq x l = S_eq x l := fun _ => rfl
  clear hW0 b0 hE hne
  by_cases hl : 9999 < l.length
  · have hH := hd
    unfold decE at hH
    rw [if_pos hl] at hH
    obtain ⟨rfl, rfl⟩ := Prod.mk.inj hH
    have t1 : decide ((9999 : Int) < (l.length : Int)) = true := decide_eq_true (by omega)
    have t2 : decide (9999 < l.length) = true := decide_eq_true hl
    obtain ⟨⟨r0, r1, r2, r3, r4⟩, g0, g1, g2, g3, g4⟩ := rcells hR0
    have hfin := Lib.hid (rec_set5 (x0 := .int .i64 0) (x1 := .int .i64 0) (x2 := .int .i64 0) (x3 := .string ⟨#[]⟩) (x4 := .slice none 0 0) hR0)
    have hb := Lib.hid (rec_below (x0 := .int .i64 0) (x1 := .int .i64 0) (x2 := .int .i64 0) (x3 := .string ⟨#[]⟩) (x4 := .slice none 0 0) B0.out)
    unfold setR5 at hfin hb
    clear hH hd hR0 hl
    generalize l.length = n at *
    go_enter Tryd.func12, Tryd.ntmps12
    go_upto_region 1 with fail
    rw [HW0.out]
    go_wp2
    (try simp only [Exit.inBlock, Exit.then])
    refine bodyPost_ret (results_row_tmp10 rfl _ _ w.heap.size _ _ _ _ rfl hfin.out Tryd.underlying24 rfl (by kernel_rfl)) rfl ?_
    exact HQ.out _ _ ⟨_, rfl, fl_none _ _, hb.out⟩
  have t1 : decide ((9999 : Int) < (l.length : Int)) = false := decide_eq_false (by omega)
  have t2 : decide (9999 < l.length) = false := decide_eq_false hl
  have HD : RowKit.Hid ((match recE l with | none => (rec0, 3) | some r => if encX r = (l, 0) then (r, 0) else (rec0, 3)) = (q, er)) := by
    unfold RowKit.Hid
    rw [← hd]
    unfold decE
    rw [if_neg hl]
    rfl
  have c1 := Lib.hid (read_any l W0 (HEW.out W0 (Below.refl _ _)) hz)
  have hln := hz
  clear hd hR0 hl
  go_enter Tryd.func12, Tryd.ntmps12
  go_wp2_with fail
  rw [HW0.out]
  refine c1.out.mono ?_
  rintro e w1 ⟨r, u, ok, rfl, b1, hnew, hcase⟩
  obtain ⟨ua, uc, hu, -, -⟩ := hnew.here.length
  subst hu
  have hb2 := b1.alloc (w := w1) b1.size (.cells #[.int .i64 r.id, .int .i64 r.ver, .int .i64 r.kind, .string (S r.lang), .slice ua r.fields.length uc] 24)
  have hR2 : (w1.alloc (.cells #[.int .i64 r.id, .int .i64 r.ver, .int .i64 r.kind, .string (S r.lang), .slice ua r.fields.length uc] 24)).heap[w.heap.size]? = some (.cells #[.int .i64 0, .int .i64 0, .int .i64 0, .string ⟨#[]⟩, .slice none 0 0] 24 (0, 0)) := (hb2.block w.heap.size hlt0).trans HR0.out
  have hX2 : (w1.alloc (.cells #[.int .i64 r.id, .int .i64 r.ver, .int .i64 r.kind, .string (S r.lang), .slice ua r.fields.length uc] 24)).heap[w1.heap.size]? = some (.cells #[.int .i64 r.id, .int .i64 r.ver, .int .i64 r.kind, .string (S r.lang), .slice ua r.fields.length uc] 24 (0, 0)) := heap_alloc_new w1 _
  have hn2 := hnew.after ((Below.refl w1.heap.size w1).alloc (Nat.le_refl _) (.cells #[.int .i64 r.id, .int .i64 r.ver, .int .i64 r.kind, .string (S r.lang), .slice ua r.fields.length uc] 24))
  have hlt1 : w.heap.size < w1.heap.size := Nat.lt_of_lt_of_le hlt0 b1.size
  have hlt2 : w1.heap.size < (w1.alloc (.cells #[.int .i64 r.id, .int .i64 r.ver, .int .i64 r.kind, .string (S r.lang), .slice ua r.fields.length uc] 24)).heap.size := by simp
  obtain ⟨W2, hW2⟩ : ∃ W2, w1.alloc (.cells #[.int .i64 r.id, .int .i64 r.ver, .int .i64 r.kind, .string (S r.lang), .slice ua r.fields.length uc] 24) = W2 := ⟨_, rfl⟩
  rw [hW2] at hb2 hR2 hX2 hn2 hlt2
  have HW2 := Lib.hid hW2
  have HX2 := Lib.hid hX2
  have HR2 := Lib.hid hR2
  have HN2 := Lib.hid hn2
  have B2 := Lib.hid (B0.out.trans (hb2.mono B0.out.size))
  have HE2 := Lib.hid (HEW.out W2 hb2)
  clear hb2 hX2 hn2 hW2 hnew b1 hR2 c1
  unfold RV
  rcases hcase with ⟨hrec, rfl⟩ | ⟨hrec, rfl⟩
  · have hH := HD.out
    rw [hrec] at hH
    obtain ⟨rfl, rfl⟩ := Prod.mk.inj hH
    obtain ⟨⟨r0, r1, r2, r3, r4⟩, g0, g1, g2, g3, g4⟩ := rcells HR2.out
    have hfin := Lib.hid (rec_set5 (x0 := .int .i64 0) (x1 := .int .i64 0) (x2 := .int .i64 0) (x3 := .string ⟨#[]⟩) (x4 := .slice Option.none 0 0) HR2.out)
    have hb := Lib.hid (rec_below (x0 := .int .i64 0) (x1 := .int .i64 0) (x2 := .int .i64 0) (x3 := .string ⟨#[]⟩) (x4 := .slice Option.none 0 0) B2.out)
    unfold setR5 at hfin hb
    clear hH hrec HD
    go_upto_if 18 with fail
    rw [HW2.out]
    go_wp2
    (try simp only [Exit.inBlock, Exit.then])
    refine bodyPost_ret (results_row_tmp10 rfl _ _ w.heap.size _ _ _ _ rfl hfin.out Tryd.underlying24 rfl (by kernel_rfl)) rfl ?_
    exact HQ.out _ _ ⟨_, rfl, fl_none _ _, hb.out⟩
  have hle := recE_le l r hrec
  have cE := pEncode_any r (.slice ua r.fields.length uc) W2 HE2.out HN2.out.here (by have := hle.1; unfold maxLen; omega) (fun i hi j hj => by have := hle.2 i hi j hj; omega)
  obtain ⟨es, ee, hee⟩ : ∃ es ee, encX r = (es, ee) := ⟨_, _, rfl⟩
  rw [hee] at cE
  unfold RV at cE
  have CE := Lib.hid cE
  have HH : RowKit.Hid ((if (es, ee) = (l, (0 : Int)) then (r, (0 : Int)) else (rec0, 3)) = (q, er)) := by
    have hH := HD.out
    rw [hrec] at hH
    simp only [hee] at hH
    exact hH
  obtain ⟨⟨x0, x1, x2, x3, x4⟩, -⟩ := rcells HX2.out
  clear cE hee hle HD hrec
  go_wp2_with fail
  rw [HW2.out]
  refine CE.out.mono ?_
  rintro e w3 ⟨rfl, b3⟩
  have hR3 := (b3.block w.heap.size (Nat.lt_trans hlt1 hlt2)).trans HR2.out
  have hX3 := (b3.block w1.heap.size hlt2).trans HX2.out
  have B3 := Lib.hid (B2.out.trans (b3.mono B2.out.size))
  have HN3 := Lib.hid (HN2.out.after b3)
  clear b3 CE x0 x1 x2 x3 x4
  obtain ⟨⟨r0, r1, r2, r3, r4⟩, g0, g1, g2, g3, g4⟩ := rcells hR3
  obtain ⟨⟨x0, x1, x2, x3, x4⟩, -⟩ := rcells hX3
  have hq := S_eq es l
  by_cases hok : es = l ∧ ee = 0
  · obtain ⟨rfl, rfl⟩ := hok
    have hH := HH.out
    rw [if_pos rfl] at hH
    obtain ⟨rfl, rfl⟩ := Prod.mk.inj hH
    rw [decide_eq_true rfl] at hq
    have hfin := Lib.hid (rec_set5 (x0 := .int .i64 r.id) (x1 := .int .i64 r.ver) (x2 := .int .i64 r.kind) (x3 := .string (S r.lang)) (x4 := .slice ua r.fields.length uc) hR3)
    have hb := Lib.hid (rec_below (x0 := .int .i64 r.id) (x1 := .int .i64 r.ver) (x2 := .int .i64 r.kind) (x3 := .string (S r.lang)) (x4 := .slice ua r.fields.length uc) B3.out)
    have hnn : New W0.heap.size (FL (.slice ua r.fields.length uc) r.fields) (setR5 w3 w.heap.size (.int .i64 r.id) (.int .i64 r.ver) (.int .i64 r.kind) (.string (S r.lang)) (.slice ua r.fields.length uc)) :=
      HN3.out.on (by rw [rec_size]; exact Nat.le_refl _) (fun i hi _ => rec_other i (by omega))
    have HNN := Lib.hid (hnn.mono (B := w.heap.size) (Nat.le_of_lt hlt0))
    unfold setR5 at hfin hb HNN
    clear hH HH hR3 hX3 hnn
    generalize S es = ses at *
    go_wp2
    (try simp only [Exit.inBlock, Exit.then])
    refine bodyPost_ret (results_row_tmp10 rfl _ _ w.heap.size _ _ _ _ rfl hfin.out Tryd.underlying24 rfl (by kernel_rfl)) rfl ?_
    exact HQ.out _ _ ⟨_, rfl, HNN.out, hb.out⟩
  · have hH := HH.out
    rw [if_neg (fun h => hok ⟨(Prod.mk.inj h).1, (Prod.mk.inj h).2⟩)] at hH
    obtain ⟨rfl, rfl⟩ := Prod.mk.inj hH
    have hfin := Lib.hid (rec_set5 (x0 := .int .i64 0) (x1 := .int .i64 0) (x2 := .int .i64 0) (x3 := .string ⟨#[]⟩) (x4 := .slice none 0 0) hR3)
    have hb := Lib.hid (rec_below (x0 := .int .i64 0) (x1 := .int .i64 0) (x2 := .int .i64 0) (x3 := .string ⟨#[]⟩) (x4 := .slice none 0 0) B3.out)
    unfold setR5 at hfin hb
    clear hH HH hR3 hX3
    by_cases h0 : ee = 0
    · rw [decide_eq_false (fun h => hok ⟨h, h0⟩)] at hq
      subst h0
      clear hok
      generalize S es = ses at *
      go_wp2
      (try simp only [Exit.inBlock, Exit.then])
      refine bodyPost_ret (results_row_tmp10 rfl _ _ w.heap.size _ _ _ _ rfl hfin.out Tryd.underlying24 rfl (by kernel_rfl)) rfl ?_
      exact HQ.out _ _ ⟨_, rfl, fl_none _ _, hb.out⟩
    · have t0 : (ee != 0) = true := by simpa using h0
      clear hq hok h0
      go_wp2
      (try simp only [Exit.inBlock, Exit.then])
      refine bodyPost_ret (results_row_tmp10 rfl _ _ w.heap.size _ _ _ _ rfl hfin.out Tryd.underlying24 rfl (by kernel_rfl)) rfl ?_
      exact HQ.out _ _ ⟨_, rfl, fl_none _ _, hb.out⟩
end

section
open Go.RowKit Go.PlainAid
def badF (l : List UInt8) : Prop := numF l 0 5 < 26 ∨ (l.length : Int) < numF l 0 5
instance (l : List UInt8) : Decidable (badF l) := by unfold badF; infer_instance
theorem splitF_nil : splitF [] = some [] := by
  rw [splitF]
  exact if_pos rfl
theorem splitF_bad (l : List UInt8) (h0 : l ≠ []) (h : badF l) : splitF l = none := by
  rw [splitF, if_neg (fun e => h0 (List.eq_nil_of_length_eq_zero e)), dif_pos (show numF l 0 5 < 26 ∨ (l.length : Int) < numF l 0 5 from h)]
theorem splitF_go (l : List UInt8) (h0 : l ≠ []) (h : ¬ badF l) (n : Nat) (hn : numF l 0 5 = n) : splitF l = (splitF (l.drop n)).map (l.take n :: ·) := by
  rw [splitF, if_neg (fun e => h0 (List.eq_nil_of_length_eq_zero e)), dif_neg (show ¬ (numF l 0 5 < 26 ∨ (l.length : Int) < numF l 0 5) from h), hn, Int.toNat_natCast]
theorem numF_dec (l : List UInt8) (h : 5 ≤ l.length) : numF l 0 5 = if (decV (l.take 5)).2 = true then ((decV (l.take 5)).1 : Int) else -1 := by
  unfold numF decV
  rw [List.drop_zero]
  cases e : (l.take 5).all digB
  · rw [if_pos (.inr rfl)]
    rfl
  · rw [if_neg (by rintro (g | g); omega; cases g)]
    rfl

set_option maxHeartbeats 8000000 in
theorem size_any (l : List UInt8) (hz : l.length ≤ 100000000) (w : World) :
    Calls Tryd.prog 32 #[.string (S l)] w fun e w' => w' = w ∧ ∃ (n : Nat) (b : Bool), e = .returned (.tuple #[.int .i64 (n : Int), .bool b]) ∧ ((¬ badF l ∧ b = true ∧ numF l 0 5 = n) ∨ (badF l ∧ b = false)) := by
  have hs := S_size l
  obtain ⟨z, hz2⟩ : ∃ z, l.length = z := ⟨_, rfl⟩
  by_cases h5 : l.length < 5
  · have HB : RowKit.Hid (badF l) := by
      left
      unfold numF
      rw [if_pos (.inl (by omega))]
      decide
    rw [hz2] at hs h5
    have t1 : decide ((z : Int) < 5) = true := decide_eq_true (by omega)
    have t2 : decide (z < 5) = true := decide_eq_true h5
    clear hz2 hz h5
    generalize S l = s at *
    go_enter Tryd.func32, Tryd.ntmps32
    go_wp2
    go_ret2
    exact ⟨rfl, 0, false, rfl, .inr ⟨HB.out, rfl⟩⟩
  obtain ⟨x, b, hb⟩ : ∃ x b, decV (l.take 5) = (x, b) := ⟨_, _, rfl⟩
  have hN := numF_dec l (by omega)
  rw [hb] at hN
  simp only at hN
  have cD := Lib.hid (fun W => decimal_any (l.take 5) (by rw [List.length_take]; omega) x b hb W)
  have hx : (S l).extract 0 5 = S (l.take 5) := by rw [S_extract, List.drop_zero]
  have HFin : RowKit.Hid (∀ c : Bool, c = (b && decide (26 ≤ x) && decide (x ≤ z)) → ((¬ badF l ∧ c = true ∧ numF l 0 5 = x) ∨ (badF l ∧ c = false))) := by
    intro c hc
    unfold badF
    rw [hN, hz2]
    cases b with
    | false =>
      right
      refine ⟨.inl (by rw [if_neg (by decide)]; decide), ?_⟩
      rw [hc]; rfl
    | true =>
      simp only [if_pos, Bool.true_and] at hc ⊢
      by_cases h1 : 26 ≤ x
      · by_cases h2 : x ≤ z
        · left
          rw [decide_eq_true h1, decide_eq_true h2] at hc
          exact ⟨by omega, hc, trivial⟩
        · right
          rw [decide_eq_true h1, decide_eq_false h2] at hc
          exact ⟨by omega, hc⟩
      · right
        rw [decide_eq_false h1] at hc
        exact ⟨by omega, hc⟩
  rw [hz2] at hs h5
  have t1 : decide ((z : Int) < 5) = false := decide_eq_false (by omega)
  have t2 : decide (z < 5) = false := decide_eq_false h5
  have i5 : (5 : Int) ≤ (z : Int) := by omega
  have i6 : 5 ≤ z := by omega
  clear hz2 hz h5 hb hN
  generalize S l = s at *
  generalize S (l.take 5) = s5 at *
  go_enter Tryd.func32, Tryd.ntmps32
  go_wp2_with fail
  refine (cD.out _).mono ?_
  rintro e w1 ⟨rfl, hw1⟩
  rw [hw1]
  clear hw1 t1 t2 i5 i6 hx
  cases b with
  | false =>
    go_wp2
    go_ret2
    exact ⟨rfl, x, _, rfl, HFin.out _ rfl⟩
  | true =>
    by_cases h1 : 26 ≤ x
    · have t3 : decide ((26 : Int) ≤ (x : Int)) = true := decide_eq_true (by omega)
      have t4 : decide (26 ≤ x) = true := decide_eq_true h1
      by_cases h2 : x ≤ z
      · have t5 : decide ((x : Int) ≤ (z : Int)) = true := decide_eq_true (by omega)
        have t6 : decide (x ≤ z) = true := decide_eq_true h2
        have H4 := Lib.hid t4
        have H6 := Lib.hid t6
        clear h1 h2
        go_wp2
        go_ret2
        exact ⟨rfl, x, _, rfl, HFin.out true (by rw [H4.out, H6.out]; rfl)⟩
      · have t5 : decide ((x : Int) ≤ (z : Int)) = false := decide_eq_false (by omega)
        have t6 : decide (x ≤ z) = false := decide_eq_false h2
        have H4 := Lib.hid t4
        have H6 := Lib.hid t6
        clear h1 h2
        go_wp2
        go_ret2
        exact ⟨rfl, x, _, rfl, HFin.out false (by rw [H4.out, H6.out]; rfl)⟩
    · have t3 : decide ((26 : Int) ≤ (x : Int)) = false := decide_eq_false (by omega)
      have t4 : decide (26 ≤ x) = false := decide_eq_false h1
      have H4 := Lib.hid t4
      clear h1
      go_wp2
      go_ret2
      exact ⟨rfl, x, _, rfl, HFin.out false (by rw [H4.out]; rfl)⟩

theorem strs_new {B : Nat} {v : Value} {L : List (List UInt8)} {w : World} (h : w.ownsRow B 9 1 v L.length (L.map strB)) : New B (BL v L) w := by
  intro w' hs hb
  have h2 := own_same h hb
  rcases h2.2 with ⟨rfl, h0⟩ | ⟨g, cap, cur, rfl, hg0, hg, hc, hm, hsz, ht⟩
  · have : L = [] := List.eq_nil_of_length_eq_zero h0
    subst this
    exact ⟨none, 0, rfl, Nat.le_refl _, Nat.zero_le _, fun _ => rfl, fun i hi => by cases hi⟩
  · refine ⟨_, cap, rfl, hc, hm, (fun h => by cases h), fun i hi => ⟨g, 0, rfl, (Array.getElem?_eq_some_iff.1 hg).1, ?_⟩⟩
    have := h2.cells (g := g) rfl i (strB (L.getD i [])) (by rw [List.getElem?_map, List.getElem?_eq_getElem hi, List.getD_eq_getElem?_getD, List.getElem?_eq_getElem hi]; rfl)
    have hadd : (⟨g, 0, none⟩ : Addr).add i = ⟨g, i, none⟩ := by unfold Addr.add; split <;> simp_all
    rw [hadd] at this
    rw [Nat.zero_add]
    exact this

set_option maxHeartbeats 16000000 in
set_option maxRecDepth 100000 in
theorem pSplit_any (l : List UInt8) (hz : l.length ≤ 10000000) (L : List (List UInt8)) (er : Int) (hr : splR l = (L, er)) (w : World) :
    Calls Tryd.prog 18 #[.string (S l)] w fun e w' => ∃ v, e = .returned (.tuple #[v, .int .i64 er]) ∧ New w.heap.size (BL v L) w' ∧ Below w.heap.size w w' := by
  obtain ⟨Q, hQ⟩ : ∃ Q, (fun (e : Ending) (w' : World) => ∃ v, e = .returned (.tuple #[v, .int .i64 er]) ∧ New w.heap.size (BL v L) w' ∧ Below w.heap.size w w') = Q := ⟨_, rfl⟩
  rw [hQ]
  have HQ : RowKit.Hid (∀ e w', (∃ v, e = .returned (.tuple #[v, .int .i64 er]) ∧ New w.heap.size (BL v L) w' ∧ Below w.heap.size w w') → Q e w') := by rw [← hQ]; exact fun _ _ h => h
  clear hQ
  obtain ⟨i0, hi0, hz0, hz1, hz2⟩ := info_string
  have HI := Lib.hid hi0
  have HZ0 := Lib.hid hz0
  have HZ1 := Lib.hid hz1
  have HZ2 := Lib.hid hz2
  have HNone : RowKit.Hid (splitF l = none → L = [] ∧ er = 3) := by
    intro h
    unfold splR at hr
    rw [h] at hr
    exact ⟨(Prod.mk.inj hr).1.symm, (Prod.mk.inj hr).2.symm⟩
  have HSome : RowKit.Hid (∀ M, splitF l = some M → L = M ∧ er = 0) := by
    intro M h
    unfold splR at hr
    rw [h] at hr
    exact ⟨(Prod.mk.inj hr).1.symm, (Prod.mk.inj hr).2.symm⟩
  have HD0 : RowKit.Hid (splitF l = (splitF l).map (([] : List (List UInt8)) ++ ·)) := by
    unfold RowKit.Hid
    cases splitF l <;> rfl
  clear hi0 hz0 hz1 hz2 hr
  go_enter Tryd.func18, Tryd.ntmps18
  go_wp2
  go_loopw [0, 4] (fun sv pv wr => ∃ (rest : List UInt8) (D : List (List UInt8)) (ao : Option Addr) (cp n : Nat), sv = .string (S rest) ∧ pv = .slice ao n cp ∧ D.length = n ∧ rest.length + 26 * n ≤ l.length ∧
    RowKit.Hid (splitF l = (splitF rest).map (D ++ ·)) ∧ RowKit.Hid (wr.ownsRow w.heap.size 9 1 (.slice ao n cp) n (D.map strB)) ∧ RowKit.Hid (Below w.heap.size w wr)) (fun sv _ _ => strL sv)
  case atStart => exact ⟨l, [], none, 0, 0, rfl, rfl, rfl, by omega, HD0, World.ownsRow_nil _ _ _ _, Below.refl _ _⟩
  case round =>
    obtain ⟨rest, D, ao, cp, n, rfl, rfl, hDn, hrl, HD, HRow, HB⟩ := hrel
    clear HD0
    by_cases h0 : rest = []
    · subst h0
      have hM := HD.out
      rw [splitF_nil] at hM
      obtain ⟨rfl, rfl⟩ := HSome.out _ hM
      have e1 : (S []).toList = [] := by rw [ByteArray.toList_eq]; rfl
      have e2 : (S []).toList.isEmpty = true := by rw [e1]; rfl
      have hrow := HRow.out
      clear hM HD
      go_wp2
      refine HQ.out _ _ ⟨_, rfl, strs_new (L := D ++ []) ?_, HB.out⟩
      rw [List.append_nil, hDn]
      exact hrow
    · obtain ⟨e1, e2⟩ := S_facts rest h0
      have hrz := S_size rest
      have cS := Lib.hid (size_any rest (by omega) wr)
      have HBad := Lib.hid (splitF_bad rest h0)
      have HGo := Lib.hid (splitF_go rest h0)
      clear h0
      go_wp2_with fail
      refine cS.out.mono ?_
      rintro e w1 ⟨hw1, q, b, rfl, hcase⟩
      rw [hw1]
      clear hw1
      rcases hcase with ⟨hg, rfl, hq⟩ | ⟨hbad, rfl⟩
      · have hqz : q ≤ rest.length := by unfold badF at hg; omega
        have hq26 : 26 ≤ q := by unfold badF at hg; omega
        have hgo := HGo.out hg q hq
        have HD2 : RowKit.Hid (splitF l = (splitF (rest.drop q)).map ((D ++ [rest.take q]) ++ ·)) := by
          unfold RowKit.Hid
          rw [HD.out, hgo]
          cases splitF (rest.drop q) <;> simp
        have hx1 : (S rest).extract 0 q = S (rest.take q) := by rw [S_extract, List.drop_zero]
        have hx2 : (S rest).extract q rest.length = S (rest.drop q) := by rw [S_extract, List.take_length]
        have hl1 : (rest.drop q).length + 26 * (n + 1) ≤ l.length := by rw [List.length_drop]; omega
        have hl2 : (rest.drop q).length < rest.length := by rw [List.length_drop]; omega
        have HL2 := Lib.hid (And.intro hl1 hl2)
        obtain ⟨z, hz⟩ : ∃ z, rest.length = z := ⟨_, rfl⟩
        have HRz := Lib.hid hrz
        rw [hz] at hrz hx2 hqz
        have i1 : (q : Int) ≤ (z : Int) := by omega
        have i0' : (0 : Int) ≤ (q : Int) := by omega
        have hbw := HB.out.size
        have hn26 : n ≤ 10000000 := by omega
        clear hg hq hgo HGo HBad hl1 hl2 hz
        obtain ⟨sr, hsr⟩ : ∃ s, S rest = s := ⟨_, rfl⟩
        rw [hsr] at hx1 hx2 hrz e1 e2 HRz ⊢
        clear hsr
        go_wp2_with (at_builtin; go_loud (refine wpList_append_own _ rfl _ _ 38 rfl w.heap.size 9 i0 (.string ⟨#[]⟩) 1 16 Tryd.underlying38 HI.out HZ0.out HZ1.out HZ2.out rfl (by decide) _ _ _ rfl (HRow.out.alloc _) ⟨wr.heap.size, 0, none⟩ 1 1 [strB (rest.take q)] rfl rfl (cells_one _ _ _) (by intro u hu; simp at hu; subst hu; rfl) (by unfold maxLen; omega) (by omega) (by simp; omega) ?_))
        intro v2 w2 hown2 hg2 _
        have hb2 : Below w.heap.size w w2 := (HB.out.alloc hbw _).grown hg2 (by simp; omega) (fun j hj => ((HRow.out.alloc (.cells #[strB (rest.take q)] 9)).lt j hj).1)
        obtain ⟨ao2, cp2, rfl⟩ := own_form hown2
        have HRow2 : RowKit.Hid (w2.ownsRow w.heap.size 9 1 (.slice ao2 (n + 1) cp2) (n + 1) ((D ++ [rest.take q]).map strB)) := by
          unfold RowKit.Hid
          rw [List.map_append]
          exact hown2
        have HB2 := Lib.hid hb2
        clear hown2 hg2 hb2 HRow HB HD
        go_wp2
        go_roundw
        case rel => exact ⟨rest.drop q, D ++ [rest.take q], _, _, n + 1, by first | rfl | trivial, by first | rfl | trivial, by rw [List.length_append, hDn]; rfl, HL2.out.1, HD2, HRow2, HB2⟩
        case measure =>
          show (S (rest.drop q)).size < (S rest).size
          rw [S_size, S_size]
          exact HL2.out.2
      · have hM := HD.out
        rw [HBad.out hbad] at hM
        obtain ⟨rfl, rfl⟩ := HNone.out hM
        clear hM HD hbad HGo HBad
        go_wp2
        exact HQ.out _ _ ⟨_, rfl, fun _ _ _ => ⟨none, 0, rfl, Nat.le_refl _, Nat.zero_le _, fun _ => rfl, fun i hi => by cases hi⟩, HB.out⟩
end

section
open Go.RowKit Go.PlainAid
/-- A slice of these records. -/
def RL (v : Value) (L : List Rec) (w : World) : Prop :=
  ∃ a cap, v = .slice a L.length cap ∧ L.length ≤ cap ∧ cap ≤ maxLen ∧ (a = none → cap = 0) ∧ ∀ i, i < L.length → ∃ g o u, a = some ⟨g, o, none⟩ ∧ g < w.heap.size ∧
    w.cell? ⟨g, o + i * 5, none⟩ = some (.int .i64 (L.getD i rec0).id) ∧ w.cell? ⟨g, o + i * 5 + 1, none⟩ = some (.int .i64 (L.getD i rec0).ver) ∧ w.cell? ⟨g, o + i * 5 + 2, none⟩ = some (.int .i64 (L.getD i rec0).kind) ∧
    w.cell? ⟨g, o + i * 5 + 3, none⟩ = some (.string (S (L.getD i rec0).lang)) ∧ w.cell? ⟨g, o + i * 5 + 4, none⟩ = some u ∧ FL u (L.getD i rec0).fields w
theorem RL.nil (w : World) : RL (.slice none 0 0) [] w := ⟨none, 0, rfl, Nat.le_refl _, Nat.zero_le _, fun _ => rfl, fun i hi => by cases hi⟩
theorem RL.after {v : Value} {L : List Rec} {w w' : World} (h : RL v L w) (hb : Below w.heap.size w w') : RL v L w' := by
  obtain ⟨a, cap, rfl, hc, hm, hn, hx⟩ := h
  refine ⟨a, cap, rfl, hc, hm, hn, fun i hi => ?_⟩
  obtain ⟨g, o, u, rfl, hg, h0, h1, h2, h3, h4, hq⟩ := hx i hi
  exact ⟨g, o, u, rfl, Nat.lt_of_lt_of_le hg hb.size, (hb.cell (p := ⟨g, o + i * 5, none⟩) hg).trans h0, (hb.cell (p := ⟨g, o + i * 5 + 1, none⟩) hg).trans h1,
    (hb.cell (p := ⟨g, o + i * 5 + 2, none⟩) hg).trans h2, (hb.cell (p := ⟨g, o + i * 5 + 3, none⟩) hg).trans h3, (hb.cell (p := ⟨g, o + i * 5 + 4, none⟩) hg).trans h4, hq.after hb⟩
theorem RL.length {v : Value} {L : List Rec} {w : World} (h : RL v L w) : ∃ a cap, v = .slice a L.length cap ∧ L.length ≤ cap ∧ cap ≤ maxLen := by
  obtain ⟨a, cap, h1, h2, h3, _⟩ := h
  exact ⟨a, cap, h1, h2, h3⟩
theorem RL.at {v : Value} {L : List Rec} {w : World} (h : RL v L w) (k : Nat) (hk : k < L.length) : ∃ g o cap u, v = .slice (some ⟨g, o, none⟩) L.length cap ∧ g < w.heap.size ∧
    w.cell? ⟨g, o + k * 5, none⟩ = some (.int .i64 (L.getD k rec0).id) ∧ w.cell? ⟨g, o + k * 5 + 1, none⟩ = some (.int .i64 (L.getD k rec0).ver) ∧ w.cell? ⟨g, o + k * 5 + 2, none⟩ = some (.int .i64 (L.getD k rec0).kind) ∧
    w.cell? ⟨g, o + k * 5 + 3, none⟩ = some (.string (S (L.getD k rec0).lang)) ∧ w.cell? ⟨g, o + k * 5 + 4, none⟩ = some u ∧ FL u (L.getD k rec0).fields w := by
  obtain ⟨a, cap, rfl, hc, hm, hn, hx⟩ := h
  obtain ⟨g, o, u, rfl, hh⟩ := hx k hk
  exact ⟨g, o, cap, u, rfl, hh⟩

/-! Rows of the call's own. -/
def encR (r : Rec) (u : Value) : List Value := [.int .i64 r.id, .int .i64 r.ver, .int .i64 r.kind, .string (S r.lang), u]
def cellsR : List Rec → List Value → List Value
  | r :: t, u :: us => encR r u ++ cellsR t us
  | _, _ => []
theorem cellsR_app : ∀ (L : List Rec) (us : List Value) (M : List Rec) (vs : List Value), us.length = L.length → cellsR (L ++ M) (us ++ vs) = cellsR L us ++ cellsR M vs
  | [], [], M, vs, _ => by simp [cellsR]
  | a :: s, x :: xs, M, vs, h => by
    have := cellsR_app s xs M vs (by simpa using h)
    simp only [List.cons_append, cellsR, this, List.append_assoc]
theorem cellsR_snoc (L : List Rec) (us : List Value) (f : Rec) (u : Value) (h : us.length = L.length) : cellsR (L ++ [f]) (us ++ [u]) = cellsR L us ++ encR f u := by
  rw [cellsR_app L us [f] [u] h]
  simp [cellsR]
theorem cellsR_at : ∀ (L : List Rec) (us : List Value) (i : Nat), us.length = L.length → i < L.length → (cellsR L us)[i * 5]? = some (.int .i64 (L.getD i rec0).id) ∧ (cellsR L us)[i * 5 + 1]? = some (.int .i64 (L.getD i rec0).ver) ∧
    (cellsR L us)[i * 5 + 2]? = some (.int .i64 (L.getD i rec0).kind) ∧ (cellsR L us)[i * 5 + 3]? = some (.string (S (L.getD i rec0).lang)) ∧ (cellsR L us)[i * 5 + 4]? = some (us.getD i .nilIface)
  | [], _, _, _, h => by cases h
  | a :: s, x :: xs, 0, _, _ => ⟨rfl, rfl, rfl, rfl, rfl⟩
  | a :: s, x :: xs, i + 1, hl, h => by
    have := cellsR_at s xs i (by simpa using hl) (by simpa using h)
    have e : cellsR (a :: s) (x :: xs) = .int .i64 a.id :: .int .i64 a.ver :: .int .i64 a.kind :: .string (S a.lang) :: x :: cellsR s xs := rfl
    rw [e, show (i + 1) * 5 = i * 5 + 1 + 1 + 1 + 1 + 1 by omega]
    simp only [List.getElem?_cons_succ]
    exact this
theorem cellsR_length : ∀ (L : List Rec) (us : List Value), us.length = L.length → (cellsR L us).length = L.length * 5
  | [], _, _ => by simp [cellsR]
  | f :: t, u :: us, h => by
    have := cellsR_length t us (by simpa using h)
    simp only [cellsR, List.length_append, this, encR, List.length_cons, List.length_nil]
    omega
theorem cellsR_news {g : Nat} {w : World} : ∀ (L : List Rec) (us : List Value) (o : Nat), us.length = L.length →
    (∀ i, i < L.length → w.cell? ⟨g, o + i * 5, none⟩ = some (.int .i64 (L.getD i rec0).id) ∧ w.cell? ⟨g, o + i * 5 + 1, none⟩ = some (.int .i64 (L.getD i rec0).ver) ∧ w.cell? ⟨g, o + i * 5 + 2, none⟩ = some (.int .i64 (L.getD i rec0).kind) ∧
      w.cell? ⟨g, o + i * 5 + 3, none⟩ = some (.string (S (L.getD i rec0).lang)) ∧ w.cell? ⟨g, o + i * 5 + 4, none⟩ = some (us.getD i .nilIface)) →
    ∀ j u, (cellsR L us)[j]? = some u → w.cell? ⟨g, o + j, none⟩ = some u
  | [], _, _, _, _, j, u, hu => by simp [cellsR] at hu
  | f :: t, x :: xs, o, hl, h, j, u, hu => by
    have e : cellsR (f :: t) (x :: xs) = .int .i64 f.id :: .int .i64 f.ver :: .int .i64 f.kind :: .string (S f.lang) :: x :: cellsR t xs := rfl
    rw [e] at hu
    have h0 := h 0 (by simp)
    match j, hu with
    | 0, hu => simp at hu; subst hu; simpa using h0.1
    | 1, hu => simp at hu; subst hu; simpa using h0.2.1
    | 2, hu => simp at hu; subst hu; simpa using h0.2.2.1
    | 3, hu => simp at hu; subst hu; simpa using h0.2.2.2.1
    | 4, hu => simp at hu; subst hu; simpa using h0.2.2.2.2
    | j + 5, hu =>
      simp only [List.getElem?_cons_succ] at hu
      have := cellsR_news t xs (o + 5) (by simpa using hl) (fun i hi => by
        have := h (i + 1) (by simpa using hi)
        rw [show o + (i + 1) * 5 = o + 5 + i * 5 by omega] at this
        exact this) j u hu
      rwa [show o + 5 + j = o + (j + 5) by omega] at this
theorem FL.one {u : Value} {L : List Fld} {w : World} (h : FL u L w) : u.oneCell' = true := by
  obtain ⟨a, cap, rfl, _⟩ := h
  rfl
theorem encR_one (r : Rec) (u : Value) (h : u.oneCell' = true) : ∀ x ∈ encR r u, x.oneCell' = true := by
  intro x hx
  simp only [encR, List.mem_cons, List.not_mem_nil, or_false] at hx
  rcases hx with rfl | rfl | rfl | rfl | rfl
  · rfl
  · rfl
  · rfl
  · rfl
  · exact h
theorem cellsR_one : ∀ (L : List Rec) (us : List Value), (∀ u ∈ us, u.oneCell' = true) → ∀ u ∈ cellsR L us, u.oneCell' = true
  | [], _, _, u, hu => by simp [cellsR] at hu
  | f :: t, [], _, u, hu => by simp [cellsR] at hu
  | f :: t, x :: xs, h, u, hu => by
    rw [cellsR, List.mem_append] at hu
    rcases hu with hu | hu
    · exact encR_one f x (h x (by simp)) u hu
    · exact cellsR_one t xs (fun y hy => h y (List.mem_cons_of_mem _ hy)) u hu
theorem getD_appR (us vs : List Rec) (i : Nat) : (us ++ vs).getD i rec0 = if i < us.length then us.getD i rec0 else vs.getD (i - us.length) rec0 := by
  rw [List.getD_eq_getElem?_getD]
  by_cases h : i < us.length
  · rw [if_pos h, List.getElem?_append_left h, List.getD_eq_getElem?_getD]
  · rw [if_neg h, List.getElem?_append_right (by omega), List.getD_eq_getElem?_getD]
/-- A row whose nested rows are these is a slice of the records. -/
theorem row_rl {B : Nat} {v : Value} {L : List Rec} {us : List Value} {w : World} (hl : us.length = L.length) (hown : w.ownsRow B 24 5 v L.length (cellsR L us))
    (hq : ∀ i, i < L.length → FL (us.getD i .nilIface) (L.getD i rec0).fields w) : RL v L w := by
  rcases hown.2 with ⟨rfl, h0⟩ | ⟨g, cap, cur, rfl, hb, hg, hc, hm, hs, ht⟩
  · have : L = [] := List.eq_nil_of_length_eq_zero h0
    subst this
    exact RL.nil w
  · have hadd : ∀ j, (⟨g, 0, none⟩ : Addr).add j = ⟨g, j, none⟩ := fun j => by unfold Addr.add; split <;> simp_all
    refine ⟨_, cap, rfl, hc, hm, (fun h => by cases h), fun i hi => ?_⟩
    obtain ⟨h0, h1, h2, h3, h4⟩ := cellsR_at L us i hl hi
    have t0 := hown.cells (g := g) rfl _ _ h0
    have t1 := hown.cells (g := g) rfl _ _ h1
    have t2 := hown.cells (g := g) rfl _ _ h2
    have t3 := hown.cells (g := g) rfl _ _ h3
    have t4 := hown.cells (g := g) rfl _ _ h4
    rw [hadd] at t0 t1 t2 t3 t4
    refine ⟨g, 0, us.getD i .nilIface, rfl, (Array.getElem?_eq_some_iff.1 hg).1, ?_⟩
    rw [Nat.zero_add]
    exact ⟨t0, t1, t2, t3, t4, hq i hi⟩

/-- A row of records from block B on; their fields lie in new blocks besides. -/
def RN (B : Nat) (v : Value) (L : List Rec) (w : World) : Prop :=
  ∃ us : List Value, us.length = L.length ∧ w.ownsRow B 24 5 v L.length (cellsR L us) ∧ ∀ i, i < L.length → NewX B v.ownBlock (FL (us.getD i .nilIface) (L.getD i rec0).fields) w
theorem RN.nil (B : Nat) (w : World) : RN B (.slice none 0 0) [] w := ⟨[], rfl, World.ownsRow_nil _ _ _ _, fun i hi => by cases hi⟩
theorem RN.on {B : Nat} {v : Value} {L : List Rec} {w w' : World} (h : RN B v L w) (hs : w.heap.size ≤ w'.heap.size) (hb : ∀ i, B ≤ i → i < w.heap.size → w'.heap[i]? = w.heap[i]?) : RN B v L w' := by
  obtain ⟨us, h1, h2, h3⟩ := h
  exact ⟨us, h1, own_same h2 hb, fun i hi => (h3 i hi).on hs (fun j hj hk _ => hb j hj hk)⟩
theorem RN.after {B : Nat} {v : Value} {L : List Rec} {w w' : World} (h : RN B v L w) (hb : Below w.heap.size w w') : RN B v L w' := h.on hb.size fun i _ hi => hb.block i hi
theorem RN.rl {B : Nat} {v : Value} {L : List Rec} {w : World} (h : RN B v L w) : RL v L w := by
  obtain ⟨us, hl, hown, hq⟩ := h
  exact row_rl hl hown fun i hi => (hq i hi) w (Nat.le_refl _) (fun _ _ _ _ => rfl)
theorem RN.new {B : Nat} {v : Value} {L : List Rec} {w : World} (h : RN B v L w) : New B (RL v L) w := fun _ hs hb => (h.on hs hb).rl
theorem RN.open {B : Nat} {v : Value} {L : List Rec} {w : World} (h : RN B v L w) :
    ∃ xs : List Value, w.ownsRow B 24 5 v L.length xs ∧ ∀ (f : Rec) (u v' : Value) (w' : World), NewX B v.ownBlock (FL u f.fields) w → w.grownBy w' v.ownBlock → (v'.ownBlock = v.ownBlock ∨ v'.ownBlock = some w.heap.size) →
      w'.ownsRow B 24 5 v' (L.length + 1) (xs ++ encR f u) → RN B v' (L ++ [f]) w' := by
  obtain ⟨us, hl, hown, hq⟩ := h
  refine ⟨_, hown, fun f u v' w' hu hg hb hown' => ⟨us ++ [u], by rw [List.length_append, List.length_append, hl]; rfl, ?_, fun i hi => ?_⟩⟩
  · rw [cellsR_snoc L us f u hl, List.length_append]
    exact hown'
  · have hmv : ∀ {P : World → Prop}, NewX B v.ownBlock P w → NewX B v'.ownBlock P w' := fun hp => hp.move hg.size (fun j _ hk hne => hg.block j hk hne) (hb.imp id fun h => ⟨_, h, Nat.le_refl _⟩)
    rw [getD_app, getD_appR, hl]
    by_cases h1 : i < L.length
    · rw [if_pos h1, if_pos h1]; exact hmv (hq i h1)
    · have : i = L.length := by rw [List.length_append] at hi; simp at hi; omega
      subst this
      rw [if_neg h1, if_neg h1, Nat.sub_self]
      exact hmv hu

/-- A row of records of the call's own, from block B on, nil while it is empty; their fields lie in W0. -/
def RR (W0 : World) (B : Nat) (v : Value) (L : List Rec) (w : World) : Prop :=
  ∃ us : List Value, us.length = L.length ∧ w.ownsRow B 24 5 v L.length (cellsR L us) ∧ ∀ i, i < L.length → FL (us.getD i .nilIface) (L.getD i rec0).fields W0
theorem RR.nil (W0 w : World) (B : Nat) : RR W0 B (.slice none 0 0) [] w := ⟨[], rfl, World.ownsRow_nil _ _ _ _, fun i hi => by cases hi⟩
theorem RR.rl {W0 : World} {B : Nat} {v : Value} {L : List Rec} {w : World} (h : RR W0 B v L w) (hbel : Below W0.heap.size W0 w) : RL v L w := by
  obtain ⟨us, hl, hown, hq⟩ := h
  exact row_rl hl hown fun i hi => (hq i hi).after hbel
theorem RR.after {W0 : World} {B : Nat} {v : Value} {L : List Rec} {w w' : World} (h : RR W0 B v L w) (hb : Below w.heap.size w w') : RR W0 B v L w' := by
  obtain ⟨us, h1, h2, h3⟩ := h
  exact ⟨us, h1, own_after h2 hb, h3⟩
theorem RR.open {W0 : World} {B : Nat} {v : Value} {L : List Rec} {w : World} (h : RR W0 B v L w) :
    ∃ xs : List Value, w.ownsRow B 24 5 v L.length xs ∧ ∀ (M : List Rec) (vs : List Value) (v' : Value) (w' : World), vs.length = M.length → (∀ i, i < M.length → FL (vs.getD i .nilIface) (M.getD i rec0).fields W0) →
      w'.ownsRow B 24 5 v' (L.length + M.length) (xs ++ cellsR M vs) → RR W0 B v' (L ++ M) w' := by
  obtain ⟨us, hl, hown, hq⟩ := h
  refine ⟨_, hown, fun M vs v' w' hvl hvq hown' => ⟨us ++ vs, by rw [List.length_append, List.length_append, hl, hvl], ?_, fun i hi => ?_⟩⟩
  · rw [cellsR_app L us M vs hl, List.length_append]
    exact hown'
  · rw [getD_app, getD_appR, hl]
    by_cases h1 : i < L.length
    · rw [if_pos h1, if_pos h1]; exact hq i h1
    · rw [if_neg h1, if_neg h1]; exact hvq _ (by rw [List.length_append] at hi; omega)
/-- The fields' values of a slice of records. -/
theorem RL.vals {v : Value} {L : List Rec} {w : World} (h : RL v L w) : ∃ (a : Option Addr) (cap : Nat) (us : List Value), v = .slice a L.length cap ∧ L.length ≤ cap ∧ cap ≤ maxLen ∧ (a = none → cap = 0) ∧ us.length = L.length ∧ (∀ i, i < L.length → FL (us.getD i .nilIface) (L.getD i rec0).fields w) ∧
    ∀ g o s, a = some ⟨g, o, s⟩ → L ≠ [] → s = none ∧ g < w.heap.size ∧ ∀ j u, (cellsR L us)[j]? = some u → w.cell? ⟨g, o + j, none⟩ = some u := by
  obtain ⟨a, cap, rfl, hc, hm, hn, hx⟩ := h
  have hch : ∀ i, ∃ u, i < L.length → ∃ g o, a = some ⟨g, o, none⟩ ∧ g < w.heap.size ∧ (w.cell? ⟨g, o + i * 5, none⟩ = some (.int .i64 (L.getD i rec0).id) ∧ w.cell? ⟨g, o + i * 5 + 1, none⟩ = some (.int .i64 (L.getD i rec0).ver) ∧ w.cell? ⟨g, o + i * 5 + 2, none⟩ = some (.int .i64 (L.getD i rec0).kind) ∧
      w.cell? ⟨g, o + i * 5 + 3, none⟩ = some (.string (S (L.getD i rec0).lang)) ∧ w.cell? ⟨g, o + i * 5 + 4, none⟩ = some u) ∧ FL u (L.getD i rec0).fields w := by
    intro i
    by_cases hi : i < L.length
    · obtain ⟨g, o, u, h1, hg, h0, h2, h3, h4, h5, hq⟩ := hx i hi
      exact ⟨u, fun _ => ⟨g, o, h1, hg, ⟨h0, h2, h3, h4, h5⟩, hq⟩⟩
    · exact ⟨.nilIface, fun h => absurd h hi⟩
  obtain ⟨F, hF⟩ : ∃ F : Nat → Value, ∀ i, i < L.length → ∃ g o, a = some ⟨g, o, none⟩ ∧ g < w.heap.size ∧ (w.cell? ⟨g, o + i * 5, none⟩ = some (.int .i64 (L.getD i rec0).id) ∧ w.cell? ⟨g, o + i * 5 + 1, none⟩ = some (.int .i64 (L.getD i rec0).ver) ∧ w.cell? ⟨g, o + i * 5 + 2, none⟩ = some (.int .i64 (L.getD i rec0).kind) ∧
      w.cell? ⟨g, o + i * 5 + 3, none⟩ = some (.string (S (L.getD i rec0).lang)) ∧ w.cell? ⟨g, o + i * 5 + 4, none⟩ = some (F i)) ∧ FL (F i) (L.getD i rec0).fields w := ⟨fun i => Classical.choose (hch i), fun i => Classical.choose_spec (hch i)⟩
  have hg : ∀ i, i < L.length → ((List.range L.length).map F).getD i .nilIface = F i := fun i hi => by
    rw [List.getD_eq_getElem?_getD, List.getElem?_map, List.getElem?_range hi]
    simp
  refine ⟨a, cap, (List.range L.length).map F, rfl, hc, hm, hn, by simp, fun i hi => ?_, fun g o s ha hne => ?_⟩
  · rw [hg i hi]
    obtain ⟨g, o, _, _, _, hq⟩ := hF i hi
    exact hq
  · have h0 : 0 < L.length := List.length_pos_iff.2 hne
    obtain ⟨g', o', h1, h2, _⟩ := hF 0 h0
    rw [h1] at ha
    obtain ⟨rfl, rfl, rfl⟩ : g' = g ∧ o' = o ∧ none = s := by
      have := Option.some.inj ha
      injection this with a1 a2 a3
      exact ⟨a1, a2, a3⟩
    refine ⟨rfl, h2, cellsR_news L _ _ (by simp) fun i hi => ?_⟩
    obtain ⟨g2, o2, h3, _, h5, _⟩ := hF i hi
    rw [h1] at h3
    have := Option.some.inj h3
    injection this with a1 a2 a3
    subst a1
    subst a2
    rw [hg i hi]
    exact h5
theorem infoRec : (Tryd.prog.info? 24).map (fun i => (i.zero, i.size, i.bytes)) = some (some (.agg #[.int .i64 0, .int .i64 0, .int .i64 0, .string ⟨#[]⟩, .slice none 0 0]), 5, 64) := by kernel_rfl
theorem info_rec : ∃ i0, Tryd.prog.info? 24 = some i0 ∧ i0.zero = some (.agg #[.int .i64 0, .int .i64 0, .int .i64 0, .string ⟨#[]⟩, .slice none 0 0]) ∧ i0.size = 5 ∧ i0.bytes = 64 := by
  obtain ⟨i0, h0, h2⟩ := Option.map_eq_some_iff.1 infoRec
  simp only [Prod.mk.injEq] at h2
  exact ⟨i0, h0, h2.1, h2.2.1, h2.2.2⟩
theorem cells_five (w : World) (a b c d e : Value) (t : TypeId) : ∀ j u, [a, b, c, d, e][j]? = some u → (w.alloc (.cells #[a, b, c, d, e] t)).cell? ((⟨w.heap.size, 0, none⟩ : Addr).add j) = some u := by
  intro j u hj
  match j, hj with
  | 0, hj => simp at hj; subst hj; simp [Addr.add]
  | 1, hj => simp at hj; subst hj; simp [Addr.add]
  | 2, hj => simp at hj; subst hj; simp [Addr.add]
  | 3, hj => simp at hj; subst hj; simp [Addr.add]
  | 4, hj => simp at hj; subst hj; simp [Addr.add]
  | (j + 5), hj => simp at hj
end

end Go.Proofs.YtiledacfdaenbaaDoor
