/- Merged: QU13, Plain13H, QV13. -/
import Derived.Test.YtmcolapcmjdoeaaGreatDoorQ36
import Derived.Test.YtmcolapcmjdoeaaGreatDoorQ31
import Derived.BigQuiet
namespace Go.Proofs.YtmcolapcmjdoeaaGreatDoor

section
open Go.RowKit Go.PlainAid
theorem ir_one {B : Nat} {t : Value} {l : List Int} {w : World} (_h : IR B t l w) : ∀ u ∈ l.map intV, u.oneCell' = true := intV_one l
theorem del_ir (B : Nat) (t : Value) (l : List Int) (gone : Int) (w : World) (h : IR B t l w) (hs : AscI l) (hm : gone ∈ l) (hz : l.length ≤ 10000) :
    Calls Tryz.prog 78 #[t, .int .i64 (plcI l gone : Nat), .int .i64 ((plcI l gone : Nat) + 1)] w fun e w' => ∃ t', e = .returned t' ∧ IR B t' (wtI l gone) w' ∧ w.grownBy w' t.ownBlock ∧ t'.ownBlock = t.ownBlock ∧ t' ≠ .slice none 0 0 := by
  obtain ⟨h1, _⟩ := (mem_plcI l gone hs).1 hm
  have hl : (wtI l gone).length = l.length - 1 := by unfold wtI; rw [List.length_append, List.length_take, List.length_drop]; omega
  refine (delI_any B t l.length (plcI l gone) (l.map intV) w h h1 (by omega) (intV_one l)).mono ?_
  rintro e w' ⟨t', rfl, hr, hg, ho⟩
  refine ⟨t', rfl, ?_, hg, ho, fun e => ?_⟩
  · unfold IR
    rw [hl]
    have : (wtI l gone).map intV = (l.map intV).take (plcI l gone) ++ (l.map intV).drop (plcI l gone + 1) := by
      unfold wtI
      rw [List.map_append, List.map_take, List.map_drop]
    rw [this]
    simpa using hr
  · rcases h.2 with ⟨_, h0⟩ | ⟨g, cap, cur, hv, _⟩
    · omega
    · rw [e, hv] at ho
      cases ho
theorem ins_ir (B : Nat) (t : Value) (l : List Int) (into : Int) (w : World) (h : IR B t l w) (hn : t ≠ .slice none 0 0) (hB : B ≤ w.heap.size) (hz : l.length ≤ 10000) :
    Calls Tryz.prog 79 #[t, .int .i64 (plcI l into : Nat), .slice (some ⟨w.heap.size, 0, none⟩) 1 1] (w.alloc (.cells #[.int .i64 into] 3)) fun e w' => ∃ t', e = .returned t' ∧ IR B t' (inI l into) w' ∧ (w.alloc (.cells #[.int .i64 into] 3)).grownBy w' t.ownBlock ∧ (t'.ownBlock = t.ownBlock ∨ ∃ k, t'.ownBlock = some k ∧ (w.alloc (.cells #[.int .i64 into] 3)).heap.size ≤ k) := by
  have hk : plcI l into ≤ l.length := plc_le (fun x => x) l into
  have hl : (inI l into).length = l.length + 1 := by unfold inI; rw [List.length_append, List.length_cons, List.length_take, List.length_drop]; omega
  have hrow := World.ownsRow.alloc h (.cells #[.int .i64 into] 3)
  refine (insI_any B t l.length (plcI l into) (l.map intV) _ hrow hn (by simp; omega) hk hz (intV_one l) [intV into] rfl (by intro u hu; simp at hu; subst hu; rfl) w.heap.size (heap_alloc_new w _) (fun e => ?_)).mono ?_
  · have := h.lt _ e
    omega
  · rintro e w' ⟨t', rfl, hr, hg, _, ho⟩
    refine ⟨t', rfl, ?_, hg, ?_⟩
    · unfold IR
      rw [hl]
      have : (inI l into).map intV = (l.map intV).take (plcI l into) ++ ([intV into] ++ (l.map intV).drop (plcI l into)) := by
        unfold inI
        rw [List.map_append, List.map_cons, List.map_take, List.map_drop]
        rfl
      rw [this]
      exact hr
    · rcases ho with ho | ho
      · exact .inl ho
      · exact .inr ⟨_, ho, Nat.le_refl _⟩

set_option maxHeartbeats 16000000 in
set_option maxRecDepth 100000 in
theorem turn_any (B g cap i : Nat) (F : List Ent) (a : Au) (s t : Value) (into gone : Int) (w : World) (h : FR B (.slice (some ⟨g, 0, none⟩) F.length cap) F w) (hB : B ≤ w.heap.size) (hi : F[i]? = some (a, s, t)) (hs : AscI a.above) (hz : a.above.length ≤ 1000) :
    Calls Tryz.prog 53 #[.pointer (some ⟨g, i * 5, none⟩), .int .i64 into, .int .i64 gone] w fun e w' => e = .returned (.tuple #[]) ∧ (∃ y : Ent, y.1 = turnP into gone a ∧ FR B (.slice (some ⟨g, 0, none⟩) F.length cap) (F.set i y) w') ∧ Below B w w' := by
  obtain ⟨Q, hQ⟩ : ∃ Q, (fun (e : Ending) (w' : World) => e = .returned (.tuple #[]) ∧ (∃ y : Ent, y.1 = turnP into gone a ∧ FR B (.slice (some ⟨g, 0, none⟩) F.length cap) (F.set i y) w') ∧ Below B w w') = Q := ⟨_, rfl⟩
  rw [hQ]
  have HQ : RowKit.Hid (∀ (l' : List Int) (s' t' : Value) W, turnL into gone a.id a.above = l' → FR B (.slice (some ⟨g, 0, none⟩) F.length cap) (F.set i ({ a with above := l' }, s', t')) W → Below B w W → Q (.returned (.tuple #[])) W) := by
    rw [← hQ]
    exact fun l' s' t' W h1 h2 h3 => ⟨rfl, ⟨_, by rw [← h1]; rfl, h2⟩, h3⟩
  obtain ⟨hlt, hie⟩ := List.getElem?_eq_some_iff.1 hi
  have hmx : (a, s, t) ∈ F := List.mem_of_getElem? hi
  obtain ⟨gq, capq, eq, hBg, hglt, -, -, ⟨c0, -, -, -, c4⟩, hfz⟩ := h.open i _ hi
  obtain rfl : g = gq := by simpa using (Value.slice.inj eq).1
  have HA : RowKit.Hid (IR B t a.above w) := h.abv _ hmx
  have d4 : w.cell? ⟨g, i * 5 + 4, none⟩ = some t := c4
  have d0 : w.cell? ⟨g, i * 5, none⟩ = some (.int .i64 a.id) := c0
  have f4 := hfz (i * 5 + 4)
  obtain ⟨ta, tc, htv, -, -⟩ := own_form13 HA.out
  have HF := Lib.hid h
  have HI := Lib.hid hi
  have HHs := Lib.hid hs
  have cB1 := Lib.hid (binI_any t a.above gone w HA.out.il hs (by omega))
  have HB0 := Lib.hid (Below.refl B w)
  have HLt := Lib.hid hlt
  clear c0 c4 eq hfz h hQ hmx hie hi hlt
  by_cases hm : gone ∈ a.above
  · have htp : turnL into gone a.id a.above = (if into ∈ wtI a.above gone ∨ a.id = into then wtI a.above gone else inI (wtI a.above gone) into) := if_pos hm
    have cD := Lib.hid (del_ir B t a.above gone w HA.out hs hm (by omega))
    have hwl : (wtI a.above gone).length ≤ 1000 := by
      rw [wtI_eq _ _ hs hm]
      exact Nat.le_trans (List.length_filter_le _ _) hz
    have hwa := wtI_asc a.above gone hs hm
    rw [decide_eq_true hm] at cB1
    have HTP := Lib.hid htp
    have hkl := Nat.le_trans (Nat.le_of_lt ((mem_plcI a.above gone hs).1 hm).1) hz
    obtain ⟨k, hk⟩ : ∃ k, plcI a.above gone = k := ⟨_, rfl⟩
    rw [hk] at cB1 cD hkl
    obtain ⟨l1, hl1⟩ : ∃ l1, wtI a.above gone = l1 := ⟨_, rfl⟩
    rw [hl1] at cD hwl hwa HTP
    obtain ⟨n0, hn0⟩ : ∃ n0, a.above.length = n0 := ⟨_, rfl⟩
    rw [hn0] at htv
    subst htv
    have HWA := Lib.hid hwa
    obtain ⟨n1, hn1⟩ : ∃ n1, l1.length = n1 := ⟨_, rfl⟩
    have HN1 := Lib.hid hn1
    rw [hn1] at hwl
    clear hs hz hm hk hl1 hn0 htp hwa hn1
    go_enter Tryz.func53, Tryz.ntmps53
    go_wp2_with fail
    refine cB1.out.mono ?_
    rintro e w1 ⟨rfl, hw1⟩
    rw [hw1]
    clear hw1 cB1
    go_wp2_with fail
    refine cD.out.mono ?_
    rintro e w2 ⟨t2, rfl, ht2, hg2, ho2, hn2⟩
    have hmx := List.mem_of_getElem? HI.out
    have hrow := HF.out.row.kept hg2 (own_types HF.out.row (HF.out.abv _ hmx) (fun e => ne_int e.symm))
    obtain ⟨-, hglt2, -, -, hfz, hsome⟩ := own_facts13 hrow
    have f2 := hfz (i * 5 + 4)
    obtain ⟨z2, hz2⟩ := Option.isSome_iff_exists.1 (hsome (i * 5 + 4) (by have := HLt.out; omega))
    have hP := HF.out.putAbv i _ HI.out hg2 t2 l1 ht2 (.inr (.inl ho2))
    have hB2 : Below B w w2 := HB0.out.grown hg2 hB (fun j hj => ((HF.out.abv _ hmx).lt j hj).1)
    obtain ⟨a2, c2, ht2v, -, -⟩ := own_form13 ht2
    rw [HN1.out] at ht2v
    obtain ⟨w3, hw3⟩ : ∃ W, w2.setCell ⟨g, i * 5 + 4, none⟩ t2 = W := ⟨_, rfl⟩
    rw [hw3] at hP
    have hB3 : Below B w w3 := by rw [← hw3]; exact hB2.setCell (p := ⟨g, i * 5 + 4, none⟩) hBg _
    obtain ⟨F3, hF3⟩ : ∃ G, F.set i ({ a with above := l1 }, s, t2) = G := ⟨_, rfl⟩
    have hP : FR B (.slice (some ⟨g, 0, none⟩) F.length cap) F3 w3 := by rw [← hF3]; exact hP
    have hF3l : F3.length = F.length := by rw [← hF3, List.length_set]
    have hF3k : F3[i]? = some ({ a with above := l1 }, s, t2) := by rw [← hF3, List.getElem?_set_self HLt.out]
    rw [← hF3l] at hP
    obtain ⟨gq, capq, eq, -, -, -, -, ⟨e0, -, -, -, e4⟩, hfz3⟩ := hP.open i _ hF3k
    obtain rfl : g = gq := by simpa using (Value.slice.inj eq).1
    have d0 : w3.cell? ⟨g, i * 5, none⟩ = some (.int .i64 a.id) := e0
    have d4 : w3.cell? ⟨g, i * 5 + 4, none⟩ = some t2 := e4
    have HIR : RowKit.Hid (IR B t2 l1 w3) := hP.abv _ (List.mem_of_getElem? hF3k)
    have HP3 := Lib.hid hP
    have HW3 := Lib.hid hw3
    have HB3 := Lib.hid hB3
    have HF3 := Lib.hid hF3
    have HF3k := Lib.hid hF3k
    have HF3l := Lib.hid hF3l
    have HN2 := Lib.hid hn2
    have cB2 := Lib.hid (binI_any t2 l1 into w3 HIR.out.il HWA.out (by rw [HN1.out]; omega))
    have hBw3 := Nat.le_trans hB hB3.size
    have cI := Lib.hid (ins_ir B t2 l1 into w3 HIR.out hn2 hBw3 (by rw [HN1.out]; omega))
    obtain ⟨k2, hk2⟩ : ∃ k, plcI l1 into = k := ⟨_, rfl⟩
    rw [hk2] at cB2 cI
    subst ht2v
    clear hmx hrow hfz hsome hP hB2 hw3 hB3 hF3 hF3l hF3k eq e0 e4 hfz3 ht2 hg2 ho2 hn2 hk2
    by_cases hti : into ∈ l1 ∨ a.id = into
    · have hll : turnL into gone a.id a.above = l1 := HTP.out.trans (if_pos hti)
      have hno := Lib.hid (HQ.out l1 s _ w3 hll (by rw [HF3.out, ← HF3l.out]; exact HP3.out) HB3.out)
      obtain ⟨bi, hbi⟩ : ∃ b, decide (into ∈ l1) = b := ⟨_, rfl⟩
      have hbid : bi = false → (a.id == into) = true := by
        intro hf
        rw [hf] at hbi
        rcases hti with h | h
        · exact absurd h (of_decide_eq_false hbi)
        · simpa using h
      rw [hbi] at cB2
      clear hti hll hbi HQ HTP cI
      cases bi with
      | true =>
        clear hbid
        go_upto_region 3 with fail
        rw [HW3.out]
        go_wp2_with fail
        refine cB2.out.mono ?_
        rintro e w4 ⟨rfl, hw4⟩
        rw [hw4]
        clear hw4 cB2
        go_wp2
        first | exact hno.out | ((try simp only [Exit.inBlock, Exit.then]); refine bodyPost_ret (results_none rfl _ _ _) rfl ?_; exact hno.out)
      | false =>
        have t0 := hbid rfl
        clear hbid
        go_upto_region 3 with fail
        rw [HW3.out]
        go_wp2_with fail
        refine cB2.out.mono ?_
        rintro e w4 ⟨rfl, hw4⟩
        rw [hw4]
        clear hw4 cB2
        go_wp2
        first | exact hno.out | ((try simp only [Exit.inBlock, Exit.then]); refine bodyPost_ret (results_none rfl _ _ _) rfl ?_; exact hno.out)
    · have hll : turnL into gone a.id a.above = inI l1 into := HTP.out.trans (if_neg hti)
      have HLL := Lib.hid hll
      rw [decide_eq_false (fun h => hti (.inl h))] at cB2
      have t0 : (a.id == into) = false := by
        have : ¬ a.id = into := fun h => hti (.inr h)
        simpa using this
      clear hti hll HTP
      obtain ⟨w4, hw4⟩ : ∃ W, w3.alloc (.cells #[.int .i64 into] 3) = W := ⟨_, rfl⟩
      have b4 : Below w3.heap.size w3 w4 := by rw [← hw4]; exact (Below.refl _ _).alloc (Nat.le_refl _) _
      rw [hw4] at cI
      have HP4 := Lib.hid (HP3.out.after b4)
      have HB4 := Lib.hid (HB3.out.trans (b4.mono hBw3))
      have HW4 := Lib.hid hw4
      clear hw4 b4
      go_upto_region 3 with fail
      rw [HW3.out]
      go_wp2_with fail
      refine cB2.out.mono ?_
      rintro e w5 ⟨rfl, hw5⟩
      rw [hw5]
      clear hw5 cB2
      go_wp2_with fail
      rw [HW4.out]
      refine cI.out.mono ?_
      rintro e w6 ⟨t6, rfl, ht6, hg6, ho6⟩
      have hmx := List.mem_of_getElem? HF3k.out
      have hrow := HP4.out.row.kept hg6 (own_types HP4.out.row (HP4.out.abv _ hmx) (fun e => ne_int e.symm))
      obtain ⟨-, -, -, -, hfz, hsome⟩ := own_facts13 hrow
      have f6 := hfz (i * 5 + 4)
      obtain ⟨z6, hz6⟩ := Option.isSome_iff_exists.1 (hsome (i * 5 + 4) (by have := HLt.out; have := HF3l.out; omega))
      have hP := HP4.out.putAbv i _ HF3k.out hg6 t6 (inI l1 into) ht6 (by
        rcases ho6 with h | h
        · exact .inr (.inl h)
        · exact .inr (.inr h))
      have hB6 : Below B w w6 := HB4.out.grown hg6 (Nat.le_trans hB HB4.out.size) (fun j hj => ((HP4.out.abv _ hmx).lt j hj).1)
      obtain ⟨a6, c6, ht6v, -, -⟩ := own_form13 ht6
      have hB7 : Below B w (w6.setCell ⟨g, i * 5 + 4, none⟩ t6) := hB6.setCell (p := ⟨g, i * 5 + 4, none⟩) hBg _
      have hset : F3.set i ({ a with above := inI l1 into }, s, t6) = F.set i ({ a with above := inI l1 into }, s, t6) := by rw [← HF3.out, List.set_set]
      have hno := Lib.hid (HQ.out (inI l1 into) s t6 _ HLL.out (by rw [← hset, ← HF3l.out]; exact hP) hB7)
      obtain ⟨n6, hn6⟩ : ∃ n, (inI l1 into).length = n := ⟨_, rfl⟩
      rw [hn6] at ht6v
      subst ht6v
      clear hmx hrow hfz hsome hP hB6 hB7 hset ht6 hg6 ho6 hn6
      go_wp2
      first | exact hno.out | ((try simp only [Exit.inBlock, Exit.then]); refine bodyPost_ret (results_none rfl _ _ _) rfl ?_; exact hno.out)
  · have htp : turnL into gone a.id a.above = a.above := if_neg hm
    rw [decide_eq_false hm] at cB1
    have hsame : F.set i ({ a with above := a.above }, s, t) = F := by
      have := List.set_getElem_self HLt.out
      have e : F[i]'HLt.out = (a, s, t) := (List.getElem?_eq_some_iff.1 HI.out).2
      rw [e] at this
      exact this
    have hno := Lib.hid (HQ.out a.above s t w htp (by rw [hsame]; exact HF.out) HB0.out)
    obtain ⟨n0, hn0⟩ : ∃ n0, a.above.length = n0 := ⟨_, rfl⟩
    rw [hn0] at htv
    obtain ⟨k, hk⟩ : ∃ k, plcI a.above gone = k := ⟨_, rfl⟩
    rw [hk] at cB1
    subst htv
    clear hs hz hm hn0 htp hsame hk
    go_enter Tryz.func53, Tryz.ntmps53
    go_wp2_with fail
    refine cB1.out.mono ?_
    rintro e w1 ⟨rfl, hw1⟩
    rw [hw1]
    clear hw1 cB1
    go_wp2
    first | exact hno.out | ((try simp only [Exit.inBlock, Exit.then]); refine bodyPost_ret (results_none rfl _ _ _) rfl ?_; exact hno.out)
end

section
theorem ascI_pw : ∀ l : List Int, ascI l = true → AscI l
  | [], _ => List.Pairwise.nil
  | [x], _ => List.pairwise_singleton _ _
  | x :: y :: r, h => by
    unfold ascI at h
    rw [Bool.and_eq_true, decide_eq_true_iff] at h
    have ih := ascI_pw (y :: r) h.2
    refine List.Pairwise.cons (fun z hz => ?_) ih
    rcases List.mem_cons.1 hz with rfl | hz
    · exact h.1
    · exact Int.lt_trans h.1 ((List.pairwise_cons.1 ih).1 z hz)
theorem turn_ok (L : List Au) (hr : rightA L = 0) (x : Au) (hx : x ∈ L) : AscI x.above ∧ x.id ∉ x.above ∧ x.above.length ≤ 4 := by
  obtain ⟨_, _, _, h4, h5⟩ := right_out L hr
  obtain ⟨s1, s2, _⟩ := abv_ok L x (h4 x hx)
  exact ⟨ascI_pw _ s2, fun h => h5 x hx (above_closed L x.id x hx (.inl rfl) _ h), s1⟩
theorem asc_ids (L M : List Au) (h : M.map (·.id) = L.map (·.id)) (hs : AscA L) : AscA M := by
  have h1 : (L.map (·.id)).Pairwise (· < ·) := List.pairwise_map.2 hs
  rw [← h] at h1
  exact List.pairwise_map.1 h1
theorem plc_ids (L M : List Au) (h : M.map (·.id) = L.map (·.id)) (n : Int) : plcA M n = plcA L n := by
  unfold plcA plcG
  have e : ∀ K : List Au, K.countP (fun x => decide (x.id < n)) = (K.map (·.id)).countP (fun y => decide (y < n)) := fun K => by rw [List.countP_map]; rfl
  rw [e M, e L, h]
theorem set_ids (L : List Au) (k : Nat) (a a' : Au) (hk : L[k]? = some a) (h : a'.id = a.id) : (L.set k a').map (·.id) = L.map (·.id) := by
  obtain ⟨h1, h2⟩ := List.getElem?_eq_some_iff.1 hk
  rw [List.map_set, h, ← h2]
  have : (L.map (·.id))[k]'(by rw [List.length_map]; exact h1) = (L[k]).id := List.getElem_map ..
  rw [← this]
  exact List.set_getElem_self _
theorem getD_some (L : List Au) (k : Nat) (a : Au) (h1 : k < L.length) (h2 : L.getD k au0 = a) : L[k]? = some a := by
  rw [List.getD_eq_getElem?_getD, List.getElem?_eq_getElem h1] at h2
  rw [List.getElem?_eq_getElem h1, ← h2]
  rfl
theorem merge_eq (L : List Au) (into gone : Int) (hr : rightA L = 0) (a b : Au) (ha : getA L into = some a) (hb : getA L gone = some b) (hne : into ≠ gone) (hk : a.kind = b.kind) :
    mergeA L into gone = checkA ((((L.set (plcA L into) { a with see := a.see ++ hdsX b }).map (turnP into gone)).take (plcA L gone)) ++ (((L.set (plcA L into) { a with see := a.see ++ hdsX b }).map (turnP into gone)).drop (plcA L gone + 1))) := by
  have hasc := right_asc L hr
  obtain ⟨a1, a2, a3⟩ := get_plc_eq L into hasc a ha
  obtain ⟨b1, b2, b3⟩ := get_plc_eq L gone hasc b hb
  have hmem := (get_some L into a ha).1
  unfold mergeA
  rw [ha, hb]
  show (if _ then _ else _) = _
  rw [if_neg (by rintro (h | h); exact hne h; exact h hk)]
  obtain ⟨a', ha'⟩ : ∃ x : Au, ({ a with see := a.see ++ hdsX b } : Au) = x := ⟨_, rfl⟩
  have e1 : a'.id = a.id := by rw [← ha']
  have e2 : a'.above = a.above := by rw [← ha']
  rw [ha']
  have hw : withA L a' = L.set (plcA L into) a' := by
    rw [with_plc L a' hasc (by rw [e1, a3]; exact a1) (by rw [e1, a3, a2, a3]), e1, a3]
  rw [hw]
  have hids := set_ids L (plcA L into) a a' (getD_some L _ a a1 a2) e1
  have hp := plc_ids L _ hids gone
  have hneq : plcA L into ≠ plcA L gone := by
    intro e
    rw [e, b2] at a2
    rw [← a2, b3] at a3
    exact hne a3.symm
  obtain ⟨L', hL'⟩ : ∃ M, L.set (plcA L into) a' = M := ⟨_, rfl⟩
  have hg : L'.getD (plcA L gone) au0 = b := by
    rw [← hL', List.getD_eq_getElem?_getD, List.getElem?_set_ne hneq, ← List.getD_eq_getElem?_getD]
    exact b2
  have hl : L'.length = L.length := by rw [← hL', List.length_set]
  rw [hL'] at hids hp ⊢
  rw [wout_plc L' gone (asc_ids L L' hids hasc) (by rw [hp, hl]; exact b1) (by rw [hp, hg, b3]), hp, ← List.map_take, ← List.map_drop, ← List.map_append]
  congr 1
  refine List.map_congr_left fun x hx => ?_
  have hx' : x ∈ L' := by
    rcases List.mem_append.1 hx with h | h
    · exact List.mem_of_mem_take h
    · exact List.mem_of_mem_drop h
  rw [← hL'] at hx'
  rcases List.mem_or_eq_of_mem_set hx' with h | h
  · obtain ⟨s1, s2, _⟩ := turn_ok L hr x h
    exact turn_eq into gone x s1 s2
  · obtain ⟨s1, s2, _⟩ := turn_ok L hr a hmem
    refine turn_eq into gone x (by rw [h, e2]; exact s1) (by rw [h, e1, e2]; exact s2)
theorem turnL_len (into gone id : Int) (l : List Int) : (turnL into gone id l).length ≤ l.length + 1 := by
  unfold turnL
  have hw : (wtI l gone).length ≤ l.length := by unfold wtI; rw [List.length_append, List.length_take, List.length_drop]; omega
  split
  · split
    · omega
    · unfold inI
      rw [List.length_append, List.length_cons, List.length_take, List.length_drop]
      omega
  · omega
end

section
open Go.RowKit Go.PlainAid Go.Maps
/-- The headings of another behind a row of one's own. -/
theorem append_own13 (B : Nat) (v : Value) (M : List (List UInt8)) (w : World) (h : NR B v M w) (hz : M.length ≤ 100000) (hB : B ≤ w.heap.size) (u : Value) (R : List (List UInt8)) (hu : BL u R w) (hR : R ≠ []) (hzR : R.length ≤ 100000) (ty : TypeId) :
    ∃ v' w', (Builtin.append_ #[28, 28] ty #[v, u]).run Tryz.prog w = .ok v' w' ∧ NR B v' (M ++ R) w' ∧ w.grownBy w' v.ownBlock ∧ (v'.ownBlock = v.ownBlock ∨ ∃ k, v'.ownBlock = some k ∧ w.heap.size ≤ k) := by
  obtain ⟨i0, hi, hz0, hz1, hz2⟩ := info_string
  rcases hu.none_or with ⟨_, h0⟩ | ⟨ad, c, rfl, _, _, hx⟩
  · exact absurd h0 hR
  · have hl : (R.map strB).length = R.length * 1 := by simp
    have hm : 0 < R.length := List.length_pos_iff.2 hR
    obtain ⟨v', w', hr, h2, h3, h4⟩ := run_append_own (P := Tryz.prog) w B 28 ty 9 i0 (.string ⟨#[]⟩) 1 16 Tryz.underlying28 hi hz0 hz1 hz2 rfl (by decide) v M.length _ h ad R.length c (R.map strB) hl hx (strB_one R) (by unfold maxLen; omega) (by omega) hB
    have h5 := append_block (P := Tryz.prog) w B 28 ty 9 i0 (.string ⟨#[]⟩) 1 16 Tryz.underlying28 hi hz0 hz1 hz2 v M.length _ h ad R.length c (R.map strB) hl hx (strB_one R) hm (by unfold maxLen; omega) (by omega) v' w' hr
    refine ⟨v', w', hr, by unfold NR; rw [List.length_append, List.map_append]; exact h2, h3, ?_⟩
    rcases h5 with h5 | h5
    · exact .inl h5
    · exact .inr ⟨_, h5, Nat.le_refl _⟩
theorem hds_turn (into gone : Int) (x : Au) : hdsX (turnP into gone x) = hdsX x := rfl
theorem merge_bnd (L : List Au) (into gone : Int) (hr : rightA L = 0) (a b : Au) (ha : getA L into = some a) (hb : getA L gone = some b) (t k : Nat) :
    bnd ((((L.set t { a with see := a.see ++ hdsX b }).map (turnP into gone)).take k) ++ (((L.set t { a with see := a.see ++ hdsX b }).map (turnP into gone)).drop (k + 1))) := by
  have hb1 := (right_small L hr).1
  have hsm : ∀ x ∈ L, x.see.length ≤ 8 ∧ x.above.length ≤ 4 ∧ ∀ y ∈ hdsX x, y.length ≤ 200 := fun x hx => by
    obtain ⟨s1, s2⟩ := shape_small x ((ones_out L none (right_out L hr).2.1).2.1 x hx).1
    exact ⟨s1, (turn_ok L hr x hx).2.2, fun y hy => (s2 y hy).2⟩
  have hma := hsm a (get_some L into a ha).1
  have hmb := hsm b (get_some L gone b hb).1
  have key : ∀ x ∈ L.set t { a with see := a.see ++ hdsX b }, x.see.length ≤ 100 ∧ x.above.length ≤ 4 ∧ ∀ y ∈ hdsX x, y.length ≤ 1000 := by
    intro x hx
    rcases List.mem_or_eq_of_mem_set hx with h | rfl
    · obtain ⟨h1, h2, h3⟩ := hsm x h
      exact ⟨by omega, h2, fun y hy => Nat.le_trans (h3 y hy) (by decide)⟩
    · refine ⟨?_, hma.2.1, fun y hy => ?_⟩
      · show (a.see ++ hdsX b).length ≤ 100
        rw [List.length_append]
        have : (hdsX b).length = b.see.length + 1 := by unfold hdsX; rw [List.length_cons]
        have := hma.1
        have := hmb.1
        omega
      · rcases List.mem_cons.1 hy with rfl | hy
        · exact Nat.le_trans (hma.2.2 _ (List.mem_cons_self ..)) (by decide)
        · have hy : y ∈ a.see ++ hdsX b := hy
          rcases List.mem_append.1 hy with hy | hy
          · exact Nat.le_trans (hma.2.2 _ (List.mem_cons_of_mem _ hy)) (by decide)
          · exact Nat.le_trans (hmb.2.2 _ hy) (by decide)
  refine ⟨?_, fun z hz => ?_⟩
  · rw [List.length_append, List.length_take, List.length_drop, List.length_map, List.length_set]
    have := hb1.1
    omega
  · have hz' : z ∈ (L.set t { a with see := a.see ++ hdsX b }).map (turnP into gone) := by
      rcases List.mem_append.1 hz with h | h
      · exact List.mem_of_mem_take h
      · exact List.mem_of_mem_drop h
    obtain ⟨x, hx, rfl⟩ := List.mem_map.1 hz'
    obtain ⟨k1, k2, k3⟩ := key x hx
    refine ⟨k1, ?_, k3⟩
    have := turnL_len into gone x.id x.above
    show (turnL into gone x.id x.above).length ≤ 100
    omega

theorem upd_turn (f : Au → Au) (L : List Au) (i : Nat) (h : i < L.length) : ((L.map f).take i ++ L.drop i).set i (f (L.getD i au0)) = (L.map f).take (i + 1) ++ L.drop (i + 1) := by
  have hl : ((L.map f).take i).length = i := by rw [List.length_take, List.length_map]; omega
  rw [List.set_append_right _ _ (by omega), hl, Nat.sub_self, List.drop_eq_getElem_cons h, List.set_cons_zero, List.take_succ_eq_append_getElem (by rw [List.length_map]; exact h), List.append_assoc, List.getElem_map, getD_at13 L i h]
  rfl
theorem at_turn (f : Au → Au) (L : List Au) (i : Nat) (h : i < L.length) : ((L.map f).take i ++ L.drop i)[i]? = some (L.getD i au0) := by
  have hl : ((L.map f).take i).length = i := by rw [List.length_take, List.length_map]; omega
  rw [List.getElem?_append_right (by omega), hl, Nat.sub_self, List.getElem?_drop, Nat.add_zero, List.getElem?_eq_getElem h, getD_at13 L i h]

set_option maxHeartbeats 32000000 in
set_option maxRecDepth 100000 in
theorem merge_any (v : Value) (L : List Au) (into gone : Int) (w : World) (hE : Env w) (hv : AL v L w) (hb : bnd L) (hr : rightA L = 0) :
    Calls Tryz.prog 21 #[v, .int .i64 into, .int .i64 gone] w fun e w' => ∃ v', e = .returned (.tuple #[v', .int .i64 (mergeA L into gone).2]) ∧ AL v' (mergeA L into gone).1 w' ∧ Below w.heap.size w w' := by
  obtain ⟨Q, hQ⟩ : ∃ Q, (fun (e : Ending) (w' : World) => ∃ v', e = .returned (.tuple #[v', .int .i64 (mergeA L into gone).2]) ∧ AL v' (mergeA L into gone).1 w' ∧ Below w.heap.size w w') = Q := ⟨_, rfl⟩
  rw [hQ]
  have HQ : RowKit.Hid (∀ v' r W, (mergeA L into gone).2 = r → AL v' (mergeA L into gone).1 W → Below w.heap.size w W → Q (.returned (.tuple #[v', .int .i64 r])) W) := by
    rw [← hQ]
    exact fun v' r W h0 h1 h2 => ⟨v', by rw [h0], h1, h2⟩
  obtain ⟨hbl, hbz⟩ := bnd_len hb
  have hasc := right_asc L hr
  have HV := Lib.hid hv
  have cP1 := Lib.hid (place_any v L into w hv hasc (by omega))
  have cP2 := Lib.hid (fun (W : World) (h : Below w.heap.size w W) => place_any v L gone W (hv.after h) hasc (by omega))
  have cA := Lib.hid (fun (W : World) (h : Below w.heap.size w W) => cloneAll_any v L W (hv.after h) hbl hbz)
  have cC := Lib.hid (fun (v : Value) (M : List Au) (W : World) (h : Below w.heap.size w W) (hv : AL v M W) (hb : bnd M) (v' : Value) (hv' : (if rightA M = 0 then v else nilV) = v') => checked_any v M W (hE.after h) hv hb v' hv')
  obtain ⟨va, vc, rfl, hc1, hc2⟩ := hv.length
  have hNo : ∀ r : Int, mergeA L into gone = ([], r) → RowKit.Hid (∀ W, Below w.heap.size w W → Q (.returned (.tuple #[.slice none 0 0, .int .i64 r])) W) := fun r hs W h => HQ.out (.slice none 0 0) r W (by rw [hs]) (by rw [hs]; exact AL.nil W) h
  cases ha : getA L into with
  | none =>
    have hno := hNo 9 (by unfold mergeA; rw [ha])
    rw [ha] at cP1
    have hb0 : (Option.isSome (none : Option Au)) = false := rfl
    rw [hb0] at cP1
    obtain ⟨k2, hk2⟩ : ∃ k, plcA L gone = k := ⟨_, rfl⟩
    obtain ⟨b2, hb2⟩ : ∃ b, (getA L gone).isSome = b := ⟨_, rfl⟩
    rw [hk2, hb2] at cP2
    clear hQ HQ ha hE hv hb hr hasc cA cC hbl hbz hb0 HV hNo hk2 hb2
    generalize plcA L into = k at *
    generalize L.length = n at *
    go_enter Tryz.func21, Tryz.ntmps21
    go_wp2_with fail
    refine cP1.out.mono ?_
    rintro e w1 ⟨rfl, hb1⟩
    have HB1 := Lib.hid hb1
    have cP := Lib.hid (cP2.out w1 hb1)
    clear hb1
    go_wp2_with fail
    refine cP.out.mono ?_
    rintro e w2 ⟨rfl, hb2⟩
    have hn := hno.out w2 (HB1.out.trans (hb2.mono HB1.out.size))
    clear hb2
    go_wp2
    first | exact hn | (go_ret2; exact hn)
  | some a =>
    rw [ha] at cP1
    have hb0 : (some a).isSome = true := rfl
    rw [hb0] at cP1
    clear hb0
    cases hg : getA L gone with
    | none =>
      have hno := hNo 9 (by unfold mergeA; rw [ha, hg])
      rw [hg] at cP2
      have hb0 : (Option.isSome (none : Option Au)) = false := rfl
      rw [hb0] at cP2
      clear hQ HQ ha hE hv hb hr hasc cA cC hbl hbz hb0 HV hNo hg
      generalize plcA L into = k at *
      generalize plcA L gone = k2 at *
      generalize L.length = n at *
      go_enter Tryz.func21, Tryz.ntmps21
      go_wp2_with fail
      refine cP1.out.mono ?_
      rintro e w1 ⟨rfl, hb1⟩
      have HB1 := Lib.hid hb1
      have cP := Lib.hid (cP2.out w1 hb1)
      clear hb1
      go_wp2_with fail
      refine cP.out.mono ?_
      rintro e w2 ⟨rfl, hb2⟩
      have hn := hno.out w2 (HB1.out.trans (hb2.mono HB1.out.size))
      clear hb2
      go_wp2
      first | exact hn | (go_ret2; exact hn)
    | some b =>
      rw [hg] at cP2
      have hb0 : (some b).isSome = true := rfl
      rw [hb0] at cP2
      obtain ⟨p1, p2, p3⟩ := get_plc_eq L into hasc a ha
      obtain ⟨q1, q2, q3⟩ := get_plc_eq L gone hasc b hg
      clear hb0
      by_cases hig : into = gone
      · have hno := hNo 1 (by unfold mergeA; rw [ha, hg]; exact if_pos (.inl hig))
        have t0 : (into == gone) = true := by simpa using hig
        clear hQ HQ ha hE hv hb hr hasc cA cC hbl hbz HV hNo hg p2 p3 q2 q3
        generalize plcA L into = k at *
        generalize plcA L gone = k2 at *
        generalize L.length = n at *
        clear hig
        go_enter Tryz.func21, Tryz.ntmps21
        go_wp2_with fail
        refine cP1.out.mono ?_
        rintro e w1 ⟨rfl, hb1⟩
        have HB1 := Lib.hid hb1
        have cP := Lib.hid (cP2.out w1 hb1)
        clear hb1
        go_wp2_with fail
        refine cP.out.mono ?_
        rintro e w2 ⟨rfl, hb2⟩
        have hb02 := HB1.out.trans (hb2.mono HB1.out.size)
        have hno2 := fun q => hno.out (w2.drewN q) (hb02.trans ((drewN_below w2 q).mono hb02.size))
        clear hb2 hb02
        go_upto_region 5 with fail
        go_quiet (fail)
        go_wp2
        first | exact hno2 _ | (go_ret2; exact hno2 _)
      · have t0 : (into == gone) = false := by simpa using hig
        by_cases hkd : a.kind = b.kind
        · have hs := merge_eq L into gone hr a b ha hg hig hkd
          have hbs := merge_bnd L into gone hr a b ha hg (plcA L into) (plcA L gone)
          rw [hs] at HQ
          have hmb := (get_some L gone b hg).1
          have hma := (get_some L into a ha).1
          have HTk : RowKit.Hid (∀ x ∈ L.set (plcA L into) { a with see := a.see ++ hdsX b }, AscI x.above ∧ x.above.length ≤ 1000) := by
            intro x hx
            rcases List.mem_or_eq_of_mem_set hx with h | rfl
            · obtain ⟨s1, _, s3⟩ := turn_ok L hr x h
              exact ⟨s1, by omega⟩
            · obtain ⟨s1, _, s3⟩ := turn_ok L hr a hma
              exact ⟨s1, Nat.le_trans s3 (by decide)⟩
          have hzb := (hbz b hmb).1
          have hza := (hbz a hma).1
          have hzn := hb.1
          have t2 : (a.kind != b.kind) = false := by simp [hkd]
          have t3 : (b.kind != b.kind) = false := by simp
          obtain ⟨g, o, cap, s1, t1', hv1, hg1, hrd1⟩ := HV.out.read (plcA L into) p1
          obtain ⟨g2, o2, cap2, s2, t2', hv2, hg2, hrd2⟩ := HV.out.read (plcA L gone) q1
          obtain ⟨rfl, -, hcp⟩ := Value.slice.inj hv1
          obtain ⟨hg12, -, -⟩ := Value.slice.inj hv2
          obtain ⟨rfl, rfl, -⟩ := Addr.mk.inj (Option.some.inj hg12)
          have HR1 := Lib.hid (fun W hW => (hrd1 W hW).2.1)
          have HR2 := Lib.hid hrd2
          rw [p2] at HR1
          rw [q2] at HR2
          have cH := Lib.hid (fun (W : World) (hW : Below w.heap.size w W) => headings_any b s2 t2' W (HR2.out W hW).2.2.2.2.2.1 hzb)
          obtain ⟨s2a, s2c, hs2, -, -⟩ := (HR2.out w (Below.refl _ _)).2.2.2.2.2.1.length
          obtain ⟨t2a, t2c, ht2, -⟩ := (HR2.out w (Below.refl _ _)).2.2.2.2.2.2
          subst hs2 ht2
          obtain ⟨k, hk⟩ : ∃ k, plcA L into = k := ⟨_, rfl⟩
          obtain ⟨k2, hk2⟩ : ∃ k, plcA L gone = k := ⟨_, rfl⟩
          rw [hk] at cP1 p1 p2 HR1 hbs HQ HTk
          rw [hk2] at cP2 q1 HR2 hbs HQ
          have HP2 := Lib.hid p2
          obtain ⟨n, hn⟩ : ∃ n, L.length = n := ⟨_, rfl⟩
          have HN := Lib.hid hn
          rw [hn] at cP1 cP2 cA p1 q1 hzn ⊢
          have HBs := Lib.hid hbs
          obtain ⟨L1, hL1⟩ : ∃ M, L.set k { a with see := a.see ++ hdsX b } = M := ⟨_, rfl⟩
          have HL1 := Lib.hid hL1
          rw [hL1] at HBs HQ HTk
          have HL1n : RowKit.Hid (L1.length = n) := by unfold RowKit.Hid; rw [← hL1, List.length_set, hn]
          obtain ⟨hn2, hhn⟩ : ∃ q, b.see.length = q := ⟨_, rfl⟩
          have HRd := Lib.hid (fun (W : World) (hW : Below w.heap.size w W) => (⟨(HR2.out W hW).1, (HR2.out W hW).2.1, (HR2.out W hW).2.2.1, (HR2.out W hW).2.2.2.1, (HR2.out W hW).2.2.2.2.1⟩ : _ ∧ _ ∧ _ ∧ _ ∧ _))
          rw [hhn] at HRd cH
          have HHne : RowKit.Hid (hdsX b ≠ []) := by unfold RowKit.Hid hdsX; exact fun e => by cases e
          have HHl : RowKit.Hid ((hdsX b).length ≤ 100000) := by unfold RowKit.Hid hdsX; rw [List.length_cons]; have := (shape_small b ((ones_out L none (right_out L hr).2.1).2.1 b hmb).1).1; omega
          have i1 : (0 : Int) ≤ (k : Int) := by omega
          have i2 : (k : Int) < (n : Int) := by omega
          have j1 : (0 : Int) ≤ (k2 : Int) := by omega
          have j2 : (k2 : Int) < (n : Int) := by omega
          have i9 : IntKind.i64.wrap ((k2 : Int) + 1) = (k2 : Int) + 1 := by rw [IntKind.wrap_i64]; omega
          unfold AV at cH
          clear hQ ha hE hv hb hr hasc hbl hbz HV hNo hg p2 p3 q2 q3 hrd1 hrd2 hv1 hv2 hcp hg12 hig hs hbs hk hk2 hn hL1 hhn hma hmb HR2 hzb
          go_enter Tryz.func21, Tryz.ntmps21
          go_wp2_with fail
          refine cP1.out.mono ?_
          rintro e w1 ⟨rfl, hb1⟩
          have HB1 := Lib.hid hb1
          have cP := Lib.hid (cP2.out w1 hb1)
          clear hb1 cP1
          go_wp2_with fail
          refine cP.out.mono ?_
          rintro e w2 ⟨rfl, hb2⟩
          have hb02 := HB1.out.trans (hb2.mono HB1.out.size)
          have hB2 : ∀ q, Below w.heap.size w (w2.drewN q) := fun q => hb02.trans ((drewN_below w2 q).mono hb02.size)
          have c1 := HR1.out w2 hb02
          have c2 := (HRd.out w2 hb02).2.1
          rw [hkd] at c1
          have HB2 := Lib.hid hB2
          clear hb2 hb02 cP hB2
          go_upto_region 5 with fail
          go_quiet (fail)
          go_wp2_with fail
          refine (cA.out _ (HB2.out _)).mono ?_
          rintro e w3 ⟨v3, F, rfl, hF3, hM3, hb3⟩
          have HB3 : RowKit.Hid (Below w.heap.size w w3) := (HB2.out _).trans (hb3.mono (HB2.out _).size)
          have hF3 : FR w.heap.size v3 F w3 := hF3.base (HB2.out _).size
          have hl3 : F.length = n := by rw [← HN.out, ← hM3, List.length_map]
          obtain ⟨x, hx, hxa⟩ := ent_at hM3 k (by rw [HN.out]; exact p1)
          rw [HP2.out] at hxa
          obtain ⟨g3, cap3, hv3, hg3, hgl3, hlc3, -, ⟨-, -, -, d3, -⟩, -⟩ := hF3.open k x hx
          subst hv3
          have hxs := hF3.see x (List.mem_of_getElem? hx)
          rw [hxa] at hxs
          obtain ⟨xs, hxs'⟩ : ∃ q, x.2.1 = q := ⟨_, rfl⟩
          rw [hxs'] at d3 hxs
          obtain ⟨sa, sc, hsv, -, -⟩ := own_form13 hxs
          subst hsv
          have HXs := Lib.hid hxs'
          have HF3 := Lib.hid hF3
          have HM3 := Lib.hid hM3
          have HX := Lib.hid hx
          have HXa := Lib.hid hxa
          have HL3 := Lib.hid hl3
          have HNr := Lib.hid hxs
          have HGl := Lib.hid hgl3
          have HG3 := Lib.hid hg3
          obtain ⟨y0, y1, y2, y3, y4⟩ := HRd.out w3 HB3.out
          have cH3 := Lib.hid (cH.out w3.drew HB3.out.drew)
          rw [hl3]
          clear hF3 hM3 hb3 hx hxa hxs hxs' cA c1 c2 HR1 hl3 hgl3 hg3 t2 t3
          go_upto_region 8 with fail
          go_region_law (first
            | (go_simp; go_at_call 52; refine cH3.out.mono ?_; rintro e w4 ⟨v4, rfl, hn4, hnn4, hb4⟩; have hb34 : Below w3.heap.size w3 w4 := ((Below.refl w3.heap.size w3).drew).trans hb4; have e3 := (hb34.cell (p := ⟨g3, k * 5 + 3, none⟩) HGl.out).trans d3; have hF4 := HF3.out.after hb34; have hnr4 := HNr.out.after hb34; obtain ⟨v5, w5, hrun, hn5, hg5, ho5⟩ := append_own13 w.heap.size _ a.see w4 hnr4 hza (Nat.le_trans HB3.out.size hb34.size) v4 (hdsX b) hn4.bl HHne.out HHl.out 28; have hgr := hF4.row.kept hg5 (by have := own_types hF4.row (hF4.see x (List.mem_of_getElem? HX.out)) (fun e => ne_string e.symm); rw [HXs.out] at this; exact this); obtain ⟨-, -, -, -, hfz, hsome⟩ := own_facts13 hgr; have f3 := hfz (k * 5 + 3); obtain ⟨z3, hz3⟩ := Option.isSome_iff_exists.1 (hsome (k * 5 + 3) (by have := HL3.out; omega)); have HF4 := Lib.hid hF4; have HB4 := Lib.hid (HB3.out.trans (hb34.mono HB3.out.size)); obtain ⟨a4, c4, hv4, -, -⟩ := own_form13 hn4; obtain ⟨m4, hm4⟩ : ∃ q, (hdsX b).length = q := ⟨_, rfl⟩; rw [hm4] at hv4; obtain ⟨a5, c5, hv5, -, -⟩ := own_form13 hn5; obtain ⟨m5, hm5⟩ : ∃ q, (a.see ++ hdsX b).length = q := ⟨_, rfl⟩; rw [hm5] at hv5; subst hv4 hv5; have Hrun := Lib.hid hrun; have HN5 := Lib.hid hn5; have HG5 := Lib.hid hg5; have HO5 := Lib.hid ho5; clear hrun hn5 hg5 ho5 hfz hsome hgr hF4 hnr4 hn4 hnn4 hb4 hb34 hm4 hm5)
            | (refine step_append_run rfl (.tmp 58) (.tmp 63) 28 28 rfl _ _ (by simp [Act.eval]) (by simp [Act.eval]) Hrun.out ?_))
          all_goals
            have hmx := List.mem_of_getElem? HX.out
            have hP := HF4.out.putSee k x HX.out (by rw [HXs.out]; exact HG5.out) (.slice a5 m5 c5) (a.see ++ hdsX b) HN5.out (by
              rw [HXs.out]
              rcases HO5.out with h | h
              · exact .inr (.inl h)
              · exact .inr (.inr h))
            obtain ⟨w6, hw6⟩ : ∃ W, w5.setCell ⟨g3, k * 5 + 3, none⟩ (.slice a5 m5 c5) = W := ⟨_, rfl⟩
            have hB5 : Below w.heap.size w w5 := HB4.out.grown HG5.out HB4.out.size (fun j hj => ((HF4.out.see x hmx).lt j (by rw [HXs.out]; exact hj)).1)
            have hB6 : Below w.heap.size w w6 := by rw [← hw6]; exact hB5.setCell (p := ⟨g3, k * 5 + 3, none⟩) HG3.out _
            rw [hw6] at hP ⊢
            obtain ⟨F6, hF6⟩ : ∃ G, F.set k ({ x.1 with see := a.see ++ hdsX b }, .slice a5 m5 c5, x.2.2) = G := ⟨_, rfl⟩
            have hP : FR w.heap.size (.slice (some ⟨g3, 0, none⟩) n cap3) F6 w6 := by rw [← hF6, ← HL3.out]; exact hP
            have HM6 : RowKit.Hid (F6.map (·.1) = L1) := by
              unfold RowKit.Hid
              rw [← hF6, set_map F k _ L HM3.out, HXa.out]
              exact HL1.out
            have HL6 : RowKit.Hid (F6.length = n) := by
              unfold RowKit.Hid
              rw [← hF6, List.length_set]
              exact HL3.out
            have HP6 := Lib.hid hP
            have HB6 := Lib.hid hB6
            clear hP hB6 hB5 hw6 hF6 hmx HO5 HG5 HN5 Hrun HB4 HF4 hz3 f3 e3 cH3 y0 y1 y2 y3 y4 HG3 HGl HNr HL3 HXa HX HM3 HF3 HXs HB3 d3 HRd cH HHne HHl HL1
            go_wp2
            go_loopw [69] (fun s69 wr => ∃ (i : Nat) (G : List Ent), s69 = .int .i64 (i : Int) ∧ i ≤ n ∧ RowKit.Hid (G.length = n) ∧ RowKit.Hid (G.map (·.1) = (L1.map (turnP into gone)).take i ++ L1.drop i) ∧ RowKit.Hid (FR w.heap.size (.slice (some ⟨g3, 0, none⟩) n cap3) G wr) ∧ RowKit.Hid (Below w.heap.size w wr)) (fun s69 _ => n - (intOf s69).toNat)
            case atStart => exact ⟨0, F6, rfl, Nat.zero_le _, HL6.out, (by rw [List.take_zero, List.drop_zero, List.nil_append]; exact HM6.out), HP6.out, HB6.out⟩
            case round =>
              obtain ⟨i, G, rfl, hi, HGn, HGm, HGf, HGb⟩ := hrel
              clear HL6 HM6 HP6 HB6
              by_cases hin : i < n
              · have l1 : (0 : Int) ≤ (i : Int) := by omega
                have l2 : (i : Int) < (n : Int) := by omega
                obtain ⟨⟨ai, si, ti⟩, hx⟩ : ∃ y, G[i]? = some y := ⟨G[i]'(by rw [HGn.out]; exact hin), List.getElem?_eq_getElem (by rw [HGn.out]; exact hin)⟩
                have hL1 : i < L1.length := by rw [HL1n.out]; exact hin
                have hai : L1.getD i au0 = ai := by
                  have h1 := at_turn (turnP into gone) L1 i hL1
                  rw [← HGm.out, List.getElem?_map, hx] at h1
                  exact (Option.some.inj h1).symm
                have hmem : ai ∈ L1 := by
                  rw [← hai, getD_at13 L1 i hL1]
                  exact List.getElem_mem _
                obtain ⟨u1, u2⟩ := HTk.out ai hmem
                have cT := Lib.hid (turn_any w.heap.size g3 cap3 i G ai si ti into gone wr (by rw [HGn.out]; exact HGf.out) HGb.out.size hx u1 u2)
                have HUp := Lib.hid (upd_turn (turnP into gone) L1 i hL1)
                rw [hai] at HUp
                rw [HGn.out] at cT
                clear hx hL1 hai hmem u1 u2
                go_wp2_with fail
                refine cT.out.mono ?_
                rintro e w7 ⟨rfl, ⟨y, hy, hF7⟩, hb7⟩
                have HF7 := Lib.hid hF7
                have HB7 := Lib.hid (HGb.out.trans hb7)
                have HM7 : RowKit.Hid ((G.set i y).map (·.1) = (L1.map (turnP into gone)).take (i + 1) ++ L1.drop (i + 1)) := by
                  unfold RowKit.Hid
                  rw [List.map_set, HGm.out, hy]
                  exact HUp.out
                clear hF7 hb7 hy HGf HGb HGm HUp cT
                go_wp2
                go_roundw
                case rel => exact ⟨i + 1, G.set i y, by go_num, by omega, (by rw [List.length_set]; exact HGn.out), HM7.out, HF7.out, HB7.out⟩
                case measure => simp [intOf]; omega
              · obtain rfl : i = n := by omega
                have hm : G.map (·.1) = L1.map (turnP into gone) := by
                  rw [HGm.out, List.take_of_length_le (by rw [List.length_map, HL1n.out]; exact Nat.le_refl _), List.drop_of_length_le (by rw [HL1n.out]; exact Nat.le_refl _), List.append_nil]
                have hrow := HGf.out.row
                rw [HGn.out] at hrow
                have cD := Lib.hid (delA_any w.heap.size (.slice (some ⟨g3, 0, none⟩) i cap3) i k2 (G.flatMap cellsU) wr hrow q1 (by omega) (cellsU_one HGf.out))
                have HM7 := Lib.hid hm
                clear hm hrow HGm
                go_wp2_with fail
                refine cD.out.mono ?_
                rintro e w7 ⟨v7, rfl, hrow7, hg7, hob7⟩
                have hF7 := HGf.out.del k2 (by rw [HGn.out]; exact q1) (by rw [HGn.out]; exact hrow7) hg7
                have hm7 : (G.take k2 ++ G.drop (k2 + 1)).map (·.1) = (L1.map (turnP into gone)).take k2 ++ (L1.map (turnP into gone)).drop (k2 + 1) := by
                  rw [List.map_append, List.map_take, List.map_drop, HM7.out]
                obtain ⟨M, hMe⟩ : ∃ M, (L1.map (turnP into gone)).take k2 ++ (L1.map (turnP into gone)).drop (k2 + 1) = M := ⟨_, rfl⟩
                rw [hMe] at hm7 HBs HQ
                have hal := hF7.al
                rw [hm7] at hal
                have hB7 : Below w.heap.size w w7 := HGb.out.grown hg7 HGb.out.size (fun j hj => (HGf.out.row.lt j hj).1)
                obtain ⟨v8, hv8⟩ : ∃ q, (if rightA M = 0 then v7 else nilV) = q := ⟨_, rfl⟩
                have cC7 := Lib.hid (cC.out v7 M w7 hB7 hal HBs.out v8 hv8)
                have HF7 := Lib.hid hF7
                have HMe7 := Lib.hid hm7
                have HB7 := Lib.hid hB7
                have HV8 := Lib.hid hv8
                obtain ⟨a7, c7, hv7, -, -⟩ := hF7.form
                obtain ⟨n7, hn7⟩ : ∃ q, (G.take k2 ++ G.drop (k2 + 1)).length = q := ⟨_, rfl⟩
                rw [hn7] at hv7
                subst hv7
                clear hn7 hF7 hm7 hal hB7 hv8 hrow7 hg7 hob7 hMe HGf HGb HGn HM7 cD
                go_wp2_with fail
                refine cC7.out.mono ?_
                rintro e w9 ⟨rfl, hb9⟩
                have hno := HQ.out v8 _ w9 rfl (by
                  have := checked_al (HF7.out.after hb9) (v' := v8) (by rw [HMe7.out]; exact HV8.out)
                  rwa [HMe7.out] at this) (HB7.out.trans (hb9.mono HB7.out.size))
                clear hb9
                go_wp2
                first | exact hno | (go_ret2; exact hno)
        · have hno := hNo 1 (by unfold mergeA; rw [ha, hg]; exact if_pos (.inr hkd))
          have t1 : (a.kind == b.kind) = false := by simpa using hkd
          have t2 : (a.kind != b.kind) = true := by simpa using hkd
          obtain ⟨g, o, cap, s1, t1', hv1, hg1, hrd1⟩ := HV.out.read (plcA L into) p1
          obtain ⟨g2, o2, cap2, s2, t2', hv2, hg2, hrd2⟩ := HV.out.read (plcA L gone) q1
          obtain ⟨rfl, -, hcp⟩ := Value.slice.inj hv1
          obtain ⟨hg12, -, -⟩ := Value.slice.inj hv2
          obtain ⟨rfl, rfl, -⟩ := Addr.mk.inj (Option.some.inj hg12)
          have HR1 := Lib.hid (fun W hW => (hrd1 W hW).2.1)
          have HR2 := Lib.hid (fun W hW => (hrd2 W hW).2.1)
          rw [p2] at HR1
          rw [q2] at HR2
          clear hQ HQ ha hE hv hb hr hasc cA cC hbl hbz HV hNo hg p2 p3 q2 q3 hrd1 hrd2 hv1 hv2 hcp hg12 hkd hig
          generalize plcA L into = k at *
          generalize plcA L gone = k2 at *
          generalize L.length = n at *
          generalize a.kind = ak at *
          generalize b.kind = bk at *
          have i1 : (0 : Int) ≤ (k : Int) := by omega
          have i2 : (k : Int) < (n : Int) := by omega
          have j1 : (0 : Int) ≤ (k2 : Int) := by omega
          have j2 : (k2 : Int) < (n : Int) := by omega
          go_enter Tryz.func21, Tryz.ntmps21
          go_wp2_with fail
          refine cP1.out.mono ?_
          rintro e w1 ⟨rfl, hb1⟩
          have HB1 := Lib.hid hb1
          have cP := Lib.hid (cP2.out w1 hb1)
          clear hb1
          go_wp2_with fail
          refine cP.out.mono ?_
          rintro e w2 ⟨rfl, hb2⟩
          have hb02 := HB1.out.trans (hb2.mono HB1.out.size)
          have hno2 := fun q => hno.out (w2.drewN q) (hb02.trans ((drewN_below w2 q).mono hb02.size))
          have c1 := HR1.out w2 hb02
          have c2 := HR2.out w2 hb02
          clear hb2 hb02
          go_upto_region 5 with fail
          go_quiet (fail)
          go_wp2
          first | exact hno2 _ | (go_ret2; exact hno2 _)
end

end Go.Proofs.YtmcolapcmjdoeaaGreatDoor
