/- Merged: R08E, R08F, Stab08. -/
import Derived.Test.YtcnjjdbpcobolaaGreatDoorQ15
import Derived.Test.YtcnjjdbpcobolaaGreatDoorQ14
import Derived.Lib.Bytealg
import Derived.Sort.Statements
import Derived.Sort.WalkA
namespace Go.Proofs.YtcnjjdbpcobolaaGreatDoor

section
open Go.RowKit Go.PlainAid
theorem results_rec_tmp {P : Program} {fn : Func} {p u : Tmp} {ty : TypeId} (h : fn.results = #[.cell p ty, .tmp u]) (tmps : Array Value) (w : World) (g : Nat) (t : TypeId) (cs : Array Value) (fr : Nat × Nat) (d : TypeDesc)
    (hp : tmps.getD p undef = .pointer (some ⟨g, 0, none⟩)) (hg : w.heap[g]? = some (.cells cs t fr))
    (hu : P.underlying ty = some d) (hd : (match d with | .struct _ | .array _ _ => true | _ => false) = true) (hi : (P.info? ty).map (·.size) = some cs.size) :
    (results fn tmps).run P w = .ok (.tuple #[.agg cs, tmps.getD u undef]) w := by
  rw [results_cell_tmp h, hp]
  simp [asAddr, run_loadVar_row w g t ty cs fr d hg hu hd hi, Result.andThen]
theorem FL.zero (w : World) : FL (.slice none 0 0) [] w := ⟨none, 0, rfl, Nat.le_refl _, Nat.zero_le _, fun _ => rfl, fun i hi => by cases hi⟩

set_option maxHeartbeats 8000000 in
set_option maxRecDepth 100000 in
theorem refRemove_any (r : Rec) (u : Value) (w : World) (hu : FL u r.fields w) (i : Int) (hs : r.fields.length ≤ 10000) (q : Rec) (er : Int) (h : remR r i = (q, er)) :
    Calls Tryz.prog 24 #[RV r u, .int .i64 i] w fun e w' => ∃ v, e = .returned (.tuple #[RV q v, .int .i64 er]) ∧ FL v q.fields w' ∧ Below w.heap.size w w' := by
  have HU := Lib.hid hu
  obtain ⟨a, cap, rfl, hcap, hmax⟩ := hu.length
  unfold maxLen at hmax
  obtain ⟨n, hn⟩ : ∃ n, r.fields.length = n := ⟨_, rfl⟩
  unfold remR at h
  rw [hn] at hcap hs HU h ⊢
  have HN := Lib.hid hn
  obtain ⟨Q, hQ⟩ : ∃ Q, (fun (e : Ending) (w' : World) => ∃ v, e = .returned (.tuple #[RV q v, .int .i64 er]) ∧ FL v q.fields w' ∧ Below w.heap.size w w') = Q := ⟨_, rfl⟩
  rw [hQ]
  have HQ : RowKit.Hid (∀ e w', (∃ v, e = .returned (.tuple #[RV q v, .int .i64 er]) ∧ FL v q.fields w' ∧ Below w.heap.size w w') → Q e w') := by rw [← hQ]; exact fun _ _ h => h
  have cW := Lib.hid (fun ax nx cx a' n' c' W => refWith_any r ax a' nx cx n' c' W)
  unfold RV at cW ⊢
  obtain ⟨W0, hW0⟩ : ∃ W0, (w.alloc (.cells #[.int .i64 r.id, .int .i64 r.ver, .int .i64 r.kind, .string (S r.lang), .slice a n cap] 24)).alloc (.cells #[.int .i64 0, .int .i64 0, .int .i64 0, .string ⟨#[]⟩, .slice none 0 0] 24) = W0 := ⟨_, rfl⟩
  have b0 : Below w.heap.size w W0 := by rw [← hW0]; exact ((Below.refl w.heap.size w).alloc (Nat.le_refl _) _).alloc (by simp) _
  have hF : W0.heap[w.heap.size]? = some (.cells #[.int .i64 r.id, .int .i64 r.ver, .int .i64 r.kind, .string (S r.lang), .slice a n cap] 24 (0, 0)) := by
    rw [← hW0]
    exact (Below.heap_alloc _ _ _ (by simp)).trans (heap_alloc_new w _)
  have hR : W0.heap[w.heap.size + 1]? = some (.cells #[.int .i64 0, .int .i64 0, .int .i64 0, .string ⟨#[]⟩, .slice none 0 0] 24 (0, 0)) := by
    rw [← hW0]
    have := heap_alloc_new (w.alloc (.cells #[.int .i64 r.id, .int .i64 r.ver, .int .i64 r.kind, .string (S r.lang), .slice a n cap] 24)) (.cells #[.int .i64 0, .int .i64 0, .int .i64 0, .string ⟨#[]⟩, .slice none 0 0] 24)
    simpa using this
  have hsz0 : W0.heap.size = w.heap.size + 2 := by rw [← hW0]; simp
  have HW0 := Lib.hid hW0
  have HU0 := Lib.hid (HU.out.after b0)
  have HUw := Lib.hid HU.out
  clear hW0 hn hu HU hQ
  obtain ⟨lg, hlg⟩ : ∃ lg, S r.lang = lg := ⟨_, rfl⟩
  rw [hlg] at HW0 hF cW ⊢
  have HLG := Lib.hid hlg
  clear hlg
  by_cases hbad : i < 0 ∨ (n : Int) ≤ i
  · rw [if_pos hbad] at h
    obtain ⟨rfl, rfl⟩ := Prod.mk.inj h
    obtain ⟨⟨p0, p1, p2, p3, p4⟩, _⟩ := rec_cells hF
    obtain ⟨⟨r0, r1, r2, r3, r4⟩, g0, g1, g2, g3, g4⟩ := rec_cells hR
    have hfin := Lib.hid (rec_set (x0 := .int .i64 0) (x1 := .int .i64 0) (x2 := .int .i64 0) (x3 := .string ⟨#[]⟩) (x4 := .slice none 0 0) hR)
    have Fin := Lib.hid (rec_below (b := w.heap.size + 1) b0 (Nat.le_succ _) (.int .i64 0) (.int .i64 0) (.int .i64 0) (.string ⟨#[]⟩) (.slice none 0 0))
    clear hF hR hsz0 h cW b0
    by_cases h0 : i < 0
    · have d0 : decide (i < 0) = true := decide_eq_true h0
      clear hbad h0
      go_enter Tryz.func24, Tryz.ntmps24
      go_upto_region 1 with fail
      rw [HW0.out]
      go_wp2
      (try simp only [Exit.inBlock, Exit.then])
      refine bodyPost_ret (results_rec_tmp rfl _ _ (w.heap.size + 1) _ _ _ _ rfl hfin.out Tryz.underlying24 rfl (by kernel_rfl)) rfl ?_
      exact HQ.out _ _ ⟨.slice none 0 0, rfl, FL.zero _, Fin.out⟩
    · have d0 : decide (i < 0) = false := decide_eq_false h0
      have d1 : decide ((n : Int) ≤ i) = true := decide_eq_true (by omega)
      clear hbad h0
      go_enter Tryz.func24, Tryz.ntmps24
      go_upto_region 1 with fail
      rw [HW0.out]
      go_wp2
      (try simp only [Exit.inBlock, Exit.then])
      refine bodyPost_ret (results_rec_tmp rfl _ _ (w.heap.size + 1) _ _ _ _ rfl hfin.out Tryz.underlying24 rfl (by kernel_rfl)) rfl ?_
      exact HQ.out _ _ ⟨.slice none 0 0, rfl, FL.zero _, Fin.out⟩
  rw [if_neg hbad] at h
  obtain ⟨k, rfl⟩ : ∃ k : Nat, i = (k : Int) := ⟨i.toNat, by omega⟩
  have hkn : k < n := by omega
  rw [Int.toNat_natCast] at h
  obtain ⟨rfl, rfl⟩ := Prod.mk.inj h
  have d0 : decide ((k : Int) < 0) = false := decide_eq_false (by omega)
  have d1 : decide ((n : Int) ≤ (k : Int)) = false := decide_eq_false (by omega)
  have HFL : RowKit.Hid (FL (.slice a r.fields.length cap) r.fields w) := by rw [HN.out]; exact HUw.out
  obtain ⟨g, o, cp, x, he, _⟩ := HU0.out.at k (by rw [HN.out]; exact hkn)
  obtain ⟨rfl, -, -⟩ := Value.slice.inj he
  clear he h hbad
  have HF := Lib.hid hF
  have HR := Lib.hid hR
  have HS0 := Lib.hid hsz0
  have HB0 := Lib.hid b0
  obtain ⟨⟨p0, p1, p2, p3, p4⟩, _⟩ := rec_cells hF
  have hE := Lib.hid (FR.empty w W0 W0.heap.size (Nat.le_refl _))
  have hbE := Lib.hid ((Below.refl W0.heap.size W0).alloc (Nat.le_refl _) (.cells #[] 35))
  have hN1 := Lib.hid (HFL.out.head k (by rw [HN.out]; omega) (b0.trans (hbE.out.mono b0.size)))
  have d2 : ¬ n ≤ k := by omega
  have HTail := Lib.hid (fun w1 (hb1 : Below W0.heap.size W0 w1) => HFL.out.tail (k + 1) (by rw [HN.out]; omega) (b0.trans (hb1.mono b0.size)))
  have HD : RowKit.Hid ((r.fields.drop (k + 1)).length = n - (k + 1)) := by unfold RowKit.Hid; rw [List.length_drop, HN.out]
  have i1 : (0 : Int) ≤ (k : Int) := by omega
  have i2 : (k : Int) ≤ (cap : Int) := by omega
  have i3 : (k : Int) + 1 ≤ (n : Int) := by omega
  have hT : (r.fields.take k).length = k := by rw [List.length_take, HN.out]; omega
  have HT := Lib.hid hT
  have hlt0 : w.heap.size < W0.heap.size := by omega
  have p4E := (hbE.out.cell (p := ⟨w.heap.size, 4, none⟩) hlt0).trans p4
  clear hF hR hsz0 b0 hT
  go_enter Tryz.func24, Tryz.ntmps24
  go_upto_region 1 with fail
  rw [HW0.out]
  go_upto_region 4 with (at_builtin; refine append_fr _ rfl _ _ rfl w W0.heap.size _ [] rfl hE.out _ (r.fields.take k) k cap rfl HT.out (fun h => by cases h) hN1.out (by rw [HT.out]; simp; omega) (by simp) W0.heap.size W0 (Nat.le_refl _) hbE.out ?_; intro v1 w1 hfr1 hb1 hB1 hn1)
  clear hn1
  have q4 := (hb1.cell (p := ⟨w.heap.size, 4, none⟩) hlt0).trans p4
  have HTail1 := Lib.hid (HTail.out w1 hb1)
  have HFR1 := Lib.hid hfr1
  have HB1 := Lib.hid hb1
  clear hfr1 hb1 p4E
  go_upto_region 5 with (at_builtin; refine append_fr _ rfl _ _ rfl w W0.heap.size _ ([] ++ r.fields.take k) rfl HFR1.out _ (r.fields.drop (k + 1)) _ _ rfl (HD.out.trans ?_) ?_ (HTail1.out _ ?_) ?_ hB1 W0.heap.size W0 (Nat.le_refl _) HB1.out ?_)
  · rfl
  · rw [HN.out]
    omega
  · rw [HN.out]
    omega
  all_goals
    intro v2 w2 hfr2 hb2 _ _
    have hfr2 : FR w W0.heap.size v2 (r.fields.take k ++ r.fields.drop (k + 1)) w2 := hfr2
    have hq := Lib.hid (hfr2.fl (HB0.out.trans (hb2.mono HB0.out.size)))
    obtain ⟨a2, c2, hv2, _, _⟩ := hq.out.length
    obtain ⟨l2, hl2⟩ : ∃ l2, (r.fields.take k ++ r.fields.drop (k + 1)).length = l2 := ⟨_, rfl⟩
    rw [hl2] at hv2
    subst hv2
    have hF2 := (hb2.block _ hlt0).trans HF.out
    obtain ⟨⟨s0, s1, s2, s3, s4⟩, _⟩ := rec_cells hF2
    have hlt1 : w.heap.size + 1 < W0.heap.size := by rw [HS0.out]; omega
    have hR2 := (hb2.block _ hlt1).trans HR.out
    have HR2 := Lib.hid hR2
    have HFR2 := Lib.hid hfr2
    have HB2 := Lib.hid hb2
    have hlt2 : w.heap.size + 1 < w2.heap.size := Nat.lt_of_lt_of_le hlt1 hb2.size
    have HLT2 := Lib.hid hlt2
    clear hF2 hR2 hfr2 hb2 hl2 hlt1 hlt2 p0 p1 p2 p3 p4 q4
    go_wp2_with fail
    refine (cW.out _ _ _ _ _ _ _).mono ?_
    rintro e w3 ⟨rfl, d⟩
    have hR3 := (d.block _ HLT2.out).trans HR2.out
    have hfinB := Lib.hid ((HB0.out.trans (HB2.out.mono HB0.out.size)).trans (d.mono (Nat.le_trans HB0.out.size HB2.out.size)))
    have hql := Lib.hid (rec_row (HFR2.out.after d) (show w.heap.size + 1 < W0.heap.size by rw [HS0.out]; omega) (.int .i64 r.id) (.int .i64 r.ver) (.int .i64 r.kind) (.string lg) (.slice a2 l2 c2))
    obtain ⟨⟨r0, r1, r2, r3, r4⟩, g0, g1, g2, g3, g4⟩ := rec_cells hR3
    have hfin := Lib.hid (rec_set (x0 := .int .i64 r.id) (x1 := .int .i64 r.ver) (x2 := .int .i64 r.kind) (x3 := .string lg) (x4 := .slice a2 l2 c2) hR3)
    have Fin := Lib.hid (rec_below (b := w.heap.size + 1) hfinB.out (Nat.le_succ _) (.int .i64 r.id) (.int .i64 r.ver) (.int .i64 r.kind) (.string lg) (.slice a2 l2 c2))
    go_wp2
    (try simp only [Exit.inBlock, Exit.then])
    refine bodyPost_ret (results_rec_tmp rfl _ _ (w.heap.size + 1) _ _ _ _ rfl hfin.out Tryz.underlying24 rfl (by kernel_rfl)) rfl ?_
    refine HQ.out _ _ ⟨.slice a2 l2 c2, ?_, ?_, Fin.out⟩
    · unfold RV
      rw [HLG.out]
      rfl
    · exact hql.out.fl Fin.out
end

section
open Go.RowKit Go.PlainAid
theorem FL.one (w : World) (f : Fld) (x : Value) (hq : QL x f.subs w) (W : World) : NW w (some ⟨W.heap.size, 0, none⟩) [f] (W.alloc (.cells #[.string (S f.tag), .string (S f.ind), x, .int .i64 f.auth] 35)) := by
  refine ⟨(fun h => by cases h), fun ad had => ⟨[x], rfl, fun i hi => ?_, fun j u hj => ?_⟩⟩
  · obtain rfl : i = 0 := by simpa using hi
    exact hq
  · obtain rfl := Option.some.inj had
    exact cells_four W _ _ _ _ _ j u hj

set_option maxHeartbeats 16000000 in
set_option maxRecDepth 100000 in
theorem refInsert_any (r : Rec) (u : Value) (w : World) (hu : FL u r.fields w) (i : Int) (f : Fld) (x : Value) (hx : QL x f.subs w) (hz : ∀ j, j < f.subs.length → (f.subs.getD j sub0).2.length ≤ 1000000) (hs : r.fields.length ≤ 10000) (q : Rec) (er : Int) (h : insR r i f = (q, er)) :
    Calls Tryz.prog 22 #[RV r u, .int .i64 i, FV f x] w fun e w' => ∃ v, e = .returned (.tuple #[RV q v, .int .i64 er]) ∧ FL v q.fields w' ∧ Below w.heap.size w w' := by
  have HU := Lib.hid hu
  obtain ⟨a, cap, rfl, hcap, hmax⟩ := hu.length
  unfold maxLen at hmax
  obtain ⟨n, hn⟩ : ∃ n, r.fields.length = n := ⟨_, rfl⟩
  unfold insR at h
  rw [hn] at hcap hs HU h ⊢
  have HN := Lib.hid hn
  obtain ⟨Q, hQ⟩ : ∃ Q, (fun (e : Ending) (w' : World) => ∃ v, e = .returned (.tuple #[RV q v, .int .i64 er]) ∧ FL v q.fields w' ∧ Below w.heap.size w w') = Q := ⟨_, rfl⟩
  rw [hQ]
  have HQ : RowKit.Hid (∀ e w', (∃ v, e = .returned (.tuple #[RV q v, .int .i64 er]) ∧ FL v q.fields w' ∧ Below w.heap.size w w') → Q e w') := by rw [← hQ]; exact fun _ _ h => h
  have cW := Lib.hid (fun ax nx cx a' n' c' W => refWith_any r ax a' nx cx n' c' W)
  obtain ⟨ee, hee⟩ : ∃ ee, rightI f = ee := ⟨_, rfl⟩
  have cR := Lib.hid (fun W (hb : Below w.heap.size w W) => refRight_any f x W (hx.after hb) hz ee hee)
  rw [hee] at h
  unfold RV at cW ⊢
  unfold FV at cR ⊢
  have HOne := Lib.hid (FL.one w f x hx)
  obtain ⟨⟨lg, hlg⟩, ⟨ft, hft⟩, ⟨fi, hfi⟩, ⟨fa, hfa⟩⟩ : (∃ lg, S r.lang = lg) ∧ (∃ t, S f.tag = t) ∧ (∃ t, S f.ind = t) ∧ (∃ t, f.auth = t) := ⟨⟨_, rfl⟩, ⟨_, rfl⟩, ⟨_, rfl⟩, ⟨_, rfl⟩⟩
  rw [hft, hfi, hfa] at cR HOne ⊢
  rw [hlg] at cW ⊢
  have HLG := Lib.hid hlg
  clear hlg hft hfi hfa
  obtain ⟨W0, hW0⟩ : ∃ W0, ((w.alloc (.cells #[.int .i64 r.id, .int .i64 r.ver, .int .i64 r.kind, .string lg, .slice a n cap] 24)).alloc (.cells #[.string ft, .string fi, x, .int .i64 fa] 35)).alloc (.cells #[.int .i64 0, .int .i64 0, .int .i64 0, .string ⟨#[]⟩, .slice none 0 0] 24) = W0 := ⟨_, rfl⟩
  have b0 : Below w.heap.size w W0 := by rw [← hW0]; exact (((Below.refl w.heap.size w).alloc (Nat.le_refl _) _).alloc (by simp) _).alloc (by simp; omega) _
  have hF : W0.heap[w.heap.size]? = some (.cells #[.int .i64 r.id, .int .i64 r.ver, .int .i64 r.kind, .string lg, .slice a n cap] 24 (0, 0)) := by
    rw [← hW0]
    exact ((Below.heap_alloc _ _ _ (by simp; omega)).trans (Below.heap_alloc _ _ _ (by simp))).trans (heap_alloc_new w _)
  have hG : W0.heap[w.heap.size + 1]? = some (.cells #[.string ft, .string fi, x, .int .i64 fa] 35 (0, 0)) := by
    rw [← hW0]
    refine (Below.heap_alloc _ _ _ (by simp)).trans ?_
    have := heap_alloc_new (w.alloc (.cells #[.int .i64 r.id, .int .i64 r.ver, .int .i64 r.kind, .string lg, .slice a n cap] 24)) (.cells #[.string ft, .string fi, x, .int .i64 fa] 35)
    simpa using this
  have hR : W0.heap[w.heap.size + 2]? = some (.cells #[.int .i64 0, .int .i64 0, .int .i64 0, .string ⟨#[]⟩, .slice none 0 0] 24 (0, 0)) := by
    rw [← hW0]
    have := heap_alloc_new ((w.alloc (.cells #[.int .i64 r.id, .int .i64 r.ver, .int .i64 r.kind, .string lg, .slice a n cap] 24)).alloc (.cells #[.string ft, .string fi, x, .int .i64 fa] 35)) (.cells #[.int .i64 0, .int .i64 0, .int .i64 0, .string ⟨#[]⟩, .slice none 0 0] 24)
    simpa using this
  have hsz0 : W0.heap.size = w.heap.size + 3 := by rw [← hW0]; simp
  have HW0 := Lib.hid hW0
  have HUw := Lib.hid HU.out
  clear hW0 hn hu HU hQ hx
  obtain ⟨⟨p0, p1, p2, p3, p4⟩, _⟩ := rec_cells hF
  have y0 : W0.cell? ⟨w.heap.size + 1, 0, none⟩ = some (.string ft) := by rw [Lib.cell_of_heap hG]; rfl
  have y1 : W0.cell? ⟨w.heap.size + 1, 1, none⟩ = some (.string fi) := by rw [Lib.cell_of_heap hG]; rfl
  have y2 : W0.cell? ⟨w.heap.size + 1, 2, none⟩ = some x := by rw [Lib.cell_of_heap hG]; rfl
  have y3 : W0.cell? ⟨w.heap.size + 1, 3, none⟩ = some (.int .i64 fa) := by rw [Lib.cell_of_heap hG]; rfl
  by_cases hbad : i < 0 ∨ (n : Int) < i
  · rw [if_pos hbad] at h
    obtain ⟨rfl, rfl⟩ := Prod.mk.inj h
    obtain ⟨⟨r0, r1, r2, r3, r4⟩, g0, g1, g2, g3, g4⟩ := rec_cells hR
    have hfin := Lib.hid (rec_set (x0 := .int .i64 0) (x1 := .int .i64 0) (x2 := .int .i64 0) (x3 := .string ⟨#[]⟩) (x4 := .slice none 0 0) hR)
    have Fin := Lib.hid (rec_below (b := w.heap.size + 2) b0 (by omega) (.int .i64 0) (.int .i64 0) (.int .i64 0) (.string ⟨#[]⟩) (.slice none 0 0))
    clear hF hR hG hsz0 h cW cR b0 hee
    by_cases h0 : i < 0
    · have d0 : decide (i < 0) = true := decide_eq_true h0
      clear hbad h0
      go_enter Tryz.func22, Tryz.ntmps22
      go_upto_region 1 with fail
      rw [HW0.out]
      go_wp2
      (try simp only [Exit.inBlock, Exit.then])
      refine bodyPost_ret (results_rec_tmp rfl _ _ (w.heap.size + 2) _ _ _ _ rfl hfin.out Tryz.underlying24 rfl (by kernel_rfl)) rfl ?_
      exact HQ.out _ _ ⟨.slice none 0 0, rfl, FL.zero _, Fin.out⟩
    · have d0 : decide (i < 0) = false := decide_eq_false h0
      have d1 : decide ((n : Int) < i) = true := decide_eq_true (by omega)
      clear hbad h0
      go_enter Tryz.func22, Tryz.ntmps22
      go_upto_region 1 with fail
      rw [HW0.out]
      go_wp2
      (try simp only [Exit.inBlock, Exit.then])
      refine bodyPost_ret (results_rec_tmp rfl _ _ (w.heap.size + 2) _ _ _ _ rfl hfin.out Tryz.underlying24 rfl (by kernel_rfl)) rfl ?_
      exact HQ.out _ _ ⟨.slice none 0 0, rfl, FL.zero _, Fin.out⟩
  rw [if_neg hbad] at h
  obtain ⟨k, rfl⟩ : ∃ k : Nat, i = (k : Int) := ⟨i.toNat, by omega⟩
  have hkn : k ≤ n := by omega
  rw [Int.toNat_natCast] at h
  have d0 : decide ((k : Int) < 0) = false := decide_eq_false (by omega)
  have d1 : decide ((n : Int) < (k : Int)) = false := decide_eq_false (by omega)
  clear hbad
  have c1 := Lib.hid (cR.out W0 b0)
  have hlt0 : w.heap.size < W0.heap.size := by omega
  have hlt1 : w.heap.size + 1 < W0.heap.size := by omega
  have hlt2 : w.heap.size + 2 < W0.heap.size := by omega
  have HF := Lib.hid hF
  have HG := Lib.hid hG
  have HR := Lib.hid hR
  have HS0 := Lib.hid hsz0
  have HB0 := Lib.hid b0
  clear hF hG hR hsz0 b0 cR hee
  go_enter Tryz.func22, Tryz.ntmps22
  go_upto_region 1 with fail
  rw [HW0.out]
  go_wp2_with fail
  refine c1.out.mono ?_
  rintro e w5 ⟨rfl, d⟩
  have hF5 := (d.block _ hlt0).trans HF.out
  have hG5 := (d.block _ hlt1).trans HG.out
  have hR5 := (d.block _ hlt2).trans HR.out
  have hb5 : Below w.heap.size w w5 := HB0.out.trans (d.mono HB0.out.size)
  have hs5 : w.heap.size + 3 ≤ w5.heap.size := by have := d.size; have := HS0.out; omega
  clear p0 p1 p2 p3 p4 y0 y1 y2 y3 d c1 hlt0 hlt1 hlt2
  obtain ⟨⟨p0, p1, p2, p3, p4⟩, _⟩ := rec_cells hF5
  by_cases h0 : ee ≠ 0
  · rw [if_pos h0] at h
    obtain ⟨rfl, rfl⟩ := Prod.mk.inj h
    obtain ⟨⟨r0, r1, r2, r3, r4⟩, g0, g1, g2, g3, g4⟩ := rec_cells hR5
    have hfin := Lib.hid (rec_set (x0 := .int .i64 0) (x1 := .int .i64 0) (x2 := .int .i64 0) (x3 := .string ⟨#[]⟩) (x4 := .slice none 0 0) hR5)
    have Fin := Lib.hid (rec_below (b := w.heap.size + 2) hb5 (by omega) (.int .i64 0) (.int .i64 0) (.int .i64 0) (.string ⟨#[]⟩) (.slice none 0 0))
    have t5 : (ee != 0) = true := by simpa using h0
    clear hF5 hR5 hG5 h cW h0 hb5
    go_wp2
    (try simp only [Exit.inBlock, Exit.then])
    refine bodyPost_ret (results_rec_tmp rfl _ _ (w.heap.size + 2) _ _ _ _ rfl hfin.out Tryz.underlying24 rfl (by kernel_rfl)) rfl ?_
    exact HQ.out _ _ ⟨.slice none 0 0, rfl, FL.zero _, Fin.out⟩
  obtain rfl : ee = 0 := Decidable.not_not.1 h0
  rw [if_neg h0] at h
  clear h0
  by_cases h64 : 64 ≤ n
  · rw [if_pos h64] at h
    obtain ⟨rfl, rfl⟩ := Prod.mk.inj h
    obtain ⟨⟨r0, r1, r2, r3, r4⟩, g0, g1, g2, g3, g4⟩ := rec_cells hR5
    have hfin := Lib.hid (rec_set (x0 := .int .i64 0) (x1 := .int .i64 0) (x2 := .int .i64 0) (x3 := .string ⟨#[]⟩) (x4 := .slice none 0 0) hR5)
    have Fin := Lib.hid (rec_below (b := w.heap.size + 2) hb5 (by omega) (.int .i64 0) (.int .i64 0) (.int .i64 0) (.string ⟨#[]⟩) (.slice none 0 0))
    have d6 : decide ((64 : Int) ≤ (n : Int)) = true := decide_eq_true (by omega)
    have d7 : 64 ≤ n := h64
    clear hF5 hR5 hG5 h cW hb5 h64
    go_wp2
    (try simp only [Exit.inBlock, Exit.then])
    refine bodyPost_ret (results_rec_tmp rfl _ _ (w.heap.size + 2) _ _ _ _ rfl hfin.out Tryz.underlying24 rfl (by kernel_rfl)) rfl ?_
    exact HQ.out _ _ ⟨.slice none 0 0, rfl, FL.zero _, Fin.out⟩
  rw [if_neg h64] at h
  obtain ⟨rfl, rfl⟩ := Prod.mk.inj h
  have d6 : decide ((64 : Int) ≤ (n : Int)) = false := decide_eq_false (by omega)
  have HFL : RowKit.Hid (FL (.slice a r.fields.length cap) r.fields w) := by rw [HN.out]; exact HUw.out
  obtain ⟨_, _, hav, _, _, han, _⟩ := HFL.out
  obtain ⟨rfl, -, rfl⟩ := Value.slice.inj hav
  clear hav h
  have HF := Lib.hid hF5
  have HG := Lib.hid hG5
  have HR := Lib.hid hR5
  have HB0 := Lib.hid hb5
  have HS5 := Lib.hid hs5
  have hE := Lib.hid (FR.empty w w5 w5.heap.size (Nat.le_refl _))
  have hbE := Lib.hid ((Below.refl w5.heap.size w5).alloc (Nat.le_refl _) (.cells #[] 35))
  have hN1 := Lib.hid (HFL.out.head k (by rw [HN.out]; omega) (hb5.trans (hbE.out.mono hb5.size)))
  have HTail := Lib.hid (fun w1 (hb1 : Below w5.heap.size w5 w1) => HFL.out.tail k (by rw [HN.out]; omega) (hb5.trans (hb1.mono hb5.size)))
  have HD : RowKit.Hid ((r.fields.drop k).length = n - k) := by unfold RowKit.Hid; rw [List.length_drop, HN.out]
  have i1 : (0 : Int) ≤ (k : Int) := by omega
  have i2 : (k : Int) ≤ (cap : Int) := by omega
  have i3 : (k : Int) ≤ (n : Int) := by omega
  have hT : (r.fields.take k).length = k := by rw [List.length_take, HN.out]; omega
  have HT := Lib.hid hT
  have hlt0 : w.heap.size < w5.heap.size := by omega
  have hlt1 : w.heap.size + 1 < w5.heap.size := by omega
  have p4E := (hbE.out.cell (p := ⟨w.heap.size, 4, none⟩) hlt0).trans p4
  have y0 : w5.cell? ⟨w.heap.size + 1, 0, none⟩ = some (.string ft) := by rw [Lib.cell_of_heap hG5]; rfl
  have y1 : w5.cell? ⟨w.heap.size + 1, 1, none⟩ = some (.string fi) := by rw [Lib.cell_of_heap hG5]; rfl
  have y2 : w5.cell? ⟨w.heap.size + 1, 2, none⟩ = some x := by rw [Lib.cell_of_heap hG5]; rfl
  have y3 : w5.cell? ⟨w.heap.size + 1, 3, none⟩ = some (.int .i64 fa) := by rw [Lib.cell_of_heap hG5]; rfl
  have HAN := Lib.hid han
  clear hF5 hR5 hG5 hT hb5 h64 han
  have hcapn : a = none → cap = 0 ∧ n = 0 ∧ k = 0 := fun e => by have := HAN.out e; omega
  have HP4 := Lib.hid p4
  have HIns : RowKit.Hid (r.fields.take k ++ [f] ++ r.fields.drop k = insL r.fields k f) := by unfold RowKit.Hid insL; rw [List.append_assoc]; rfl
  have hsum : n ≤ 10000 := hs
  cases a with
  | none =>
    obtain ⟨rfl, rfl, rfl⟩ := hcapn rfl
    go_upto_region 9 with (at_builtin; go_loud (refine append_fr _ rfl _ _ rfl w w5.heap.size _ [] rfl hE.out none (r.fields.take 0) 0 0 rfl HT.out (fun _ => rfl) hN1.out (by rw [HT.out]; simp) (by simp) w5.heap.size w5 (Nat.le_refl _) hbE.out ?_; intro v1 w1 hfr1 hb1 hB1 hn1))
    clear hn1
    have q4 := (hb1.cell (p := ⟨w.heap.size, 4, none⟩) hlt0).trans p4
    have z0 := (hb1.cell (p := ⟨w.heap.size + 1, 0, none⟩) hlt1).trans y0
    have z1 := (hb1.cell (p := ⟨w.heap.size + 1, 1, none⟩) hlt1).trans y1
    have z2 := (hb1.cell (p := ⟨w.heap.size + 1, 2, none⟩) hlt1).trans y2
    have z3 := (hb1.cell (p := ⟨w.heap.size + 1, 3, none⟩) hlt1).trans y3
    have ba := (Below.refl w1.heap.size w1).alloc (Nat.le_refl _) (.cells #[.string ft, .string fi, x, .int .i64 fa] 35)
    have HFRa := Lib.hid (hfr1.after ba)
    have HBa := Lib.hid (hb1.trans (ba.mono hb1.size))
    have HBs := Lib.hid (Nat.le_trans hB1 ba.size)
    have HNW := Lib.hid (HOne.out w1)
    have HL1 : RowKit.Hid (([] ++ r.fields.take 0).length + [f].length ≤ 100000) := by unfold RowKit.Hid; rw [List.nil_append, HT.out, List.length_singleton]; omega
    clear hfr1 hb1 hB1 ba p4E y0 y1 y2 y3 p0 p1 p2 p3 p4
    go_upto_region 10 with (at_builtin; go_loud (refine append_fr _ rfl _ _ rfl w w5.heap.size _ ([] ++ r.fields.take 0) rfl HFRa.out (some ⟨w1.heap.size, 0, none⟩) [f] 1 1 rfl rfl (fun h => by cases h) HNW.out HL1.out HBs.out w5.heap.size w5 (Nat.le_refl _) HBa.out ?_; intro v2 w2 hfr2 hb2 hB2 hn2))
    clear hn2 q4 z0 z1 z2 z3
    have q4 := (hb2.cell (p := ⟨w.heap.size, 4, none⟩) hlt0).trans HP4.out
    have HTail2 := Lib.hid (HTail.out w2 hb2)
    have HFR2 := Lib.hid hfr2
    have HB2 := Lib.hid hb2
    have hl2 : (([] ++ r.fields.take 0) ++ [f]).length + (r.fields.drop 0).length ≤ 100000 := by rw [HD.out, List.length_append, List.nil_append, HT.out, List.length_singleton]; omega
    have HL2 := Lib.hid hl2
    clear hfr2 hb2 hl2
    go_upto_region 11 with (at_builtin; go_loud (refine append_fr _ rfl _ _ rfl w w5.heap.size _ (([] ++ r.fields.take 0) ++ [f]) rfl HFR2.out _ (r.fields.drop 0) 0 0 rfl (HD.out.trans ?_) (fun _ => rfl) (HTail2.out none ?_) HL2.out hB2 w5.heap.size w5 (Nat.le_refl _) HB2.out ?_))
    · rfl
    · intro ad h
      cases h
    intro v3 w3 hfr3 hb3 _ _
    have hfr3 : FR w w5.heap.size v3 (insL r.fields 0 f) w3 := by rw [← HIns.out]; simpa using hfr3
    have hq := Lib.hid (hfr3.fl (HB0.out.trans (hb3.mono HB0.out.size)))
    obtain ⟨a2, c2, hv2, _, _⟩ := hq.out.length
    obtain ⟨l2, hl2⟩ : ∃ l2, (insL r.fields 0 f).length = l2 := ⟨_, rfl⟩
    rw [hl2] at hv2
    subst hv2
    have hF2 := (hb3.block _ hlt0).trans HF.out
    obtain ⟨⟨s0, s1, s2, s3, s4⟩, _⟩ := rec_cells hF2
    have hlt2' : w.heap.size + 2 < w5.heap.size := by have := HS5.out; omega
    have hR2 := (hb3.block _ hlt2').trans HR.out
    have HR2 := Lib.hid hR2
    have HFR3 := Lib.hid hfr3
    have HB3 := Lib.hid hb3
    have hlt2 : w.heap.size + 2 < w3.heap.size := Nat.lt_of_lt_of_le hlt2' hb3.size
    have HLT2 := Lib.hid hlt2
    clear hF2 hR2 hfr3 hb3 hl2 hlt2 hlt2' q4
    go_wp2_with fail
    refine (cW.out _ _ _ _ _ _ _).mono ?_
    rintro e w4 ⟨rfl, d⟩
    have hR3 := (d.block _ HLT2.out).trans HR2.out
    have hfinB := Lib.hid ((HB0.out.trans (HB3.out.mono HB0.out.size)).trans (d.mono (Nat.le_trans HB0.out.size HB3.out.size)))
    have hql := Lib.hid (rec_row (HFR3.out.after d) (show w.heap.size + 2 < w5.heap.size by have := HS5.out; omega) (.int .i64 r.id) (.int .i64 r.ver) (.int .i64 r.kind) (.string lg) (.slice a2 l2 c2))
    obtain ⟨⟨r0, r1, r2, r3, r4⟩, g0, g1, g2, g3, g4⟩ := rec_cells hR3
    have hfin := Lib.hid (rec_set (x0 := .int .i64 r.id) (x1 := .int .i64 r.ver) (x2 := .int .i64 r.kind) (x3 := .string lg) (x4 := .slice a2 l2 c2) hR3)
    have Fin := Lib.hid (rec_below (b := w.heap.size + 2) hfinB.out (by omega) (.int .i64 r.id) (.int .i64 r.ver) (.int .i64 r.kind) (.string lg) (.slice a2 l2 c2))
    go_wp2
    (try simp only [Exit.inBlock, Exit.then])
    refine bodyPost_ret (results_rec_tmp rfl _ _ (w.heap.size + 2) _ _ _ _ rfl hfin.out Tryz.underlying24 rfl (by kernel_rfl)) rfl ?_
    refine HQ.out _ _ ⟨.slice a2 l2 c2, ?_, ?_, Fin.out⟩
    · unfold RV
      rw [HLG.out]
      rfl
    · exact hql.out.fl Fin.out
  | some ad =>
    go_upto_region 9 with (at_builtin; go_loud (refine append_fr _ rfl _ _ rfl w w5.heap.size _ [] rfl hE.out (some ad) (r.fields.take k) k cap rfl HT.out (fun h => by cases h) hN1.out (by rw [HT.out]; simp; omega) (by simp) w5.heap.size w5 (Nat.le_refl _) hbE.out ?_; intro v1 w1 hfr1 hb1 hB1 hn1))
    clear hn1
    have q4 := (hb1.cell (p := ⟨w.heap.size, 4, none⟩) hlt0).trans p4
    have z0 := (hb1.cell (p := ⟨w.heap.size + 1, 0, none⟩) hlt1).trans y0
    have z1 := (hb1.cell (p := ⟨w.heap.size + 1, 1, none⟩) hlt1).trans y1
    have z2 := (hb1.cell (p := ⟨w.heap.size + 1, 2, none⟩) hlt1).trans y2
    have z3 := (hb1.cell (p := ⟨w.heap.size + 1, 3, none⟩) hlt1).trans y3
    have ba := (Below.refl w1.heap.size w1).alloc (Nat.le_refl _) (.cells #[.string ft, .string fi, x, .int .i64 fa] 35)
    have HFRa := Lib.hid (hfr1.after ba)
    have HBa := Lib.hid (hb1.trans (ba.mono hb1.size))
    have HBs := Lib.hid (Nat.le_trans hB1 ba.size)
    have HNW := Lib.hid (HOne.out w1)
    have HL1 : RowKit.Hid (([] ++ r.fields.take k).length + [f].length ≤ 100000) := by unfold RowKit.Hid; rw [List.nil_append, HT.out, List.length_singleton]; omega
    clear hfr1 hb1 hB1 ba p4E y0 y1 y2 y3 p0 p1 p2 p3 p4
    go_upto_region 10 with (at_builtin; go_loud (refine append_fr _ rfl _ _ rfl w w5.heap.size _ ([] ++ r.fields.take k) rfl HFRa.out (some ⟨w1.heap.size, 0, none⟩) [f] 1 1 rfl rfl (fun h => by cases h) HNW.out HL1.out HBs.out w5.heap.size w5 (Nat.le_refl _) HBa.out ?_; intro v2 w2 hfr2 hb2 hB2 hn2))
    clear hn2 q4 z0 z1 z2 z3
    have q4 := (hb2.cell (p := ⟨w.heap.size, 4, none⟩) hlt0).trans HP4.out
    have HTail2 := Lib.hid (HTail.out w2 hb2)
    have HFR2 := Lib.hid hfr2
    have HB2 := Lib.hid hb2
    have hl2 : (([] ++ r.fields.take k) ++ [f]).length + (r.fields.drop k).length ≤ 100000 := by rw [HD.out, List.length_append, List.nil_append, HT.out, List.length_singleton]; omega
    have HL2 := Lib.hid hl2
    clear hfr2 hb2 hl2
    go_upto_region 11 with (at_builtin; go_loud (refine append_fr _ rfl _ _ rfl w w5.heap.size _ (([] ++ r.fields.take k) ++ [f]) rfl HFR2.out _ (r.fields.drop k) _ _ rfl (HD.out.trans ?_) ?_ (HTail2.out _ ?_) HL2.out hB2 w5.heap.size w5 (Nat.le_refl _) HB2.out ?_))
    any_goals (first | rfl | (rw [HN.out]; omega) | (intro h2; exfalso; rw [HN.out] at h2; omega) | (intro ad' h1 h2; exfalso; rw [HN.out] at h2; omega))
    all_goals
      intro v3 w3 hfr3 hb3 _ _
      have hfr3 : FR w w5.heap.size v3 (insL r.fields k f) w3 := by rw [← HIns.out]; simpa using hfr3
      have hq := Lib.hid (hfr3.fl (HB0.out.trans (hb3.mono HB0.out.size)))
      obtain ⟨a2, c2, hv2, _, _⟩ := hq.out.length
      obtain ⟨l2, hl2⟩ : ∃ l2, (insL r.fields k f).length = l2 := ⟨_, rfl⟩
      rw [hl2] at hv2
      subst hv2
      have hF2 := (hb3.block _ hlt0).trans HF.out
      obtain ⟨⟨s0, s1, s2, s3, s4⟩, _⟩ := rec_cells hF2
      have hlt2' : w.heap.size + 2 < w5.heap.size := by have := HS5.out; omega
      have hR2 := (hb3.block _ hlt2').trans HR.out
      have HR2 := Lib.hid hR2
      have HFR3 := Lib.hid hfr3
      have HB3 := Lib.hid hb3
      have hlt2 : w.heap.size + 2 < w3.heap.size := Nat.lt_of_lt_of_le hlt2' hb3.size
      have HLT2 := Lib.hid hlt2
      clear hF2 hR2 hfr3 hb3 hl2 hlt2 hlt2' q4
      go_wp2_with fail
      refine (cW.out _ _ _ _ _ _ _).mono ?_
      rintro e w4 ⟨rfl, d⟩
      have hR3 := (d.block _ HLT2.out).trans HR2.out
      have hfinB := Lib.hid ((HB0.out.trans (HB3.out.mono HB0.out.size)).trans (d.mono (Nat.le_trans HB0.out.size HB3.out.size)))
      have hql := Lib.hid (rec_row (HFR3.out.after d) (show w.heap.size + 2 < w5.heap.size by have := HS5.out; omega) (.int .i64 r.id) (.int .i64 r.ver) (.int .i64 r.kind) (.string lg) (.slice a2 l2 c2))
      obtain ⟨⟨r0, r1, r2, r3, r4⟩, g0, g1, g2, g3, g4⟩ := rec_cells hR3
      have hfin := Lib.hid (rec_set (x0 := .int .i64 r.id) (x1 := .int .i64 r.ver) (x2 := .int .i64 r.kind) (x3 := .string lg) (x4 := .slice a2 l2 c2) hR3)
      have Fin := Lib.hid (rec_below (b := w.heap.size + 2) hfinB.out (by omega) (.int .i64 r.id) (.int .i64 r.ver) (.int .i64 r.kind) (.string lg) (.slice a2 l2 c2))
      go_wp2
      (try simp only [Exit.inBlock, Exit.then])
      refine bodyPost_ret (results_rec_tmp rfl _ _ (w.heap.size + 2) _ _ _ _ rfl hfin.out Tryz.underlying24 rfl (by kernel_rfl)) rfl ?_
      refine HQ.out _ _ ⟨.slice a2 l2 c2, ?_, ?_, Fin.out⟩
      · unfold RV
        rw [HLG.out]
        rfl
      · exact hql.out.fl Fin.out
end

section
open Go.Lib Go.Sort
theorem u8_lt (a b : UInt8) : a < b ↔ a.toNat < b.toNat := UInt8.lt_iff_toNat_lt
theorem u8_eq (a b : UInt8) (h1 : ¬ a < b) (h2 : ¬ b < a) : a = b := by
  rw [u8_lt] at h1 h2
  exact UInt8.toNat_inj.1 (by omega)
theorem cb_refl : ∀ a : List UInt8, compareBytes a a = 0
  | [] => rfl
  | a :: xs => by
    unfold compareBytes
    rw [if_neg (by rw [u8_lt]; omega), if_neg (by rw [u8_lt]; omega)]
    exact cb_refl xs
theorem cb_eq : ∀ a b : List UInt8, compareBytes a b = 0 → a = b
  | [], [], _ => rfl
  | [], _ :: _, h => by simp [compareBytes] at h
  | _ :: _, [], h => by simp [compareBytes] at h
  | a :: xs, b :: ys, h => by
    unfold compareBytes at h
    split at h
    · cases h
    · split at h
      · cases h
      · rename_i h1 h2
        rw [u8_eq a b h1 h2, cb_eq xs ys h]
theorem cb_anti : ∀ a b : List UInt8, compareBytes b a = - compareBytes a b
  | [], [] => rfl
  | [], _ :: _ => rfl
  | _ :: _, [] => rfl
  | a :: xs, b :: ys => by
    unfold compareBytes
    have ih := cb_anti xs ys
    simp only [u8_lt]
    split
    · rw [if_neg (by omega)]
    · split
      · rfl
      · exact ih
theorem cb_range : ∀ a b : List UInt8, -1 ≤ compareBytes a b ∧ compareBytes a b ≤ 1
  | [], [] => by decide
  | [], _ :: _ => by constructor <;> (unfold compareBytes; decide)
  | _ :: _, [] => by constructor <;> (unfold compareBytes; decide)
  | a :: xs, b :: ys => by
    unfold compareBytes
    split
    · decide
    · split
      · decide
      · exact cb_range xs ys
theorem cb_trans : ∀ a b c : List UInt8, compareBytes a b ≤ 0 → compareBytes b c ≤ 0 → compareBytes a c ≤ 0 ∧ (compareBytes a c = 0 → compareBytes a b = 0 ∧ compareBytes b c = 0)
  | [], [], [], _, _ => by simp [compareBytes]
  | [], [], _ :: _, _, _ => by simp [compareBytes]
  | [], _ :: _, [], _, h => by simp [compareBytes] at h
  | [], _ :: _, _ :: _, _, _ => by simp [compareBytes]
  | _ :: _, [], _, h, _ => by simp [compareBytes] at h
  | _ :: _, _ :: _, [], _, h => by simp [compareBytes] at h
  | a :: xs, b :: ys, c :: zs, h1, h2 => by
    have ih := cb_trans xs ys zs
    unfold compareBytes at h1 h2 ⊢
    simp only [u8_lt] at h1 h2 ⊢
    by_cases hab : a.toNat < b.toNat
    · by_cases hbc : b.toNat < c.toNat
      · rw [if_pos (by omega)]; exact ⟨by decide, fun h => by cases h⟩
      · rw [if_neg hbc] at h2
        by_cases hcb : c.toNat < b.toNat
        · rw [if_pos hcb] at h2; omega
        · rw [if_pos (show a.toNat < c.toNat by omega)]; exact ⟨by decide, fun h => by cases h⟩
    · rw [if_neg hab] at h1
      by_cases hba : b.toNat < a.toNat
      · rw [if_pos hba] at h1; omega
      · rw [if_neg hba] at h1
        by_cases hbc : b.toNat < c.toNat
        · rw [if_pos (show a.toNat < c.toNat by omega)]; exact ⟨by decide, fun h => by cases h⟩
        · rw [if_neg hbc] at h2
          by_cases hcb : c.toNat < b.toNat
          · rw [if_pos hcb] at h2; omega
          · rw [if_neg hcb] at h2
            rw [if_neg (show ¬ a.toNat < c.toNat by omega), if_neg (show ¬ c.toNat < a.toNat by omega), if_neg hab, if_neg hba, if_neg hbc, if_neg hcb]
            exact ih h1 h2
theorem cb_less : ∀ a b : List UInt8, Op.bytesLess a b = decide (compareBytes a b = -1)
  | [], [] => rfl
  | [], _ :: _ => rfl
  | _ :: _, [] => rfl
  | a :: xs, b :: ys => by
    have ih := cb_less xs ys
    unfold Op.bytesLess compareBytes
    rw [ih]
    by_cases h1 : a < b
    · simp [h1]
    · by_cases h2 : b < a
      · have h3 : a ≠ b := by intro h; subst h; exact h1 h2
        simp [h1, h2, h3]
      · have h3 := u8_eq a b h1 h2
        subst h3
        simp [h1]

section
variable {α : Type} (key : α → List UInt8)
/-- The order of two elements: that of their keys. -/
def kc (x y : α) : Int := compareBytes (key x) (key y)
theorem kc_refl (x : α) : kc key x x = 0 := cb_refl _
theorem kc_anti (x y : α) : kc key y x = - kc key x y := cb_anti _ _
theorem kc_le {x y z : α} (h1 : kc key x y ≤ 0) (h2 : kc key y z ≤ 0) : kc key x z ≤ 0 := (cb_trans _ _ _ h1 h2).1
theorem kc_lt_le {x y z : α} (h1 : kc key x y < 0) (h2 : kc key y z ≤ 0) : kc key x z < 0 := by
  have h := cb_trans _ _ _ (show compareBytes (key x) (key y) ≤ 0 from Int.le_of_lt h1) h2
  have h3 : kc key x z ≤ 0 := h.1
  have h4 : kc key x z = 0 → kc key x y = 0 := fun e => (h.2 e).1
  rcases Int.lt_or_eq_of_le h3 with h5 | h5
  · exact h5
  · exact absurd (h4 h5) (by omega)
theorem kc_le_lt {x y z : α} (h1 : kc key x y ≤ 0) (h2 : kc key y z < 0) : kc key x z < 0 := by
  have h := cb_trans _ _ _ h1 (show compareBytes (key y) (key z) ≤ 0 from Int.le_of_lt h2)
  have h3 : kc key x z ≤ 0 := h.1
  have h4 : kc key x z = 0 → kc key y z = 0 := fun e => (h.2 e).2
  rcases Int.lt_or_eq_of_le h3 with h5 | h5
  · exact h5
  · exact absurd (h4 h5) (by omega)
theorem kc_ne {x y : α} (h : kc key x y < 0) : key x ≠ key y := fun e => by
  unfold kc at h
  rw [e, cb_refl] at h
  omega
def Asc (L : List α) : Prop := L.Pairwise fun x y => kc key x y ≤ 0
/-- The elements with this key, in their order. -/
def pick (t : List UInt8) (L : List α) : List α := L.filter fun x => decide (key x = t)
theorem pick_append (t : List UInt8) (L M : List α) : pick key t (L ++ M) = pick key t L ++ pick key t M := List.filter_append _ _
/-- As many elements, those with each key in their order. -/
structure Keep (M X : List α) : Prop where
  len : M.length = X.length
  same : ∀ t, pick key t M = pick key t X
structure Stab (M X : List α) : Prop where
  keep : Keep key M X
  asc : Asc key M
theorem Keep.refl (X : List α) : Keep key X X := ⟨rfl, fun _ => rfl⟩
variable {key}
theorem Keep.trans {X Y Z : List α} (h : Keep key X Y) (g : Keep key Y Z) : Keep key X Z := ⟨h.len.trans g.len, fun t => (h.same t).trans (g.same t)⟩
theorem Keep.app {X Y U V : List α} (h : Keep key X Y) (g : Keep key U V) : Keep key (X ++ U) (Y ++ V) :=
  ⟨by rw [List.length_append, List.length_append, h.len, g.len], fun t => by rw [pick_append, pick_append, h.same, g.same]⟩
theorem Keep.mem {M X : List α} (h : Keep key M X) (x : α) : x ∈ M ↔ x ∈ X := by
  have e : ∀ L : List α, x ∈ L ↔ x ∈ pick key (key x) L := fun L => by simp [pick]
  rw [e M, e X, h.same]
theorem Stab.refl {X : List α} (h : Asc key X) : Stab key X X := ⟨Keep.refl key X, h⟩
theorem pick_none (t : List UInt8) (L : List α) (h : ∀ x ∈ L, key x ≠ t) : pick key t L = [] := by
  unfold pick
  rw [List.filter_eq_nil_iff]
  intro x hx
  simpa using h x hx
/-- Two parts change places where the elements of the one are less than those of the other. -/
theorem Keep.swap {X Y : List α} (h : ∀ y ∈ Y, ∀ x ∈ X, kc key y x < 0) : Keep key (Y ++ X) (X ++ Y) := by
  refine ⟨by rw [List.length_append, List.length_append, Nat.add_comm], fun t => ?_⟩
  rw [pick_append, pick_append]
  by_cases hx : ∃ x ∈ X, key x = t
  · obtain ⟨x, hx, rfl⟩ := hx
    rw [pick_none (key x) Y (fun y hy => kc_ne key (h y hy x hx)), List.nil_append, List.append_nil]
  · rw [pick_none t X (fun x hx' e => hx ⟨x, hx', e⟩), List.nil_append, List.append_nil]
theorem asc_append {X Y : List α} : Asc key (X ++ Y) ↔ Asc key X ∧ Asc key Y ∧ ∀ x ∈ X, ∀ y ∈ Y, kc key x y ≤ 0 := List.pairwise_append
/-- Merging by parts: what is sorted before the middle, and behind it, is sorted. -/
theorem Stab.merge {X1 X2 Y1 Y2 M1 M2 : List α} (hX : Asc key (X1 ++ X2)) (hY : Asc key (Y1 ++ Y2)) (h1 : ∀ x ∈ X1, ∀ y ∈ Y2, kc key x y ≤ 0) (h2 : ∀ y ∈ Y1, ∀ x ∈ X2, kc key y x < 0)
    (g1 : Stab key M1 (X1 ++ Y1)) (g2 : Stab key M2 (X2 ++ Y2)) : Stab key (M1 ++ M2) ((X1 ++ X2) ++ (Y1 ++ Y2)) := by
  refine ⟨(g1.keep.app g2.keep).trans ?_, asc_append.2 ⟨g1.asc, g2.asc, fun a ha b hb => ?_⟩⟩
  · have e1 : (X1 ++ Y1) ++ (X2 ++ Y2) = X1 ++ ((Y1 ++ X2) ++ Y2) := by simp [List.append_assoc]
    have e2 : (X1 ++ X2) ++ (Y1 ++ Y2) = X1 ++ ((X2 ++ Y1) ++ Y2) := by simp [List.append_assoc]
    rw [e1, e2]
    exact (Keep.refl key X1).app ((Keep.swap h2).app (Keep.refl key Y2))
  · rw [g1.keep.mem, List.mem_append] at ha
    rw [g2.keep.mem, List.mem_append] at hb
    rcases ha with ha | ha <;> rcases hb with hb | hb
    · exact (asc_append.1 hX).2.2 a ha b hb
    · exact h1 a ha b hb
    · exact Int.le_of_lt (h2 a ha b hb)
    · exact (asc_append.1 hY).2.2 a ha b hb
/-- One element goes to its place among sorted ones behind it. -/
theorem Stab.front {x : α} {Y1 Y2 : List α} (hY : Asc key (Y1 ++ Y2)) (h1 : ∀ y ∈ Y1, kc key y x < 0) (h2 : ∀ y ∈ Y2, kc key x y ≤ 0) : Stab key (Y1 ++ x :: Y2) ([x] ++ (Y1 ++ Y2)) := by
  have := Stab.merge (X1 := []) (X2 := [x]) (Y1 := Y1) (Y2 := Y2) (M1 := Y1) (M2 := x :: Y2) (by simp [Asc]) hY (fun _ h => by cases h) (fun y hy z hz => by rw [List.mem_singleton] at hz; subst hz; exact h1 y hy)
    (Stab.refl (asc_append.1 hY).1) (Stab.refl (List.pairwise_cons.2 ⟨h2, (asc_append.1 hY).2.1⟩))
  simpa using this
/-- One element goes to its place among sorted ones before it. -/
theorem Stab.back {y : α} {X1 X2 : List α} (hX : Asc key (X1 ++ X2)) (h1 : ∀ x ∈ X1, kc key x y ≤ 0) (h2 : ∀ x ∈ X2, kc key y x < 0) : Stab key (X1 ++ y :: X2) ((X1 ++ X2) ++ [y]) := by
  have := Stab.merge (X1 := X1) (X2 := X2) (Y1 := [y]) (Y2 := []) (M1 := X1 ++ [y]) (M2 := X2) hX (by simp [Asc]) (fun _ _ _ h => by cases h) (fun z hz x hx => by rw [List.mem_singleton] at hz; subst hz; exact h2 x hx)
    (Stab.refl (asc_append.2 ⟨(asc_append.1 hX).1, by simp [Asc], fun x hx z hz => by rw [List.mem_singleton] at hz; subst hz; exact h1 x hx⟩)) (by rw [List.append_nil]; exact Stab.refl (asc_append.1 hX).2.1)
  simpa using this
theorem Stab.cong {N M X R : List α} (h : Stab key N (M ++ R)) (g : Keep key M X) : Stab key N (X ++ R) := ⟨h.keep.trans (g.app (Keep.refl key R)), h.asc⟩
/-- There is one sorted list with these elements in their order. -/
theorem Stab.unique : ∀ {M N : List α}, Asc key M → Asc key N → (∀ t, pick key t M = pick key t N) → M = N
  | [], [], _, _, _ => rfl
  | [], y :: s, _, _, h => by have := h (key y); simp [pick] at this
  | x :: s, [], _, _, h => by have := h (key x); simp [pick] at this
  | x :: s, y :: r, h1, h2, h => by
    have hx := h (key x)
    have hy := h (key y)
    have key_of : kc key x y = 0 → x = y ∧ s = r := fun e => by
      have ek : key x = key y := cb_eq _ _ e
      have hh := h (key x)
      simp only [pick, List.filter_cons, decide_true, if_true] at hh
      rw [if_pos (by simp [ek])] at hh
      obtain ⟨e1, _⟩ := List.cons.inj hh
      subst e1
      refine ⟨rfl, Stab.unique (List.pairwise_cons.1 h1).2 (List.pairwise_cons.1 h2).2 fun t => ?_⟩
      have ht := h t
      simp only [pick, List.filter_cons] at ht
      by_cases hc : key x = t
      · simp only [hc, decide_true, if_true] at ht
        exact (List.cons.inj ht).2
      · simp only [hc, decide_false] at ht
        exact ht
    rcases Int.lt_trichotomy (kc key x y) 0 with hlt | he | hgt
    · exfalso
      rw [pick_none (key x) (y :: r) (fun z hz e => by
        have h3 : kc key y z ≤ 0 := by
          rcases List.mem_cons.1 hz with rfl | hz
          · rw [kc_refl]; omega
          · exact (List.pairwise_cons.1 h2).1 z hz
        exact kc_ne key (kc_lt_le key hlt h3) e.symm)] at hx
      simp [pick] at hx
    · obtain ⟨rfl, rfl⟩ := key_of he
      rfl
    · exfalso
      have hlt : kc key y x < 0 := by rw [kc_anti]; omega
      rw [pick_none (key y) (x :: s) (fun z hz e => by
        have h3 : kc key x z ≤ 0 := by
          rcases List.mem_cons.1 hz with rfl | hz
          · rw [kc_refl]; omega
          · exact (List.pairwise_cons.1 h1).1 z hz
        exact kc_ne key (kc_lt_le key hlt h3) e.symm)] at hy
      simp [pick] at hy
theorem Stab.one {M N X : List α} (h : Stab key M X) (g : Stab key N X) : M = N := Stab.unique h.asc g.asc fun t => (h.keep.same t).trans (g.keep.same t).symm

/-! Parts that are sorted. -/
def On (key : α → List UInt8) (L : List α) (a b : Nat) : Prop := Asc key ((L.drop a).take (b - a))
theorem on_low {A M R : List α} {a b : Nat} (hb : b ≤ A.length) : On key (A ++ M) a b ↔ On key (A ++ R) a b := by
  unfold On
  by_cases hab : a ≤ b
  · rw [List.drop_append_of_le_length (by omega), List.drop_append_of_le_length (by omega), List.take_append_of_le_length (by rw [List.length_drop]; omega), List.take_append_of_le_length (by rw [List.length_drop]; omega)]
  · rw [show b - a = 0 by omega, List.take_zero, List.take_zero]
theorem on_high {A M N Z : List α} {a b : Nat} (hl : M.length = N.length) (ha : A.length + M.length ≤ a) : On key (A ++ (M ++ Z)) a b ↔ On key (A ++ (N ++ Z)) a b := by
  unfold On
  have e : ∀ K : List α, K.length = M.length → (A ++ (K ++ Z)).drop a = Z.drop (a - A.length - M.length) := fun K hK => by
    rw [List.drop_append, List.drop_of_length_le (by omega), List.nil_append, List.drop_append, List.drop_of_length_le (by omega), List.nil_append, hK]
  rw [e M rfl, e N hl.symm]
theorem on_mid {A M Z : List α} {a b : Nat} (ha : A.length = a) (hb : b = a + M.length) : On key (A ++ (M ++ Z)) a b ↔ Asc key M := by
  unfold On
  rw [List.drop_append, List.drop_of_length_le (by omega), List.nil_append, show a - A.length = 0 by omega, List.drop_zero, List.take_append_of_le_length (by omega), List.take_of_length_le (by omega)]
theorem on_over {L : List α} {a b c : Nat} (h : On key L a b) (hc : b ≤ c) (hL : L.length ≤ b) : On key L a c := by
  unfold On at *
  rw [List.take_of_length_le (by rw [List.length_drop]; omega)] at h ⊢
  exact h
theorem on_none {L : List α} {a b : Nat} (h : L.length ≤ a) : On key L a b := by
  unfold On
  rw [List.drop_of_length_le h]
  simp [Asc]
theorem on_all {L : List α} {b : Nat} (h : On key L 0 b) (hb : L.length ≤ b) : Asc key L := by
  unfold On at h
  rw [List.drop_zero, List.take_of_length_le (by omega)] at h
  exact h
theorem on_cut {L A X Z : List α} {a b : Nat} (h : On key L a b) (hL : L = A ++ (X ++ Z)) (ha : A.length = a) (hb : b = a + X.length) : Asc key X := by
  subst hL
  exact (on_mid ha hb).1 h
end

/-! Exchanges in an array. -/
section
variable {α : Type} [Inhabited α]
theorem swp_list (U : List α) (p : α) (V : List α) (q : α) (R : List α) {i j : Nat} (hi : i = U.length) (hj : j = U.length + 1 + V.length) :
    swp (U ++ p :: (V ++ q :: R)).toArray i j = (U ++ q :: (V ++ p :: R)).toArray := by
  subst hi hj
  have g1 : (U ++ p :: (V ++ q :: R)).toArray[U.length]! = p := by
    simp
  have g2 : (U ++ p :: (V ++ q :: R)).toArray[U.length + 1 + V.length]! = q := by
    have e : U ++ p :: (V ++ q :: R) = (U ++ p :: V) ++ q :: R := by simp
    rw [e]
    simp [Nat.add_assoc, Nat.add_comm 1]
  unfold swp
  rw [g1, g2]
  apply Array.toList_inj.1
  rw [Array.toList_setIfInBounds, Array.toList_setIfInBounds]
  show ((U ++ p :: (V ++ q :: R)).set U.length q).set (U.length + 1 + V.length) p = U ++ q :: (V ++ p :: R)
  rw [List.set_append_right _ _ (Nat.le_refl _), Nat.sub_self, List.set_cons_zero, List.set_append_right _ _ (by omega), show U.length + 1 + V.length - U.length = V.length + 1 by omega, List.set_cons_succ, List.set_append_right _ _ (Nat.le_refl _), Nat.sub_self, List.set_cons_zero]
theorem swp_comm (d : Array α) (i j : Nat) : swp d i j = swp d j i := by
  unfold swp
  by_cases h : i = j
  · subst h; rfl
  · apply Array.toList_inj.1
    simp only [Array.toList_setIfInBounds]
    exact List.set_comm _ _ (fun e => h e)
theorem at_list (U : List α) (p : α) (R : List α) {i : Nat} (hi : i = U.length) : (U ++ p :: R).toArray[i]! = p := by
  subst hi
  simp
/-- Going down through sorted ones to its place. -/
theorem insInner_list (lt : α → α → Bool) (A : List α) (x : α) (R : List α) : ∀ (U : List α) (V : List α), (∀ v ∈ V, lt x v = true) → ∃ U' V', U ++ V = U' ++ V' ∧ (∀ v ∈ V', lt x v = true) ∧ (∀ y, U'.getLast? = some y → lt x y = false) ∧
    insInner lt A.length (A.length + U.length) (A ++ (U ++ x :: (V ++ R))).toArray = (A ++ (U' ++ x :: (V' ++ R))).toArray := by
  intro U
  induction hU : U.length generalizing U with
  | zero =>
    intro V hV
    have : U = [] := List.eq_nil_of_length_eq_zero hU
    subst this
    refine ⟨[], V, rfl, hV, (fun y h => by cases h), ?_⟩
    rw [insInner_stop _ _ _ _ (.inl (by simp))]
  | succ n ih =>
    intro V hV
    obtain ⟨U0, y, rfl⟩ : ∃ U0 y, U = U0 ++ [y] := by
      rcases List.eq_nil_or_concat U with rfl | ⟨U0, y, rfl⟩
      · cases hU
      · exact ⟨U0, y, List.concat_eq_append⟩
    have hn : U0.length = n := by simpa using hU
    have e0 : A ++ ((U0 ++ [y]) ++ x :: (V ++ R)) = (A ++ U0) ++ y :: ([] ++ x :: (V ++ R)) := by simp
    have e1 : A ++ ((U0 ++ [y]) ++ x :: (V ++ R)) = (A ++ U0 ++ [y]) ++ x :: (V ++ R) := by simp
    have gx : (A ++ ((U0 ++ [y]) ++ x :: (V ++ R))).toArray[A.length + (n + 1)]! = x := by
      rw [e1]; exact at_list _ _ _ (by simp; omega)
    have gy : (A ++ ((U0 ++ [y]) ++ x :: (V ++ R))).toArray[A.length + (n + 1) - 1]! = y := by
      rw [e0]; exact at_list _ _ _ (by simp; omega)
    by_cases hl : lt x y = true
    · obtain ⟨U', V', h1, h2, h3, h4⟩ := ih U0 hn (y :: V) (fun v hv => by
        rcases List.mem_cons.1 hv with rfl | hv
        · exact hl
        · exact hV v hv)
      refine ⟨U', V', by rw [← h1]; simp, h2, h3, ?_⟩
      rw [insInner_go _ _ _ _ (by omega) (by rw [gx, gy]; exact hl), ← h4, show A.length + (n + 1) - 1 = A.length + n by omega]
      congr 1
      rw [swp_comm, e0, swp_list (A ++ U0) y [] x (V ++ R) (by simp; omega) (by simp; omega)]
      simp
    · refine ⟨U0 ++ [y], V, rfl, hV, fun z hz => ?_, ?_⟩
      · rw [List.getLast?_concat] at hz
        obtain rfl := Option.some.inj hz
        simpa using hl
      · rw [insInner_stop _ _ _ _ (.inr (by rw [gx, gy]; simpa using hl))]
theorem insOuter_list (key : α → List UInt8) (lt : α → α → Bool) (hlt : ∀ x y, lt x y = decide (kc key x y < 0)) (A Z : List α) : ∀ (Y M X : List α), Stab key M X →
    ∃ N, Stab key N (X ++ Y) ∧ insOuter lt A.length (A.length + M.length + Y.length) (A.length + M.length) (A ++ (M ++ (Y ++ Z))).toArray = (A ++ (N ++ Z)).toArray
  | [], M, X, h => ⟨M, by rw [List.append_nil]; exact h, by rw [insOuter_stop _ _ _ _ _ (by simp)]; rfl⟩
  | x :: Y, M, X, h => by
    obtain ⟨U, V, h1, h2, h3, h4⟩ := insInner_list lt A x (Y ++ Z) M [] (fun v hv => by cases hv)
    rw [List.append_nil] at h1
    have hUV : Asc key (U ++ V) := by rw [← h1]; exact h.asc
    have hB : Stab key (U ++ x :: V) (M ++ [x]) := by
      rw [h1]
      refine Stab.back hUV (fun u hu => ?_) (fun v hv => ?_)
      · rcases List.eq_nil_or_concat U with rfl | ⟨U0, y, rfl⟩
        · cases hu
        · have h5 := h3 y (by simp)
          rw [hlt, decide_eq_false_iff_not] at h5
          have h6 : kc key y x ≤ 0 := by rw [kc_anti]; omega
          simp only [List.concat_eq_append, List.mem_append, List.mem_singleton] at hu
          rcases hu with hu | rfl
          · have h7 : kc key u y ≤ 0 := by
              have := (asc_append.1 hUV).1
              rw [List.concat_eq_append] at this
              exact (asc_append.1 this).2.2 u hu y (by simp)
            exact kc_le key h7 h6
          · exact h6
      · have h5 := h2 v hv
        rw [hlt, decide_eq_true_iff] at h5
        exact h5
    have hN := hB.cong h.keep
    obtain ⟨N, hN1, hN2⟩ := insOuter_list key lt hlt A Z Y (U ++ x :: V) (X ++ [x]) hN
    refine ⟨N, by rwa [List.append_assoc] at hN1, ?_⟩
    have hlen : M.length = U.length + V.length := by rw [h1, List.length_append]
    have e1 : A ++ (M ++ (x :: Y ++ Z)) = A ++ (M ++ x :: ([] ++ (Y ++ Z))) := by simp
    rw [insOuter_go _ _ _ _ _ (by simp), e1, h4]
    have e2 : A ++ (U ++ x :: (V ++ (Y ++ Z))) = A ++ ((U ++ x :: V) ++ (Y ++ Z)) := by simp
    rw [e2, ← hN2]
    congr 1 <;> simp <;> omega
theorem insertion_list (key : α → List UInt8) (lt : α → α → Bool) (hlt : ∀ x y, lt x y = decide (kc key x y < 0)) (A X Z : List α) :
    ∃ N, Stab key N X ∧ Sort.insertionSort lt (A ++ (X ++ Z)).toArray A.length (A.length + X.length) = (A ++ (N ++ Z)).toArray := by
  unfold Sort.insertionSort
  cases X with
  | nil => exact ⟨[], Stab.refl (by simp [Asc]), by rw [insOuter_stop _ _ _ _ _ (by simp)]⟩
  | cons x Y =>
    obtain ⟨N, h1, h2⟩ := insOuter_list key lt hlt A Z Y [x] [x] (Stab.refl (by simp [Asc]))
    refine ⟨N, h1, ?_⟩
    rw [← h2]
    congr 1
    · simp; omega
end
/-! Where two sorted lists are split. -/
section
variable {α : Type} [Inhabited α] {key : α → List UInt8}
theorem get_mem_take {X : List α} {i : Nat} {x : α} (h : x ∈ X.take i) : ∃ k, k < i ∧ k < X.length ∧ X[k]! = x := by
  obtain ⟨k, hk, rfl⟩ := List.getElem_of_mem h
  rw [List.length_take] at hk
  refine ⟨k, by omega, by omega, ?_⟩
  rw [List.getElem_take, getElem!_pos X k (by omega)]
theorem get_mem_drop {X : List α} {i : Nat} {x : α} (h : x ∈ X.drop i) : ∃ k, i ≤ k ∧ k < X.length ∧ X[k]! = x := by
  obtain ⟨k, hk, rfl⟩ := List.getElem_of_mem h
  rw [List.length_drop] at hk
  refine ⟨i + k, by omega, by omega, ?_⟩
  rw [List.getElem_drop, getElem!_pos X (i + k) (by omega)]
theorem Asc.le {X : List α} (h : Asc key X) {i j : Nat} (hij : i ≤ j) (hj : j < X.length) : kc key X[i]! X[j]! ≤ 0 := by
  rcases Nat.lt_or_ge i j with hl | hg
  · rw [getElem!_pos X i (by omega), getElem!_pos X j hj]
    exact List.pairwise_iff_getElem.1 h i j (by omega) hj hl
  · obtain rfl : i = j := by omega
    rw [kc_refl]
    omega
theorem split_lo {X Y : List α} (hX : Asc key X) (hY : Asc key Y) {i j : Nat} (hi : i ≤ X.length) (h : i = 0 ∨ j = Y.length ∨ kc key X[i - 1]! Y[j]! ≤ 0) : ∀ x ∈ X.take i, ∀ y ∈ Y.drop j, kc key x y ≤ 0 := by
  intro x hx y hy
  obtain ⟨k, h1, h2, rfl⟩ := get_mem_take hx
  obtain ⟨l, h3, h4, rfl⟩ := get_mem_drop hy
  rcases h with h | h | h
  · omega
  · omega
  · exact kc_le key (kc_le key (hX.le (show k ≤ i - 1 by omega) (by omega)) h) (hY.le h3 h4)
theorem split_hi {X Y : List α} (hX : Asc key X) (hY : Asc key Y) {i j : Nat} (hj : j ≤ Y.length) (h : i = X.length ∨ j = 0 ∨ kc key Y[j - 1]! X[i]! < 0) : ∀ y ∈ Y.take j, ∀ x ∈ X.drop i, kc key y x < 0 := by
  intro y hy x hx
  obtain ⟨k, h1, h2, rfl⟩ := get_mem_take hy
  obtain ⟨l, h3, h4, rfl⟩ := get_mem_drop hx
  rcases h with h | h | h
  · omega
  · omega
  · exact kc_lt_le key (kc_le_lt key (hY.le (show k ≤ j - 1 by omega) (by omega)) h) (hX.le h3 h4)
/-- Two sorted lists, split so; the parts merged. -/
theorem Stab.split {X Y M1 M2 : List α} (hX : Asc key X) (hY : Asc key Y) {i j : Nat} (hi : i ≤ X.length) (hj : j ≤ Y.length) (h1 : i = 0 ∨ j = Y.length ∨ kc key X[i - 1]! Y[j]! ≤ 0) (h2 : i = X.length ∨ j = 0 ∨ kc key Y[j - 1]! X[i]! < 0)
    (g1 : Stab key M1 (X.take i ++ Y.take j)) (g2 : Stab key M2 (X.drop i ++ Y.drop j)) : Stab key (M1 ++ M2) (X ++ Y) := by
  have := Stab.merge (X1 := X.take i) (X2 := X.drop i) (Y1 := Y.take j) (Y2 := Y.drop j) (by rwa [List.take_append_drop]) (by rwa [List.take_append_drop]) (split_lo hX hY hi h1) (split_hi hX hY hj h2) g1 g2
  rwa [List.take_append_drop, List.take_append_drop] at this
omit [Inhabited α] in
theorem Asc.take {X : List α} (h : Asc key X) (i : Nat) : Asc key (X.take i) := List.Pairwise.sublist (List.take_sublist i X) h
omit [Inhabited α] in
theorem Asc.drop {X : List α} (h : Asc key X) (i : Nat) : Asc key (X.drop i) := List.Pairwise.sublist (List.drop_sublist i X) h
theorem at_X (A X R : List α) {i t : Nat} (hi : i = A.length + t) (ht : t < X.length) : (A ++ (X ++ R)).toArray[i]! = X[t]! := by
  subst hi
  rw [getElem!_pos X t ht, getElem!_pos _ _ (by simp; omega)]
  simp [List.getElem_append_right, List.getElem_append_left, ht]
theorem at_Y (A X Y R : List α) {i t : Nat} (hi : i = A.length + X.length + t) (ht : t < Y.length) : (A ++ (X ++ (Y ++ R))).toArray[i]! = Y[t]! := by
  rw [show A ++ (X ++ (Y ++ R)) = (A ++ X) ++ (Y ++ R) by simp]
  exact at_X (A ++ X) Y R (by simp; omega) ht

/-! Two ranges change places, one element after the other. -/
def swapping (A P B Q C : List α) (i : Nat) : List α := A ++ (Q.take i ++ (P.drop i ++ (B ++ (P.take i ++ (Q.drop i ++ C)))))
omit [Inhabited α] in
theorem swapping_start (A P B Q C : List α) : swapping A P B Q C 0 = A ++ (P ++ (B ++ (Q ++ C))) := by simp [swapping]
omit [Inhabited α] in
theorem swapping_end (A P B Q C : List α) {n : Nat} (hP : P.length = n) (hQ : Q.length = n) : swapping A P B Q C n = A ++ (Q ++ (B ++ (P ++ C))) := by
  unfold swapping
  rw [List.take_of_length_le (by omega), List.take_of_length_le (by omega), List.drop_of_length_le (by omega), List.drop_of_length_le (by omega)]
  simp
omit [Inhabited α] in
theorem swapping_len (A P B Q C : List α) {n : Nat} (hP : P.length = n) (hQ : Q.length = n) (i : Nat) : (swapping A P B Q C i).length = A.length + n + B.length + n + C.length := by
  simp [swapping]
  omega
theorem swapping_step (A P B Q C : List α) {n i a b : Nat} (hP : P.length = n) (hQ : Q.length = n) (hi : i < n) (ha : a = A.length + i) (hb : b = A.length + n + B.length + i) :
    swp (swapping A P B Q C i).toArray a b = (swapping A P B Q C (i + 1)).toArray := by
  have e1 : swapping A P B Q C i = (A ++ Q.take i) ++ P[i] :: ((P.drop (i + 1) ++ (B ++ P.take i)) ++ Q[i] :: (Q.drop (i + 1) ++ C)) := by
    unfold swapping
    rw [List.drop_eq_getElem_cons (show i < P.length by omega), List.drop_eq_getElem_cons (show i < Q.length by omega)]
    simp only [List.append_assoc, List.cons_append]
  have e2 : swapping A P B Q C (i + 1) = (A ++ Q.take i) ++ Q[i] :: ((P.drop (i + 1) ++ (B ++ P.take i)) ++ P[i] :: (Q.drop (i + 1) ++ C)) := by
    unfold swapping
    rw [List.take_succ_eq_append_getElem (show i < P.length by omega), List.take_succ_eq_append_getElem (show i < Q.length by omega)]
    simp only [List.append_assoc, List.cons_append, List.nil_append]
  rw [e1, e2]
  exact swp_list _ _ _ _ _ (by simp; omega) (by simp; omega)
/-- One element goes behind others, or before them. -/
theorem move_step (A Y : List α) (x : α) (Z : List α) {k p q : Nat} (hk : k < Y.length) (hp : p = A.length + k) (hq : q = A.length + k + 1) :
    swp (A ++ (Y.take k ++ x :: (Y.drop k ++ Z))).toArray p q = (A ++ (Y.take (k + 1) ++ x :: (Y.drop (k + 1) ++ Z))).toArray := by
  have e1 : A ++ (Y.take k ++ x :: (Y.drop k ++ Z)) = (A ++ Y.take k) ++ x :: ([] ++ Y[k] :: (Y.drop (k + 1) ++ Z)) := by
    rw [List.drop_eq_getElem_cons hk]
    simp only [List.append_assoc, List.cons_append, List.nil_append]
  have e2 : A ++ (Y.take (k + 1) ++ x :: (Y.drop (k + 1) ++ Z)) = (A ++ Y.take k) ++ Y[k] :: ([] ++ x :: (Y.drop (k + 1) ++ Z)) := by
    rw [List.take_succ_eq_append_getElem hk]
    simp only [List.append_assoc, List.cons_append, List.nil_append]
  rw [e1, e2]
  exact swp_list _ _ _ _ _ (by simp; omega) (by simp; omega)
end
/-! Blocks: sorted ones of twice the size up to a place, sorted ones from there on. -/
section
variable {α : Type} {key : α → List UInt8}
structure Mix (key : α → List UInt8) (bs j : Nat) (L : List α) : Prop where
  low : ∀ i, i < j → On key L (i * (2 * bs)) ((i + 1) * (2 * bs))
  high : ∀ i, 2 * j ≤ i → On key L (i * bs) ((i + 1) * bs)
theorem dbl (i bs : Nat) : i * (2 * bs) = 2 * i * bs := by rw [← Nat.mul_assoc, Nat.mul_comm i 2]
theorem Mix.parts {bs j : Nat} {A X Y Z : List α} (h : Mix key bs j (A ++ (X ++ (Y ++ Z)))) (hA : A.length = j * (2 * bs)) (hX : X.length = bs) (hY : Y.length = bs ∨ Y.length ≤ bs ∧ Z = []) : Asc key X ∧ Asc key Y := by
  rw [dbl] at hA
  have h0 := h.high (2 * j) (Nat.le_refl _)
  have h1 := h.high (2 * j + 1) (by omega)
  refine ⟨on_cut h0 rfl hA (by rw [Nat.succ_mul (2 * j), hX]), ?_⟩
  rcases hY with hY | ⟨hY, rfl⟩
  · exact on_cut h1 (A := A ++ X) (X := Y) (Z := Z) (by simp) (by rw [List.length_append, hA, hX, Nat.succ_mul (2 * j)]) (by rw [Nat.succ_mul (2 * j + 1), hY])
  · unfold On at h1
    rw [List.append_nil, show A ++ (X ++ Y) = (A ++ X) ++ Y by simp, List.drop_append, List.drop_of_length_le (by rw [List.length_append, hA, hX, Nat.succ_mul (2 * j)]; exact Nat.le_refl _), List.nil_append, show (2 * j + 1) * bs - (A ++ X).length = 0 by rw [List.length_append, hA, hX, Nat.succ_mul (2 * j)]; omega, List.drop_zero,
      List.take_of_length_le (by rw [Nat.succ_mul (2 * j + 1)]; omega)] at h1
    exact h1
theorem Mix.step {bs j : Nat} {A X Y Z M : List α} (h : Mix key bs j (A ++ (X ++ (Y ++ Z)))) (hA : A.length = j * (2 * bs)) (hX : X.length = bs) (hY : Y.length = bs ∨ Y.length ≤ bs ∧ Z = []) (g : Stab key M (X ++ Y)) : Mix key bs (j + 1) (A ++ (M ++ Z)) := by
  have hM : M.length = X.length + Y.length := by rw [g.keep.len, List.length_append]
  refine ⟨fun i hi => ?_, fun i hi => ?_⟩
  · rcases Nat.lt_or_ge i j with hij | hij
    · exact (on_low (by rw [hA]; exact Nat.mul_le_mul_right _ hij)).1 (h.low i hij)
    · obtain rfl : i = j := by omega
      rcases hY with hY | ⟨hY, rfl⟩
      · exact (on_mid hA (by rw [Nat.succ_mul]; omega)).2 g.asc
      · exact on_over ((on_mid (b := i * (2 * bs) + M.length) hA rfl).2 g.asc) (by rw [Nat.succ_mul i]; omega) (by simp; omega)
  · rcases hY with hY | ⟨hY, rfl⟩
    · have := h.high i (by omega)
      rw [show A ++ (X ++ (Y ++ Z)) = A ++ ((X ++ Y) ++ Z) by simp] at this
      refine (on_high (by rw [hM, List.length_append]) ?_).1 this
      have h2 : (2 * (j + 1)) * bs ≤ i * bs := Nat.mul_le_mul_right _ hi
      rw [dbl] at hA
      rw [Nat.mul_add, Nat.add_mul] at h2
      rw [List.length_append]
      omega
    · refine on_none ?_
      have h2 : (2 * (j + 1)) * bs ≤ i * bs := Nat.mul_le_mul_right _ hi
      rw [dbl] at hA
      rw [Nat.mul_add, Nat.add_mul] at h2
      simp
      omega
/-- The last part has no partner. -/
theorem Mix.rest {bs j : Nat} {L : List α} (h : Mix key bs j L) (hL : L.length ≤ j * (2 * bs) + bs) : Mix key bs (j + 1) L := by
  refine ⟨fun i hi => ?_, fun i hi => h.high i (by omega)⟩
  rcases Nat.lt_or_ge i j with hij | hij
  · exact h.low i hij
  · obtain rfl : i = j := by omega
    have h0 := h.high (2 * i) (Nat.le_refl _)
    rw [Nat.succ_mul (2 * i), ← dbl] at h0
    exact on_over h0 (by rw [Nat.succ_mul i]; omega) hL
theorem Mix.next {bs j : Nat} {L : List α} (h : Mix key bs j L) (hL : L.length ≤ j * (2 * bs)) : Mix key (2 * bs) 0 L := by
  refine ⟨(fun i hi => by omega), fun i _ => ?_⟩
  rcases Nat.lt_or_ge i j with hij | hij
  · exact h.low i hij
  · exact on_none (Nat.le_trans hL (Nat.mul_le_mul_right _ hij))
theorem Mix.all {bs : Nat} {L : List α} (h : Mix key bs 0 L) (hL : L.length ≤ bs) : Asc key L := by
  have := h.high 0 (Nat.le_refl _)
  rw [Nat.zero_mul, Nat.zero_add, Nat.one_mul] at this
  exact on_all this hL
/-- The first blocks, each sorted by itself. -/
def Blk (key : α → List UInt8) (bs j : Nat) (L : List α) : Prop := ∀ i, i < j → On key L (i * bs) ((i + 1) * bs)
theorem Blk.step {bs j : Nat} {A X Z M : List α} (h : Blk key bs j (A ++ (X ++ Z))) (hA : A.length = j * bs) (hX : X.length = bs) (g : Stab key M X) : Blk key bs (j + 1) (A ++ (M ++ Z)) := fun i hi => by
  rcases Nat.lt_or_ge i j with hij | hij
  · exact (on_low (by rw [hA]; exact Nat.mul_le_mul_right _ hij)).1 (h i hij)
  · obtain rfl : i = j := by omega
    exact (on_mid hA (by rw [Nat.succ_mul, g.keep.len, hX])).2 g.asc
theorem Blk.last {bs j : Nat} {A X M : List α} (h : Blk key bs j (A ++ X)) (hA : A.length = j * bs) (hX : X.length < bs) (g : Stab key M X) : Mix key bs 0 (A ++ M) := by
  refine ⟨(fun i hi => by omega), fun i _ => ?_⟩
  rcases Nat.lt_or_ge i j with hij | hij
  · exact (on_low (by rw [hA]; exact Nat.mul_le_mul_right _ hij)).1 (h i hij)
  · have hM := g.keep.len
    rcases Nat.lt_or_ge j i with hl | hg
    · refine on_none ?_
      have : (j + 1) * bs ≤ i * bs := Nat.mul_le_mul_right _ hl
      rw [Nat.succ_mul] at this
      simp
      omega
    · obtain rfl : i = j := by omega
      have := (on_mid (M := M) (Z := []) (b := i * bs + M.length) hA rfl).2 g.asc
      rw [List.append_nil] at this
      exact on_over this (by rw [Nat.succ_mul i]; omega) (by simp; omega)
theorem Keep.mid {A X Z M : List α} (g : Keep key M X) {D : List α} (h : Keep key (A ++ (X ++ Z)) D) : Keep key (A ++ (M ++ Z)) D :=
  ((Keep.refl key A).app (g.app (Keep.refl key Z))).trans h
end
end

end Go.Proofs.YtcnjjdbpcobolaaGreatDoor
