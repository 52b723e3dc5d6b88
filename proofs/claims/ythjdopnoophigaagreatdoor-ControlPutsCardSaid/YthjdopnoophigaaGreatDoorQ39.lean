/- Merged: KT14. -/
import Derived.Test.YthjdopnoophigaaGreatDoorQ24
import Derived.Test.YthjdopnoophigaaGreatDoorQ33
import Derived.Test.YthjdopnoophigaaGreatDoorQ04
import Derived.Test.YthjdopnoophigaaGreatDoorQ38
import Derived.Test.YthjdopnoophigaaGreatDoorShelf
import Derived.Sort.OwnSortedInts
import Derived.Lib.OwnBridge
import Derived.Shelf.SortM.SortNone
namespace Go.Proofs.YthjdopnoophigaaGreatDoor

section
open Go.RowKit Go.PlainAid
set_option maxHeartbeats 8000000 in
set_option maxRecDepth 100000 in
theorem usesF_any (id : Int) (b : Nat) (f : Fld) (u : Value) (w : World) (hu : QL u f.subs w) (hc : w.heap[b]? = some (.cells #[.int .i64 id] 3 (0, 0))) :
    Calls Tryz.prog 74 #[FV f u, .pointer (some ⟨b, 0, none⟩)] w fun e w' => e = .returned (.bool (decide (f.auth = id))) ∧ Below w.heap.size w w' := by
  have b0 : Below w.heap.size w (w.alloc (.cells #[.string (S f.tag), .string (S f.ind), u, .int .i64 f.auth] 24)) := (Below.refl w.heap.size w).alloc (Nat.le_refl _) _
  have kc : (w.alloc (.cells #[.string (S f.tag), .string (S f.ind), u, .int .i64 f.auth] 24)).cell? ⟨b, 0, none⟩ = some (.int .i64 id) := by
    rw [Lib.cell_of_heap ((b0.block b (Array.getElem?_eq_some_iff.1 hc).1).trans hc)]
    rfl
  obtain ⟨Q, hQ⟩ : ∃ Q, (fun (e : Ending) (w' : World) => e = .returned (.bool (decide (f.auth = id))) ∧ Below w.heap.size w w') = Q := ⟨_, rfl⟩
  rw [hQ]
  obtain ⟨W0, hW0⟩ : ∃ W0, w.alloc (.cells #[.string (S f.tag), .string (S f.ind), u, .int .i64 f.auth] 24) = W0 := ⟨_, rfl⟩
  have hF : W0.heap[w.heap.size]? = some (.cells #[.string (S f.tag), .string (S f.ind), u, .int .i64 f.auth] 24 (0, 0)) := by rw [← hW0]; exact heap_alloc_new w _
  obtain ⟨⟨p0, p1, p2, p3⟩, -⟩ := fcells4 hF
  rw [hW0] at kc b0
  have HQ : RowKit.Hid (∀ x, decide (f.auth = id) = x → Q (.returned (.bool x)) W0) := by
    rw [← hQ]
    rintro x rfl
    exact ⟨rfl, b0⟩
  have HW0 := Lib.hid hW0
  unfold FV
  obtain ⟨a, cap, rfl, _, _⟩ := hu.length
  clear hQ hu hc b0 hW0 hF
  generalize f.subs.length = n at *
  generalize S f.tag = t0 at *
  generalize S f.ind = t1 at *
  generalize f.auth = t3 at *
  go_enter Tryz.func74, Tryz.ntmps74
  go_upto_region 1 with fail
  rw [HW0.out]
  by_cases h : t3 = id
  · have HG := Lib.hid (HQ.out true (decide_eq_true h))
    have t : (t3 == id) = true := by simpa using h
    clear HQ h
    go_wp2
    first | exact HG.out | (go_ret; exact HG.out)
  · have HG := Lib.hid (HQ.out false (decide_eq_false h))
    have t : (t3 == id) = false := by simpa using h
    clear HQ h
    go_wp2
    first | exact HG.out | (go_ret; exact HG.out)

def usesL (id : Int) (L : List Fld) : Bool := L.any fun f => decide (f.auth = id)
set_option maxHeartbeats 8000000 in
set_option maxRecDepth 100000 in
theorem indexF_any (L : List Fld) (u : Value) (id : Int) (b : Nat) (w : World) (hu : FL u L w) (hz : L.length ≤ 100000) (hc : w.heap[b]? = some (.cells #[.int .i64 id] 3 (0, 0))) :
    Calls Tryz.prog 99 #[u, .func (.func 74) #[] #[.pointer (some ⟨b, 0, none⟩)]] w fun e w' => ∃ z : Int, e = .returned (.int .i64 z) ∧ decide (0 ≤ z) = usesL id L ∧ Below w.heap.size w w' := by
  obtain ⟨Q, hQ⟩ : ∃ Q, (fun (e : Ending) (w' : World) => ∃ z : Int, e = .returned (.int .i64 z) ∧ decide (0 ≤ z) = usesL id L ∧ Below w.heap.size w w') = Q := ⟨_, rfl⟩
  rw [hQ]
  have HQ : RowKit.Hid (∀ (z : Int) W, decide (0 ≤ z) = usesL id L → Below w.heap.size w W → Q (.returned (.int .i64 z)) W) := by
    rw [← hQ]
    exact fun z W h1 h2 => ⟨z, rfl, h1, h2⟩
  have HU := Lib.hid (fun (W : World) (h : Below w.heap.size w W) => hu.after h)
  have hlt : b < w.heap.size := (Array.getElem?_eq_some_iff.1 hc).1
  have cF := Lib.hid (fun (f : Fld) (x : Value) (W : World) (h : Below w.heap.size w W) (hx : QL x f.subs W) => usesF_any id b f x W hx ((h.block b hlt).trans hc))
  obtain ⟨a, cp, hua, hcap, hmax⟩ := hu.length
  unfold maxLen at hmax
  subst hua
  clear hQ hu hc hlt
  generalize hn : L.length = n at *
  have HN := Lib.hid hn
  clear hn
  go_enter Tryz.func99, Tryz.ntmps99
  go_wp2
  go_loopw [8] (fun s8 wr => ∃ k : Nat, s8 = .int .i64 (k : Int) ∧ k ≤ n ∧ RowKit.Hid (usesL id (L.take k) = false) ∧ RowKit.Hid (Below w.heap.size w wr)) (fun s8 _ => n - (intOf s8).toNat)
  case atStart => exact ⟨0, rfl, Nat.zero_le _, (by unfold RowKit.Hid; simp [usesL]), Below.refl _ _⟩
  case round =>
    obtain ⟨k, rfl, hk, HJ, HB⟩ := hrel
    by_cases hkn : k < n
    · have i1 : (0 : Int) ≤ (k : Int) := by omega
      have i2 : (k : Int) < (n : Int) := by omega
      obtain ⟨g, o, cap', x, he, hg, c0, c1, c2, c3, hq⟩ := (HU.out wr HB.out).at k (by rw [HN.out]; exact hkn)
      obtain ⟨rfl, -, hcp⟩ := Value.slice.inj he
      subst hcp
      have hsn : usesL id (L.take (k + 1)) = (usesL id (L.take k) || decide ((L.getD k fd0).auth = id)) := by
        have e : L.take (k + 1) = L.take k ++ [L.getD k fd0] := by
          rw [List.take_succ_eq_append_getElem (by rw [HN.out]; exact hkn), List.getD_eq_getElem?_getD, List.getElem?_eq_getElem (by rw [HN.out]; exact hkn)]
          rfl
        rw [e]
        simp [usesL]
      have hall : decide ((L.getD k fd0).auth = id) = true → usesL id L = true := by
        intro h
        unfold usesL
        rw [List.any_eq_true]
        refine ⟨L.getD k fd0, ?_, h⟩
        rw [List.getD_eq_getElem?_getD, List.getElem?_eq_getElem (by rw [HN.out]; exact hkn)]
        exact List.getElem_mem _
      rw [HJ.out, Bool.false_or] at hsn
      obtain ⟨f, hf⟩ : ∃ f, L.getD k fd0 = f := ⟨_, rfl⟩
      rw [hf] at c0 c1 c3 hq hsn hall
      have cl := Lib.hid (cF.out f x wr HB.out hq)
      obtain ⟨ax, cx, hxv, -, -⟩ := hq.length
      unfold FV at cl
      subst hxv
      have HSn := Lib.hid hsn
      have HAll := Lib.hid hall
      clear he hg hq hsn hall hf HJ
      generalize f.subs.length = nx at *
      generalize S f.tag = t0 at *
      generalize S f.ind = t1 at *
      generalize f.auth = t3 at *
      generalize decide (t3 = id) = lb at *
      go_wp2_with fail
      refine cl.out.mono ?_
      rintro e w5 ⟨rfl, hb5⟩
      have HB5 := Lib.hid (HB.out.trans (hb5.mono HB.out.size))
      clear hb5 HB cl c0 c1 c2 c3
      cases lb
      · have HS := Lib.hid HSn.out
        clear HSn HAll
        go_wp2
        go_roundw
        case rel => exact ⟨k + 1, by go_num, by omega, HS.out, HB5.out⟩
        case measure => simp [intOf]; omega
      · have HG := Lib.hid (HQ.out (k : Int) w5 (by rw [HAll.out rfl]; exact decide_eq_true i1) HB5.out)
        clear HSn HAll HQ
        go_wp2
        first | exact HG.out | (go_ret; exact HG.out)
    · obtain rfl : k = n := by omega
      have hT : L.take k = L := by rw [← HN.out, List.take_length]
      rw [hT] at HJ
      have HG := Lib.hid (HQ.out (-1) wr (by rw [HJ.out]; rfl) HB.out)
      clear HB HQ HJ
      go_wp2
      first | exact HG.out | (go_ret; exact HG.out)
set_option maxHeartbeats 4000000 in
theorem containsF_any (L : List Fld) (u : Value) (id : Int) (b : Nat) (w : World) (hu : FL u L w) (hz : L.length ≤ 100000) (hc : w.heap[b]? = some (.cells #[.int .i64 id] 3 (0, 0))) :
    Calls Tryz.prog 73 #[u, .func (.func 74) #[] #[.pointer (some ⟨b, 0, none⟩)]] w fun e w' => e = .returned (.bool (usesL id L)) ∧ Below w.heap.size w w' := by
  have cI := Lib.hid (indexF_any L u id b w hu hz hc)
  obtain ⟨a, cp, hua, -, -⟩ := hu.length
  subst hua
  clear hu hc
  generalize L.length = n at *
  generalize usesL id L = lb at *
  go_enter Tryz.func73, Tryz.ntmps73
  go_wp2_with fail
  refine cI.out.mono ?_
  rintro e w1 ⟨z, rfl, hz1, hb1⟩
  have HB := Lib.hid hb1
  clear hb1 cI
  cases lb
  · go_wp2
    go_ret
    exact ⟨rfl, HB.out⟩
  · go_wp2
    go_ret
    exact ⟨rfl, HB.out⟩
set_option maxHeartbeats 8000000 in
set_option maxRecDepth 100000 in
theorem puses_any (r : Rec) (u : Value) (id : Int) (w : World) (hu : FL u r.fields w) (hz : r.fields.length ≤ 100000) :
    Calls Tryz.prog 39 #[RV r u, .int .i64 id] w fun e w' => e = .returned (.bool (usesB id r)) ∧ Below w.heap.size w w' := by
  obtain ⟨W0, hW0⟩ : ∃ W0, (w.alloc (.cells #[.int .i64 r.id, .int .i64 r.ver, .int .i64 r.kind, .string (S r.lang), u] 33)).alloc (.cells #[.int .i64 id] 3) = W0 := ⟨_, rfl⟩
  have b0 : Below w.heap.size w W0 := by rw [← hW0]; exact ((Below.refl w.heap.size w).alloc (Nat.le_refl _) _).alloc (by simp) _
  have hX : W0.heap[w.heap.size]? = some (.cells #[.int .i64 r.id, .int .i64 r.ver, .int .i64 r.kind, .string (S r.lang), u] 33 (0, 0)) := by
    rw [← hW0]
    exact (Below.heap_alloc _ _ _ (by simp)).trans (heap_alloc_new w _)
  have hI : W0.heap[w.heap.size + 1]? = some (.cells #[.int .i64 id] 3 (0, 0)) := by
    rw [← hW0]
    have := heap_alloc_new (w.alloc (.cells #[.int .i64 r.id, .int .i64 r.ver, .int .i64 r.kind, .string (S r.lang), u] 33)) (.cells #[.int .i64 id] 3)
    simpa using this
  have cC := Lib.hid (containsF_any r.fields u id (w.heap.size + 1) W0 (hu.after b0) hz hI)
  have e : usesL id r.fields = usesB id r := rfl
  rw [e] at cC
  obtain ⟨⟨x0, x1, x2, x3, x4⟩, -⟩ := rcells14 hX
  have HW0 := Lib.hid hW0
  have HB0 := Lib.hid b0
  obtain ⟨a, cp, hua, -, -⟩ := hu.length
  unfold RV
  subst hua
  clear hu hW0 hX hI b0 e
  generalize r.fields.length = n at *
  generalize usesB id r = lb at *
  generalize S r.lang = lg at *
  go_enter Tryz.func39, Tryz.ntmps39
  go_upto_region 1 with fail
  rw [HW0.out]
  clear HW0
  go_wp2_with fail
  refine cC.out.mono ?_
  rintro e w1 ⟨rfl, hb1⟩
  have HB := Lib.hid (HB0.out.trans (hb1.mono HB0.out.size))
  clear hb1 cC
  go_wp2
  go_ret
  exact ⟨rfl, HB.out⟩

/-- slices.Sort of a row of the call's own. -/
theorem sortI_any (B : Nat) (v : Value) (l : List Int) (w : World) (h : IR B v l w) (hz : l.length ≤ 100000) :
    Calls Tryz.prog 40 #[v] w fun e w' => e = .returned (.tuple #[]) ∧ IR B v (l.mergeSort fun x y => decide (x ≤ y)) w' ∧ Below B w w' := by
  by_cases hv : v = .slice none 0 0
  · subst hv
    refine (AnyM.slices_Sort_int_none Tryz.laysSlM5_f40 none 0 w).mono ?_
    rintro e w' ⟨he, hw⟩
    rw [hw]
    have h0 : l = [] := by
      have hl : l.length = 0 := by
        rcases h.2 with ⟨_, h0⟩ | ⟨g, cap, cur, e0, _⟩
        · exact h0
        · cases e0
      exact List.eq_nil_of_length_eq_zero hl
    subst h0
    rw [show (([] : List Int).mergeSort fun x y => decide (x ≤ y)) = [] from by simp]
    exact ⟨he, h, Below.refl _ _⟩
  · obtain ⟨g, cap, rfl, hbg, hg, hn, hm, hl, hH⟩ := Lib.holds_of_ownsRow (enc := Value.int .i64) h hv
    refine (Tryz.slices_Sort_int g 0 cap l w hH hg (by omega)).mono ?_
    rintro e w' ⟨he, n, os, rfl⟩
    refine ⟨he, ?_, ?_⟩
    · rcases h.2 with ⟨e0, _⟩ | ⟨g', cap', cur, e0, hb, hbk, hc, hm2, hs, ht⟩
      · cases e0
      · obtain ⟨e1, -, e3⟩ := Value.slice.inj e0
        obtain rfl : g = g' := by simpa using e1
        subst e3
        have hlen : (l.mergeSort fun x y => decide (x ≤ y)).length = l.length := List.length_mergeSort _
        unfold IR
        rw [hlen]
        exact ownsRow_sortedI hlen hb hbk hc hm2 hs
    · exact (Below.refl B w).grown (grownBy_sortedI _) (by omega) (fun k hk => by cases hk; exact hbg)
/-- slices.Compact of a row of the call's own. -/
theorem compactI_any (B : Nat) (v : Value) (l : List Int) (w : World) (h : IR B v l w) (hz : l.length ≤ 100000) :
    Calls Tryz.prog 41 #[v] w fun e w' => ∃ v', e = .returned v' ∧ IR B v' (Lib.compact l) w' ∧ Below B w w' := by
  by_cases hv : v = .slice none 0 0
  · subst hv
    refine (Tryz.slices_Compact_int_empty none 0 w).mono ?_
    rintro e w' ⟨he, hw⟩
    rw [hw]
    have h0 : l = [] := by
      have hl : l.length = 0 := by
        rcases h.2 with ⟨_, h0⟩ | ⟨g, cap, cur, e0, _⟩
        · exact h0
        · cases e0
      exact List.eq_nil_of_length_eq_zero hl
    subst h0
    exact ⟨_, he, h, Below.refl _ _⟩
  · obtain ⟨g, cap, rfl, hbg, hg, hn, hm, hl, hH⟩ := Lib.holds_of_ownsRow (enc := Value.int .i64) h hv
    refine (Tryz.slices_Compact_int g 0 cap l w hH (by omega) hn).mono ?_
    rintro e w' ⟨he, q, rfl⟩
    have hcl : (Lib.compact l).length ≤ l.length := by
      unfold Lib.compact Lib.compactUpTo
      rw [List.length_map]
      have := List.length_filter_le (Lib.keeps l.toArray) (List.range l.length)
      rw [List.length_range] at this
      exact this
    refine ⟨_, he, ?_, Lib.below_putRow (Below.refl B w) hbg⟩
    have := Lib.ownsRow_putRow (enc := Value.int .i64) (q := q) (k := (Lib.compact l).length) (ys := Lib.compact l ++ List.replicate (l.length - (Lib.compact l).length) 0) h (by simp; omega) hcl
    rw [List.take_left] at this
    exact this

set_option maxHeartbeats 16000000 in
set_option maxRecDepth 100000 in
theorem pUses_any (L : List Rec) (u : Value) (id : Int) (w : World) (hu : RL u L w) (hz : L.length ≤ 100000) (hf : ∀ r ∈ L, r.fields.length ≤ 100000) :
    Calls Tryz.prog 18 #[u, .int .i64 id] w fun e w' => ∃ v', e = .returned v' ∧ IL v' (usesX L id) w' ∧ Below w.heap.size w w' := by
  obtain ⟨Q, hQ⟩ : ∃ Q, (fun (e : Ending) (w' : World) => ∃ v', e = .returned v' ∧ IL v' (usesX L id) w' ∧ Below w.heap.size w w') = Q := ⟨_, rfl⟩
  rw [hQ]
  by_cases h1 : 1 ≤ id
  · have HQ : RowKit.Hid (∀ v' W, IR w.heap.size v' (Lib.compact ((usersL L id).mergeSort fun x y => decide (x ≤ y))) W → Below w.heap.size w W → Q (.returned v') W) := by
      rw [← hQ, uses_eq L id h1]
      exact fun v' W h1 h2 => ⟨v', rfl, h1.il, h2⟩
    have HU := Lib.hid (fun (W : World) (h : Below w.heap.size w W) => hu.after h)
    have cU := Lib.hid (fun (r : Rec) (x : Value) (W : World) (hx : FL x r.fields W) (hr : r ∈ L) => puses_any r x id W hx (hf r hr))
    have HLn := Lib.hid (fun k => users_snoc L id k)
    have HLe := Lib.hid (fun k => users_len (L.take k) id)
    obtain ⟨a, cp, hua, hcap, hmax⟩ := hu.length
    unfold maxLen at hmax
    subst hua
    have t1 : decide (id < 1) = false := decide_eq_false (by omega)
    clear hQ hu hf
    generalize hn : L.length = n at *
    have HN := Lib.hid hn
    clear hn
    go_enter Tryz.func18, Tryz.ntmps18
    go_wp2
    clear t1
    go_loopw [5, 12] (fun s5 s12 wr => ∃ k : Nat, s12 = .int .i64 (k : Int) ∧ k ≤ n ∧ RowKit.Hid (IR w.heap.size s5 (usersL (L.take k) id) wr) ∧ RowKit.Hid (Below w.heap.size w wr)) (fun _ s12 _ => n - (intOf s12).toNat)
    case atStart => exact ⟨0, rfl, Nat.zero_le _, IR.zero _ _, Below.refl _ _⟩
    case round =>
      obtain ⟨k, rfl, hk, HI, HB⟩ := hrel
      by_cases hkn : k < n
      · have i1 : (0 : Int) ≤ (k : Int) := by omega
        have i2 : (k : Int) < (n : Int) := by omega
        obtain ⟨g, o, cap', x, he, hg, c0, c1, c2, c3, c4, hq⟩ := (HU.out wr HB.out).at k (by rw [HN.out]; exact hkn)
        obtain ⟨rfl, -, hcp⟩ := Value.slice.inj he
        subst hcp
        have hmem : L.getD k rec0 ∈ L := by
          rw [List.getD_eq_getElem?_getD, List.getElem?_eq_getElem (by rw [HN.out]; exact hkn)]
          exact List.getElem_mem _
        have hsn := HLn.out k hkn
        have hlen : (usersL (L.take k) id).length ≤ 100000 := by
          have := HLe.out k
          rw [List.length_take] at this
          omega
        obtain ⟨r, hr⟩ : ∃ r, L.getD k rec0 = r := ⟨_, rfl⟩
        rw [hr] at c0 c1 c2 c3 hq hsn hmem
        obtain ⟨wb, hwb⟩ : ∃ W, wr.alloc (.cells #[.int .i64 r.id, .int .i64 r.ver, .int .i64 r.kind, .string (S r.lang), x] 33) = W := ⟨_, rfl⟩
        have bb : Below wr.heap.size wr wb := by rw [← hwb]; exact (Below.refl _ _).alloc (Nat.le_refl _) _
        have hXb : wb.heap[wr.heap.size]? = some (.cells #[.int .i64 r.id, .int .i64 r.ver, .int .i64 r.kind, .string (S r.lang), x] 33 (0, 0)) := by rw [← hwb]; exact heap_alloc_new wr _
        obtain ⟨⟨y0, y1, y2, y3, y4⟩, -⟩ := rcells14 hXb
        have HBb := Lib.hid (HB.out.trans (bb.mono HB.out.size))
        have HIb := Lib.hid (HI.out.after bb)
        have HXb := Lib.hid (fun (W : World) (h : Below wb.heap.size wb W) => (h.block wr.heap.size (by rw [← hwb]; simp)).trans hXb)
        have cl := Lib.hid (cU.out r x wb (hq.after bb) hmem)
        have HWb := Lib.hid hwb
        obtain ⟨ax, cx, hxv, -, -⟩ := hq.length
        obtain ⟨M, hM⟩ : ∃ M, usersL (L.take k) id = M := ⟨_, rfl⟩
        rw [hM] at hsn hlen HIb
        have HSn := Lib.hid hsn
        have HLen := Lib.hid hlen
        unfold RV at cl
        subst hxv
        clear he hg hq hsn hlen hr hwb bb hXb HB HI hM hmem
        generalize r.fields.length = nx at *
        generalize usesB id r = lb at *
        generalize S r.lang = lg at *
        generalize r.id = rid at *
        generalize r.ver = rver at *
        generalize r.kind = rkind at *
        go_upto_region 7 with fail
        rw [HWb.out]
        clear c0 c1 c2 c3 c4 HWb
        go_wp2_with fail
        refine cl.out.mono ?_
        rintro e w5 ⟨rfl, hb5⟩
        have HB5 := Lib.hid (HBb.out.trans (hb5.mono HBb.out.size))
        have HI5 := Lib.hid (HIb.out.after hb5)
        obtain ⟨⟨z0, z1, z2, z3, z4⟩, -⟩ := rcells14 (HXb.out w5 hb5)
        clear hb5 HBb HIb cl HXb y0 y1 y2 y3 y4
        cases lb
        · have hs := HSn.out
          rw [if_neg (by decide), List.append_nil] at hs
          have HS := Lib.hid hs
          clear hs HSn
          go_wp2
          go_roundw
          case rel => exact ⟨k + 1, by go_num, by omega, by rw [HS.out]; exact HI5.out, HB5.out⟩
          case measure => simp [intOf]; omega
        · have hs := HSn.out
          rw [if_pos rfl] at hs
          have HS := Lib.hid hs
          clear hs HSn
          go_wp2_with (at_builtin; refine append_ir _ rfl _ _ rfl w.heap.size u5 M rid rfl HI5.out rfl (by have := HLen.out; omega) HB5.out.size w.heap.size w (Nat.le_refl _) HB5.out ?_; intro v' w' hs' hb' hB')
          have HS2 := Lib.hid hs'
          have HB2 := Lib.hid hb'
          clear hs' hb' hB' HI5 HB5
          go_wp2
          go_roundw
          case rel => exact ⟨k + 1, by go_num, by omega, by rw [HS.out]; exact HS2.out, HB2.out⟩
          case measure => simp [intOf]; omega
      · obtain rfl : k = n := by omega
        have hT : L.take k = L := by rw [← HN.out, List.take_length]
        rw [hT] at HI
        have hlen : (usersL L id).length ≤ 100000 := by
          have := HLe.out k
          rw [hT, HN.out] at this
          omega
        have cS := Lib.hid (sortI_any w.heap.size _ _ wr HI.out hlen)
        have hlen2 : ((usersL L id).mergeSort fun x y => decide (x ≤ y)).length ≤ 100000 := by rw [List.length_mergeSort]; exact hlen
        have HB := Lib.hid HB.out
        clear HI hlen HLn HLe hT
        go_wp2_with fail
        refine cS.out.mono ?_
        rintro e w6 ⟨rfl, hi6, hb6⟩
        have cC := Lib.hid (compactI_any w.heap.size _ _ w6 hi6 hlen2)
        have HB6 := Lib.hid (HB.out.trans hb6)
        clear hi6 hb6 cS hlen2
        go_wp2_with fail
        refine cC.out.mono ?_
        rintro e w7 ⟨v', rfl, hi7, hb7⟩
        have HG := Lib.hid (HQ.out v' w7 hi7 (HB6.out.trans hb7))
        clear hi7 hb7 cC HQ
        go_wp2
        first | exact HG.out | (go_ret; exact HG.out)
  · have HG := Lib.hid (show Q (.returned (.slice none 0 0)) w by
      rw [← hQ, uses_none L id h1]
      exact ⟨_, rfl, (IR.zero w.heap.size w).il, Below.refl _ _⟩)
    have t1 : decide (id < 1) = true := decide_eq_true (by omega)
    obtain ⟨a, cp, hua, hcap, hmax⟩ := hu.length
    subst hua
    clear hQ hu hf h1
    go_enter Tryz.func18, Tryz.ntmps18
    go_wp2
    first | exact HG.out | (go_ret; exact HG.out)
end

end Go.Proofs.YthjdopnoophigaaGreatDoor
