/- Merged: R08C, R08D, PB08. -/
import Derived.Test.YtcnjjdbpcobolaaGreatDoorQ14
import Derived.Laws.ResultCell
import Derived.Deep.CutBlock
import Derived.Deep.DeepCutAuto
import Derived.Lib.Builder
import Derived.Test.YtcnjjdbpcobolaaGreatDoorQ12
namespace Go.Proofs.YtcnjjdbpcobolaaGreatDoor

section
open Go.RowKit Go.PlainAid
set_option maxHeartbeats 4000000 in
theorem refBegins_any (t p : List UInt8) (b : Bool) (hb : p.isPrefixOf t = b) (w : World) :
    Calls Tryz.prog 44 #[.string (S t), .string (S p)] w fun e w' => e = .returned (.bool b) ∧ w' = w := by
  have h1 := S_size t
  have h2 := S_size p
  by_cases hlen : p.length ≤ t.length
  · have hx : (S t).extract 0 p.length = S (t.take p.length) := by rw [S_extract, List.drop_zero]
    have hq := S_eq (t.take p.length) p
    rw [prefix_take p t, hb, ← hx] at hq
    have d1 : decide ((p.length : Int) ≤ (t.length : Int)) = true := decide_eq_true (by omega)
    have d2 : p.length ≤ t.length := hlen
    clear hx hb hlen
    generalize p.length = n at *
    generalize t.length = m at *
    generalize S t = x at *
    generalize S p = y at *
    go_enter Tryz.func44, Tryz.ntmps44
    go_wp2
    go_ret
    exact ⟨rfl, rfl⟩
  · have d1 : decide ((p.length : Int) ≤ (t.length : Int)) = false := decide_eq_false (by omega)
    have d2 : ¬ p.length ≤ t.length := hlen
    rw [prefix_short p t (by omega)] at hb
    subst hb
    clear hlen
    generalize p.length = n at *
    generalize t.length = m at *
    generalize S t = x at *
    generalize S p = y at *
    go_enter Tryz.func44, Tryz.ntmps44
    go_wp2
    go_ret
    exact ⟨rfl, rfl⟩

set_option maxHeartbeats 8000000 in
theorem refFields_any (r : Rec) (u : Value) (w : World) (hu : FL u r.fields w) (p : List UInt8) (hs : r.fields.length ≤ 100000) :
    Calls Tryz.prog 19 #[RV r u, .string (S p)] w fun e w' => ∃ v', e = .returned v' ∧ FL v' (fieldsL r.fields p) w' ∧ Below w.heap.size w w' := by
  have HU := Lib.hid hu
  obtain ⟨a, cap, rfl, hcap, hmax⟩ := hu.length
  unfold maxLen at hmax
  unfold RV
  have HSn := Lib.hid (fieldsL_snoc r.fields p)
  have cB := Lib.hid (fun t b hb W => refBegins_any t p b hb W)
  obtain ⟨n, hn⟩ : ∃ n, r.fields.length = n := ⟨_, rfl⟩
  rw [hn] at hcap hs HU ⊢
  have HN := Lib.hid hn
  obtain ⟨W0, hW0⟩ : ∃ W0, w.alloc (.cells #[.int .i64 r.id, .int .i64 r.ver, .int .i64 r.kind, .string (S r.lang), .slice a n cap] 24) = W0 := ⟨_, rfl⟩
  have b0 : Below w.heap.size w W0 := by rw [← hW0]; exact (Below.refl w.heap.size w).alloc (Nat.le_refl _) _
  have hlt : w.heap.size < W0.heap.size := by rw [← hW0]; simp
  have k4 : W0.cell? ⟨w.heap.size, 4, none⟩ = some (.slice a n cap) := by rw [← hW0]; simp
  have HW0 := Lib.hid hW0
  have HU0 := Lib.hid (HU.out.after b0)
  obtain ⟨i0, hi, hz0, hz1, hz2⟩ := info_fld
  have HZ0 := Lib.hid hz0
  have HZ1 := Lib.hid hz1
  have HZ2 := Lib.hid hz2
  have HI := Lib.hid hi
  have he1 := FR.empty W0 W0 W0.heap.size (Nat.le_refl _)
  have be1 := (Below.refl W0.heap.size W0).alloc (Nat.le_refl _) (.cells #[] 35)
  have HE1 := Lib.hid he1
  have HSz : RowKit.Hid (W0.heap.size = w.heap.size + 1) := by unfold RowKit.Hid; rw [← hW0]; simp
  have HBE := Lib.hid be1
  clear hn hW0 hu HU hi hz0 hz1 hz2 he1 be1
  generalize S p = ps at *
  go_enter Tryz.func19, Tryz.ntmps19
  go_wp2
  rw [HW0.out]
  go_loopw [5, 6] (fun v i wr => ∃ k : Nat, k ≤ n ∧ i = .int .i64 (k : Int) ∧ FR W0 W0.heap.size v (fieldsL (r.fields.take k) p) wr ∧ Below W0.heap.size W0 wr) (fun _ i _ => n - (intOf i).toNat)
  case atStart => exact ⟨0, Nat.zero_le _, rfl, by rw [← HSz.out]; exact HE1.out, HBE.out⟩
  case round =>
    obtain ⟨k, hk, rfl, hown, hbw⟩ := hrel
    have j4 := (hbw.cell (p := ⟨w.heap.size, 4, none⟩) hlt).trans k4
    by_cases hkn : k < n
    · obtain ⟨g, o, cap', x, he, hg, c0, c1, c2, c3, hq⟩ := (HU0.out.after hbw).at k (by rw [HN.out]; exact hkn)
      obtain ⟨ha, -, hcp⟩ := Value.slice.inj he
      subst ha hcp
      clear he
      have hq0 := HU0.out.at k (by rw [HN.out]; exact hkn)
      have i1 : (0 : Int) ≤ (k : Int) := by omega
      have i2 : (k : Int) < (n : Int) := by omega
      have hsn := HSn.out k (by rw [HN.out]; exact hkn)
      have hll : (fieldsL (r.fields.take k) p).length ≤ k := Nat.le_trans (fieldsL_length _ _) (by rw [List.length_take]; omega)
      have hsz := hbw.size
      generalize fieldsL (r.fields.take k) p = M at hown hsn hll
      cases hin : p.isPrefixOf (r.fields.getD k fd0).tag
      · have cC := Lib.hid (cB.out (r.fields.getD k fd0).tag false hin wr)
        rw [hin, if_neg (fun h => by cases h), List.append_nil] at hsn
        have HS := Lib.hid hsn
        have Hbw := Lib.hid hbw
        have HOwn := Lib.hid hown
        clear hsn hin hbw hown hq hq0 c1 c2 c3
        generalize S (r.fields.getD k fd0).tag = t0 at *
        go_wp2_with fail
        refine (cC.out).mono ?_
        rintro e w5 ⟨rfl, rfl⟩
        go_wp2
        go_roundw
        case rel => exact ⟨k + 1, by omega, by go_num, by rw [HS.out]; exact HOwn.out, Hbw.out⟩
        case measure => simp [intOf]; omega
      · have cC := Lib.hid (cB.out (r.fields.getD k fd0).tag true hin wr)
        rw [hin, if_pos rfl] at hsn
        obtain ⟨g', o', cp', x', he', hg', d0, d1, d2, d3, hqq⟩ := hq0
        obtain ⟨rfl, rfl⟩ : g' = g ∧ o' = o := by
          simp only [Value.slice.injEq, Option.some.injEq, Addr.mk.injEq, and_true] at he'
          exact ⟨he'.1.1.symm, he'.1.2.symm⟩
        obtain rfl : x' = x := by
          have := (hbw.cell (p := ⟨g', o' + k * 4 + 2, none⟩) hg').trans d2
          rw [c2] at this
          exact (Option.some.inj this).symm
        have HQ0 := Lib.hid hqq
        have HS := Lib.hid hsn
        have Hbw := Lib.hid hbw
        obtain ⟨m, hm⟩ : ∃ m, M.length = m := ⟨_, rfl⟩
        obtain ⟨xs, hrow, hpush⟩ := hown.open
        rw [hm] at hrow hll
        have HM := Lib.hid hm
        have HPush := Lib.hid hpush
        have hone := HQ0.out.one
        have hown2 := hrow.alloc (.cells #[.string (S (r.fields.getD k fd0).tag), .string (S (r.fields.getD k fd0).ind), x', .int .i64 (r.fields.getD k fd0).auth] 35)
        clear hsn hin hbw hm hpush hrow hown hq hqq d0 d1 d2 d3 he' hg'
        have HC4 := Lib.hid (fun W => cells_four W (.string (S (r.fields.getD k fd0).tag)) (.string (S (r.fields.getD k fd0).ind)) x' (.int .i64 (r.fields.getD k fd0).auth) 35)
        have HEnc : RowKit.Hid (cellsF [r.fields.getD k fd0] [x'] = [.string (S (r.fields.getD k fd0).tag), .string (S (r.fields.getD k fd0).ind), x', .int .i64 (r.fields.getD k fd0).auth]) := rfl
        generalize S (r.fields.getD k fd0).tag = t0 at *
        generalize S (r.fields.getD k fd0).ind = t1 at *
        generalize (r.fields.getD k fd0).auth = t3 at *
        go_wp2_with fail
        refine (cC.out).mono ?_
        rintro e w5 ⟨rfl, rfl⟩
        go_wp2_with (at_builtin; refine wpList_append_own _ rfl _ _ 22 rfl W0.heap.size 35 i0 (.agg #[.string ⟨#[]⟩, .string ⟨#[]⟩, .slice none 0 0, .int .i64 0]) 4 64 Tryz.underlying22 HI.out HZ0.out HZ1.out HZ2.out rfl (by decide) _ _ _ rfl hown2 ⟨w5.heap.size, 0, none⟩ 1 1 [.string t0, .string t1, x', .int .i64 t3] rfl rfl (HC4.out _) (by intro u hu; simp at hu; rcases hu with rfl | rfl | rfl | rfl <;> first | rfl | exact hone) (by unfold maxLen; omega) (by omega) (by simp; omega) ?_; intro v3 w3 hown3 hgrow3 hnil3)
        go_roundw
        case rel =>
          refine ⟨k + 1, by omega, by go_num, ?_, (Hbw.out.alloc (by omega) _).grown hgrow3 (by simp; omega) (fun j hj => (hown2.lt j hj).1)⟩
          rw [HS.out]
          refine HPush.out _ [x'] v3 w3 rfl (fun i hi => ?_) ?_
          · obtain rfl : i = 0 := by simpa using hi
            exact HQ0.out
          · rw [HEnc.out, HM.out]
            exact hown3
        case measure => simp [intOf]; omega
    · obtain rfl : k = n := by omega
      have hT : r.fields.take k = r.fields := by rw [← HN.out, List.take_length]
      rw [hT] at hown
      have HF := Lib.hid (hown.fl hbw)
      have Fin := Lib.hid (b0.trans (hbw.mono b0.size))
      clear hown hbw hT
      go_wp2
      go_ret
      exact ⟨_, rfl, HF.out, Fin.out⟩
end

section
open Go.RowKit Go.PlainAid
theorem rec_set {w : World} {b : Nat} {c0 c1 c2 c3 c4 x0 x1 x2 x3 x4 : Value} (h : w.heap[b]? = some (.cells #[c0, c1, c2, c3, c4] 24 (0, 0))) :
    (((((w.setCell ⟨b, 0, none⟩ x0).setCell ⟨b, 1, none⟩ x1).setCell ⟨b, 2, none⟩ x2).setCell ⟨b, 3, none⟩ x3).setCell ⟨b, 4, none⟩ x4).heap[b]? = some (.cells #[x0, x1, x2, x3, x4] 24 (0, 0)) := by
  simp [World.setCell, Array.getElem?_modify, h]
theorem rec_cells {w : World} {b : Nat} {c0 c1 c2 c3 c4 : Value} (h : w.heap[b]? = some (.cells #[c0, c1, c2, c3, c4] 24 (0, 0))) :
    (w.cell? ⟨b, 0, none⟩ = some c0 ∧ w.cell? ⟨b, 1, none⟩ = some c1 ∧ w.cell? ⟨b, 2, none⟩ = some c2 ∧ w.cell? ⟨b, 3, none⟩ = some c3 ∧ w.cell? ⟨b, 4, none⟩ = some c4) ∧
    (w.frozen? ⟨b, 0, none⟩ = false ∧ w.frozen? ⟨b, 1, none⟩ = false ∧ w.frozen? ⟨b, 2, none⟩ = false ∧ w.frozen? ⟨b, 3, none⟩ = false ∧ w.frozen? ⟨b, 4, none⟩ = false) := by
  refine ⟨⟨?_, ?_, ?_, ?_, ?_⟩, Lib.frozen_of_heap h 0, Lib.frozen_of_heap h 1, Lib.frozen_of_heap h 2, Lib.frozen_of_heap h 3, Lib.frozen_of_heap h 4⟩
  · rw [Lib.cell_of_heap h]; rfl
  · rw [Lib.cell_of_heap h]; rfl
  · rw [Lib.cell_of_heap h]; rfl
  · rw [Lib.cell_of_heap h]; rfl
  · rw [Lib.cell_of_heap h]; rfl
theorem rec_below {w0 w : World} {b B : Nat} (h : Below B w0 w) (hb : B ≤ b) (x0 x1 x2 x3 x4 : Value) :
    Below B w0 (((((w.setCell ⟨b, 0, none⟩ x0).setCell ⟨b, 1, none⟩ x1).setCell ⟨b, 2, none⟩ x2).setCell ⟨b, 3, none⟩ x3).setCell ⟨b, 4, none⟩ x4) :=
  ((((h.setCell (p := ⟨b, 0, none⟩) hb x0).setCell (p := ⟨b, 1, none⟩) hb x1).setCell (p := ⟨b, 2, none⟩) hb x2).setCell (p := ⟨b, 3, none⟩) hb x3).setCell (p := ⟨b, 4, none⟩) hb x4

set_option maxHeartbeats 4000000 in
theorem refWith_any (r : Rec) (a a' : Option Addr) (n c n' c' : Nat) (w : World) :
    Calls Tryz.prog 47 #[RV r (.slice a n c), .slice a' n' c'] w fun e w' => e = .returned (RV r (.slice a' n' c')) ∧ Below w.heap.size w w' := by
  unfold RV
  obtain ⟨W0, hW0⟩ : ∃ W0, (w.alloc (.cells #[.int .i64 r.id, .int .i64 r.ver, .int .i64 r.kind, .string (S r.lang), .slice a n c] 24)).alloc (.cells #[.int .i64 0, .int .i64 0, .int .i64 0, .string ⟨#[]⟩, .slice none 0 0] 24) = W0 := ⟨_, rfl⟩
  have b0 : Below w.heap.size w W0 := by rw [← hW0]; exact ((Below.refl w.heap.size w).alloc (Nat.le_refl _) _).alloc (by simp) _
  have hF : W0.heap[w.heap.size]? = some (.cells #[.int .i64 r.id, .int .i64 r.ver, .int .i64 r.kind, .string (S r.lang), .slice a n c] 24 (0, 0)) := by
    rw [← hW0]
    exact (Below.heap_alloc _ _ _ (by simp)).trans (heap_alloc_new w _)
  have hR : W0.heap[w.heap.size + 1]? = some (.cells #[.int .i64 0, .int .i64 0, .int .i64 0, .string ⟨#[]⟩, .slice none 0 0] 24 (0, 0)) := by
    rw [← hW0]
    have := heap_alloc_new (w.alloc (.cells #[.int .i64 r.id, .int .i64 r.ver, .int .i64 r.kind, .string (S r.lang), .slice a n c] 24)) (.cells #[.int .i64 0, .int .i64 0, .int .i64 0, .string ⟨#[]⟩, .slice none 0 0] 24)
    simpa using this
  have HW0 := Lib.hid hW0
  clear hW0
  obtain ⟨⟨p0, p1, p2, p3, _⟩, _⟩ := rec_cells hF
  obtain ⟨⟨r0, r1, r2, r3, r4⟩, g0, g1, g2, g3, g4⟩ := rec_cells hR
  have hfin := Lib.hid (rec_set (x0 := .int .i64 r.id) (x1 := .int .i64 r.ver) (x2 := .int .i64 r.kind) (x3 := .string (S r.lang)) (x4 := .slice a' n' c') hR)
  have Fin := Lib.hid (rec_below (b := w.heap.size + 1) b0 (Nat.le_succ _) (.int .i64 r.id) (.int .i64 r.ver) (.int .i64 r.kind) (.string (S r.lang)) (.slice a' n' c'))
  clear hF hR
  generalize S r.lang = lg at *
  go_enter Tryz.func47, Tryz.ntmps47
  go_upto_region 1 with fail
  rw [HW0.out]
  go_wp2
  (try simp only [Exit.inBlock, Exit.then])
  refine bodyPost_ret (results_cell_row rfl _ _ (w.heap.size + 1) _ _ _ _ rfl hfin.out Tryz.underlying24 rfl (by kernel_rfl)) rfl ?_
  exact ⟨rfl, Fin.out⟩

theorem rec_row {W0 w : World} {v : Value} {L : List Fld} {b B : Nat} (h : FR W0 B v L w) (hb : b < B) (x0 x1 x2 x3 x4 : Value) :
    FR W0 B v L (((((w.setCell ⟨b, 0, none⟩ x0).setCell ⟨b, 1, none⟩ x1).setCell ⟨b, 2, none⟩ x2).setCell ⟨b, 3, none⟩ x3).setCell ⟨b, 4, none⟩ x4) :=
  ((((h.put (p := ⟨b, 0, none⟩) hb x0).put (p := ⟨b, 1, none⟩) hb x1).put (p := ⟨b, 2, none⟩) hb x2).put (p := ⟨b, 3, none⟩) hb x3).put (p := ⟨b, 4, none⟩) hb x4
/-- The head of a slice of fields, as it is appended. -/
theorem FL.head {a : Option Addr} {cap : Nat} {L : List Fld} {W0 w : World} (h : FL (.slice a L.length cap) L W0) (i : Nat) (hi : i ≤ L.length) (hb : Below W0.heap.size W0 w) : NW W0 a (L.take i) w := by
  obtain ⟨a1, cap1, us, he, _, _, hn, hl, hq, hx⟩ := h.vals
  obtain ⟨rfl, -, rfl⟩ := Value.slice.inj he
  refine ⟨fun h0 => ?_, fun ad had => ⟨us.take i, by rw [List.length_take, List.length_take, hl], fun j hj => ?_, ?_⟩⟩
  · cases L with
    | nil => simp
    | cons f t =>
      obtain ⟨g, o, h1, _⟩ := hx 0 (by simp)
      rw [h0] at h1
      cases h1
  · rw [List.length_take] at hj
    have := hq j (by omega)
    rwa [List.getD_eq_getElem?_getD, List.getD_eq_getElem?_getD, List.getElem?_take_of_lt (by omega), List.getElem?_take_of_lt (by omega), ← List.getD_eq_getElem?_getD, ← List.getD_eq_getElem?_getD]
  · by_cases hz : i = 0
    · subst hz
      intro j u hu
      simp [cellsF] at hu
    · obtain ⟨g, o, h1, hg, _⟩ := hx 0 (by omega)
      rw [h1] at had
      obtain rfl := Option.some.inj had
      intro j u hu
      have hadd : (⟨g, o, none⟩ : Addr).add j = ⟨g, o + j, none⟩ := by unfold Addr.add; split <;> simp_all
      rw [hadd]
      refine cellsF_news (L.take i) (us.take i) o (by rw [List.length_take, List.length_take, hl]) (fun m hm => ?_) j u hu
      rw [List.length_take] at hm
      obtain ⟨g', o', h1', hg', c0, c1, c2, c3⟩ := hx m (by omega)
      rw [h1] at h1'
      obtain ⟨rfl, rfl⟩ : g = g' ∧ o = o' := by simpa using h1'
      rw [List.getD_eq_getElem?_getD, List.getD_eq_getElem?_getD, List.getElem?_take_of_lt (by omega), List.getElem?_take_of_lt (by omega), ← List.getD_eq_getElem?_getD, ← List.getD_eq_getElem?_getD]
      exact ⟨(hb.cell (p := ⟨g, o + m * 4, none⟩) hg).trans c0, (hb.cell (p := ⟨g, o + m * 4 + 1, none⟩) hg).trans c1, (hb.cell (p := ⟨g, o + m * 4 + 2, none⟩) hg).trans c2, (hb.cell (p := ⟨g, o + m * 4 + 3, none⟩) hg).trans c3⟩
/-- The rest of a slice of fields, as it is appended. -/
theorem FL.tail {a : Option Addr} {cap : Nat} {L : List Fld} {W0 w : World} (h : FL (.slice a L.length cap) L W0) (i : Nat) (hi : i ≤ L.length) (hb : Below W0.heap.size W0 w) (ao : Option Addr) (hao : ∀ ad, a = some ad → i < L.length → ao = some (ad.add (i * 4))) :
    NW W0 ao (L.drop i) w := by
  obtain ⟨a1, cap1, us, he, _, _, hn, hl, hq, hx⟩ := h.vals
  obtain ⟨rfl, -, rfl⟩ := Value.slice.inj he
  have hd : ∀ j, (us.drop i).getD j .nilIface = us.getD (i + j) .nilIface ∧ (L.drop i).getD j fd0 = L.getD (i + j) fd0 := fun j => by
    constructor
    · rw [List.getD_eq_getElem?_getD, List.getElem?_drop, ← List.getD_eq_getElem?_getD]
    · rw [List.getD_eq_getElem?_getD, List.getElem?_drop, ← List.getD_eq_getElem?_getD]
  refine ⟨fun h0 => ?_, fun ad had => ⟨us.drop i, by rw [List.length_drop, List.length_drop, hl], fun j hj => ?_, ?_⟩⟩
  · by_cases hlt : i < L.length
    · obtain ⟨g, o, h1, _⟩ := hx i hlt
      rw [hao _ h1 hlt] at h0
      cases h0
    · exact List.drop_of_length_le (by omega)
  · rw [List.length_drop] at hj
    rw [(hd j).1, (hd j).2]
    exact hq (i + j) (by omega)
  · by_cases hlt : i < L.length
    · obtain ⟨g, o, h1, hg, _⟩ := hx i hlt
      rw [hao _ h1 hlt] at had
      obtain rfl := Option.some.inj had
      intro j u hu
      have hadd : ((⟨g, o, none⟩ : Addr).add (i * 4)).add j = ⟨g, o + i * 4 + j, none⟩ := by
        have e : ∀ (q m : Nat), (⟨g, q, none⟩ : Addr).add m = ⟨g, q + m, none⟩ := fun q m => by unfold Addr.add; split <;> simp_all
        rw [e, e]
      rw [hadd]
      refine cellsF_news (L.drop i) (us.drop i) (o + i * 4) (by rw [List.length_drop, List.length_drop, hl]) (fun m hm => ?_) j u hu
      rw [List.length_drop] at hm
      obtain ⟨g', o', h1', hg', c0, c1, c2, c3⟩ := hx (i + m) (by omega)
      rw [h1] at h1'
      obtain ⟨rfl, rfl⟩ : g = g' ∧ o = o' := by simpa using h1'
      rw [(hd m).1, (hd m).2, show o + i * 4 + m * 4 = o + (i + m) * 4 by omega]
      exact ⟨(hb.cell (p := ⟨g, o + (i + m) * 4, none⟩) hg).trans c0, (hb.cell (p := ⟨g, o + (i + m) * 4 + 1, none⟩) hg).trans c1, (hb.cell (p := ⟨g, o + (i + m) * 4 + 2, none⟩) hg).trans c2, (hb.cell (p := ⟨g, o + (i + m) * 4 + 3, none⟩) hg).trans c3⟩
    · intro j u hu
      rw [List.drop_of_length_le (show L.length ≤ i by omega)] at hu
      simp [cellsF] at hu
end

section
open Go.RowKit Go.PlainAid
set_option maxHeartbeats 16000000 in
theorem equalFunc_any (A B : List Fld) (u v : Value) (w : World) (hu : FL u A w) (hv : FL v B w) (b : Bool) (hb : sameFB A B = b) :
    Calls Tryz.prog 41 #[u, v, .func (.func 42) #[] #[]] w fun e w' => e = .returned (.bool b) ∧ Below w.heap.size w w' := by
  have HU := Lib.hid hu
  have HV := Lib.hid hv
  obtain ⟨a, cap, rfl, hcap, hmax⟩ := hu.length
  obtain ⟨a', cap', rfl, hcap', hmax'⟩ := hv.length
  unfold maxLen at hmax hmax'
  have HEq := Lib.hid (sameFB_iff A B)
  have HX := Lib.hid (fields_ext A B)
  generalize sameFB A B = bb at *
  subst hb
  have cS := Lib.hid (fun k x y W hx hy z hz => fSame_any (A.getD k fd0) (B.getD k fd0) x y W hx hy z hz)
  unfold FV at cS
  obtain ⟨n, hn⟩ : ∃ n, A.length = n := ⟨_, rfl⟩
  obtain ⟨m, hm⟩ : ∃ m, B.length = m := ⟨_, rfl⟩
  rw [hn] at hcap HU ⊢
  rw [hm] at hcap' HV ⊢
  have HN := Lib.hid hn
  have HM := Lib.hid hm
  clear hn hm hu hv
  by_cases hnm : n ≠ m
  · have t : ((n : Int) != (m : Int)) = true := by simp; omega
    obtain rfl : bb = false := by
      cases h : bb
      · rfl
      · exact absurd (HEq.out.1 h) (fun e => hnm (by rw [← HN.out, ← HM.out, e]))
    clear hnm
    go_enter Tryz.func41, Tryz.ntmps41
    go_wp2
    go_ret
    exact ⟨rfl, Below.refl _ _⟩
  obtain rfl : n = m := Decidable.not_not.1 hnm
  have t : ((n : Int) != (n : Int)) = false := by simp
  clear hnm
  go_enter Tryz.func41, Tryz.ntmps41
  go_wp2
  go_loopw [17] (fun i wr => ∃ k : Nat, k ≤ n ∧ i = .int .i64 (k : Int) ∧ RowKit.Hid (∀ j, j < k → A.getD j fd0 = B.getD j fd0) ∧ Below w.heap.size w wr) (fun i _ => n - (intOf i).toNat)
  case atStart => exact ⟨0, Nat.zero_le _, rfl, (fun j hj => by omega), Below.refl _ _⟩
  case round =>
    obtain ⟨k, hk, rfl, HJ, hbw⟩ := hrel
    by_cases hkn : k < n
    · obtain ⟨g, o, cp, x, he, hg, c0, c1, c2, c3, hq⟩ := (HU.out.after hbw).at k (by rw [HN.out]; exact hkn)
      obtain ⟨ha, -, hcp⟩ := Value.slice.inj he
      subst ha hcp
      clear he
      obtain ⟨g', o', cp', y, he', hg', d0, d1, d2, d3, hq'⟩ := (HV.out.after hbw).at k (by rw [HM.out]; exact hkn)
      obtain ⟨ha', -, hcp'⟩ := Value.slice.inj he'
      subst ha' hcp'
      clear he'
      obtain ⟨ax, nx, cx, hx⟩ : ∃ ax nx cx, x = .slice ax nx cx := by obtain ⟨ax, cx, rfl, _⟩ := hq; exact ⟨_, _, _, rfl⟩
      subst hx
      obtain ⟨ay, ny, cy, hy⟩ : ∃ ax nx cx, y = .slice ax nx cx := by obtain ⟨ax, cx, rfl, _⟩ := hq'; exact ⟨_, _, _, rfl⟩
      subst hy
      obtain ⟨wa, hwa⟩ : ∃ wa, wr.alloc (.cells #[.string (S (A.getD k fd0).tag), .string (S (A.getD k fd0).ind), .slice ax nx cx, .int .i64 (A.getD k fd0).auth] 35) = wa := ⟨_, rfl⟩
      obtain ⟨wb, hwb⟩ : ∃ wb, wa.alloc (.cells #[.string (S (B.getD k fd0).tag), .string (S (B.getD k fd0).ind), .slice ay ny cy, .int .i64 (B.getD k fd0).auth] 35) = wb := ⟨_, rfl⟩
      have ba : Below wr.heap.size wr wa := by rw [← hwa]; exact (Below.refl _ _).alloc (Nat.le_refl _) _
      have bb' : Below wa.heap.size wa wb := by rw [← hwb]; exact (Below.refl _ _).alloc (Nat.le_refl _) _
      have hlta : wr.heap.size < wa.heap.size := by rw [← hwa]; simp
      have y0 : wb.cell? ⟨wr.heap.size, 0, none⟩ = some (.string (S (A.getD k fd0).tag)) := (bb'.cell (p := ⟨wr.heap.size, 0, none⟩) hlta).trans (by rw [← hwa]; simp)
      have y1 : wb.cell? ⟨wr.heap.size, 1, none⟩ = some (.string (S (A.getD k fd0).ind)) := (bb'.cell (p := ⟨wr.heap.size, 1, none⟩) hlta).trans (by rw [← hwa]; simp)
      have y2 : wb.cell? ⟨wr.heap.size, 2, none⟩ = some (.slice ax nx cx) := (bb'.cell (p := ⟨wr.heap.size, 2, none⟩) hlta).trans (by rw [← hwa]; simp)
      have y3 : wb.cell? ⟨wr.heap.size, 3, none⟩ = some (.int .i64 (A.getD k fd0).auth) := (bb'.cell (p := ⟨wr.heap.size, 3, none⟩) hlta).trans (by rw [← hwa]; simp)
      have z0 : wb.cell? ⟨wa.heap.size, 0, none⟩ = some (.string (S (B.getD k fd0).tag)) := by rw [← hwb]; simp
      have z1 : wb.cell? ⟨wa.heap.size, 1, none⟩ = some (.string (S (B.getD k fd0).ind)) := by rw [← hwb]; simp
      have z2 : wb.cell? ⟨wa.heap.size, 2, none⟩ = some (.slice ay ny cy) := by rw [← hwb]; simp
      have z3 : wb.cell? ⟨wa.heap.size, 3, none⟩ = some (.int .i64 (B.getD k fd0).auth) := by rw [← hwb]; simp
      have ba2 := ba.trans (bb'.mono ba.size)
      have hqb := hq.after ba2
      have hqb' := hq'.after ba2
      have d0 := (ba.cell (p := ⟨g', o' + k * 4, none⟩) hg').trans d0
      have d1 := (ba.cell (p := ⟨g', o' + k * 4 + 1, none⟩) hg').trans d1
      have d2 := (ba.cell (p := ⟨g', o' + k * 4 + 2, none⟩) hg').trans d2
      have d3 := (ba.cell (p := ⟨g', o' + k * 4 + 3, none⟩) hg').trans d3
      have HWA := Lib.hid hwa
      have HWB := Lib.hid hwb
      have Fin := Lib.hid (hbw.trans (ba2.mono hbw.size))
      clear hwa hwb ba bb' hlta ba2
      have i1 : (0 : Int) ≤ (k : Int) := by omega
      have i2 : (k : Int) < (n : Int) := by omega
      cases hsf : sameB (A.getD k fd0) (B.getD k fd0)
      · obtain rfl : bb = false := by
          cases h : bb
          · rfl
          · exact absurd (by rw [HEq.out.1 h]) (sameB_ne hsf)
        have cA := Lib.hid (cS.out k _ _ wb hqb hqb' false hsf)
        clear HJ hq hq' hqb hqb' hsf HEq HX hbw
        generalize S (A.getD k fd0).tag = t0 at *
        generalize S (A.getD k fd0).ind = t1 at *
        generalize (A.getD k fd0).auth = t3 at *
        generalize S (B.getD k fd0).tag = s0 at *
        generalize S (B.getD k fd0).ind = s1 at *
        generalize (B.getD k fd0).auth = s3 at *
        go_upto_region 6 with fail
        rw [HWA.out]
        go_upto_region 7 with fail
        rw [HWB.out]
        go_wp2_with fail
        refine cA.out.mono ?_
        rintro e w5 ⟨rfl, d⟩
        have Fin2 := Lib.hid (Fin.out.trans (d.mono Fin.out.size))
        all_goals
          go_wp2
          go_ret
          exact ⟨rfl, Fin2.out⟩
      · have cA := Lib.hid (cS.out k _ _ wb hqb hqb' true hsf)
        have HJ2 : RowKit.Hid (∀ j, j < k + 1 → A.getD j fd0 = B.getD j fd0) := by
          intro j hj
          rcases Nat.lt_or_ge j k with h | h
          · exact HJ.out j h
          · rw [show j = k by omega]; exact (sameB_iff _ _).1 hsf
        clear HJ hq hq' hqb hqb' hsf HEq HX hbw
        generalize S (A.getD k fd0).tag = t0 at *
        generalize S (A.getD k fd0).ind = t1 at *
        generalize (A.getD k fd0).auth = t3 at *
        generalize S (B.getD k fd0).tag = s0 at *
        generalize S (B.getD k fd0).ind = s1 at *
        generalize (B.getD k fd0).auth = s3 at *
        go_upto_region 6 with fail
        rw [HWA.out]
        go_upto_region 7 with fail
        rw [HWB.out]
        go_wp2_with fail
        refine cA.out.mono ?_
        rintro e w5 ⟨rfl, d⟩
        have Fin2 := Lib.hid (Fin.out.trans (d.mono Fin.out.size))
        all_goals
          go_wp2
          go_roundw
          case rel => exact ⟨k + 1, by omega, by go_num, HJ2, Fin2.out⟩
          case measure => simp [intOf]; omega
    · obtain rfl : k = n := by omega
      obtain rfl : bb = true := HEq.out.2 (HX.out (by rw [HN.out, HM.out]) (fun j hj => HJ.out j (by rw [HN.out] at hj; exact hj)))
      go_wp2
      go_ret
      exact ⟨rfl, hbw⟩
set_option maxHeartbeats 8000000 in
theorem pSame_any (r q : Rec) (u v : Value) (w : World) (hu : FL u r.fields w) (hv : FL v q.fields w) (b : Bool) (hb : sameRB r q = b) :
    Calls Tryz.prog 14 #[RV r u, RV q v] w fun e w' => e = .returned (.bool b) ∧ Below w.heap.size w w' := by
  unfold RV
  unfold sameRB at hb
  have cF := Lib.hid (fun W hx hy z hz => equalFunc_any r.fields q.fields u v W hx hy z hz)
  obtain ⟨W0, hW0⟩ : ∃ W0, (w.alloc (.cells #[.int .i64 r.id, .int .i64 r.ver, .int .i64 r.kind, .string (S r.lang), u] 24)).alloc (.cells #[.int .i64 q.id, .int .i64 q.ver, .int .i64 q.kind, .string (S q.lang), v] 24) = W0 := ⟨_, rfl⟩
  have b1 := (Below.refl w.heap.size w).alloc (Nat.le_refl _) (.cells #[.int .i64 r.id, .int .i64 r.ver, .int .i64 r.kind, .string (S r.lang), u] 24)
  have b0 : Below w.heap.size w W0 := by rw [← hW0]; exact b1.alloc (by simp) _
  have k0 : W0.cell? ⟨w.heap.size, 0, none⟩ = some (.int .i64 r.id) := by rw [← hW0]; simp
  have k1 : W0.cell? ⟨w.heap.size, 1, none⟩ = some (.int .i64 r.ver) := by rw [← hW0]; simp
  have k2 : W0.cell? ⟨w.heap.size, 2, none⟩ = some (.int .i64 r.kind) := by rw [← hW0]; simp
  have k3 : W0.cell? ⟨w.heap.size, 3, none⟩ = some (.string (S r.lang)) := by rw [← hW0]; simp
  have k4 : W0.cell? ⟨w.heap.size, 4, none⟩ = some u := by rw [← hW0]; simp
  have l0 : W0.cell? ⟨w.heap.size + 1, 0, none⟩ = some (.int .i64 q.id) := by rw [← hW0]; simp
  have l1 : W0.cell? ⟨w.heap.size + 1, 1, none⟩ = some (.int .i64 q.ver) := by rw [← hW0]; simp
  have l2 : W0.cell? ⟨w.heap.size + 1, 2, none⟩ = some (.int .i64 q.kind) := by rw [← hW0]; simp
  have l3 : W0.cell? ⟨w.heap.size + 1, 3, none⟩ = some (.string (S q.lang)) := by rw [← hW0]; simp
  have l4 : W0.cell? ⟨w.heap.size + 1, 4, none⟩ = some v := by rw [← hW0]; simp
  have HW0 := Lib.hid hW0
  have q3 := S_eq r.lang q.lang
  have hu0 := Lib.hid (hu.after b0)
  have hv0 := Lib.hid (hv.after b0)
  obtain ⟨a, cap, rfl, _, _⟩ := hu.length
  obtain ⟨a', cap', rfl, _, _⟩ := hv.length
  clear hW0 b1 hu hv
  generalize sameFB r.fields q.fields = sf at *
  generalize r.fields.length = n at *
  generalize q.fields.length = m at *
  by_cases h0 : r.id = q.id
  case neg =>
    rw [decide_eq_false h0] at hb
    simp only [Bool.false_and] at hb
    subst hb
    have t0 : (r.id == q.id) = false := by simpa using h0
    clear h0
    go_enter Tryz.func14, Tryz.ntmps14
    go_upto_region 1 with fail
    rw [HW0.out]
    go_wp2
    go_ret
    exact ⟨rfl, b0⟩
  rw [decide_eq_true h0] at hb
  have t0 : (r.id == q.id) = true := by simpa using h0
  clear h0
  by_cases h1 : r.ver = q.ver
  case neg =>
    rw [decide_eq_false h1] at hb
    simp only [Bool.false_and, Bool.and_false] at hb
    subst hb
    have t1 : (r.ver == q.ver) = false := by simpa using h1
    clear h1
    go_enter Tryz.func14, Tryz.ntmps14
    go_upto_region 1 with fail
    rw [HW0.out]
    go_wp2
    go_ret
    exact ⟨rfl, b0⟩
  rw [decide_eq_true h1] at hb
  have t1 : (r.ver == q.ver) = true := by simpa using h1
  clear h1
  by_cases h2 : r.kind = q.kind
  case neg =>
    rw [decide_eq_false h2] at hb
    simp only [Bool.false_and, Bool.and_false] at hb
    subst hb
    have t2 : (r.kind == q.kind) = false := by simpa using h2
    clear h2
    go_enter Tryz.func14, Tryz.ntmps14
    go_upto_region 1 with fail
    rw [HW0.out]
    go_wp2
    go_ret
    exact ⟨rfl, b0⟩
  rw [decide_eq_true h2] at hb
  have t2 : (r.kind == q.kind) = true := by simpa using h2
  clear h2
  by_cases h3 : r.lang = q.lang
  case neg =>
    rw [decide_eq_false h3] at hb q3
    simp only [Bool.false_and, Bool.and_false] at hb
    subst hb
    clear h3
    generalize S r.lang = x at *
    generalize S q.lang = y at *
    go_enter Tryz.func14, Tryz.ntmps14
    go_upto_region 1 with fail
    rw [HW0.out]
    go_wp2
    go_ret
    exact ⟨rfl, b0⟩
  rw [decide_eq_true h3] at hb q3
  simp only [Bool.true_and] at hb
  subst hb
  clear h3
  have c := Lib.hid (cF.out W0 hu0.out hv0.out sf rfl)
  generalize S r.lang = x at *
  generalize S q.lang = y at *
  go_enter Tryz.func14, Tryz.ntmps14
  go_upto_region 1 with fail
  rw [HW0.out]
  go_wp2_with fail
  refine c.out.mono ?_
  rintro e w5 ⟨rfl, d⟩
  have Fin := Lib.hid (b0.trans (d.mono b0.size))
  go_wp2
  go_ret
  exact ⟨rfl, Fin.out⟩
end

end Go.Proofs.YtcnjjdbpcobolaaGreatDoor
