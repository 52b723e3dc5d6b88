/- Merged: R08C, R08D, KM16. -/
import Derived.Test.YtceneblmllpdnaaDoorQ12
import Derived.Laws.ResultCell
import Derived.Deep.CutBlock
import Derived.Deep.DeepCutAuto
import Derived.Lib.Builder
import Derived.Test.YtceneblmllpdnaaDoorQ13
import Derived.Test.YtceneblmllpdnaaDoorQ08
import Derived.Test.YtceneblmllpdnaaDoorQ10
import Derived.Deep.RegionLaw
import Derived.RegionTactic
import Derived.BigRegion
namespace Go.Proofs.YtceneblmllpdnaaDoor

section
open Go.RowKit Go.PlainAid

end

section
open Go.RowKit Go.PlainAid
theorem rec_set {w : World} {b : Nat} {c0 c1 c2 c3 c4 x0 x1 x2 x3 x4 : Value} (h : w.heap[b]? = some (.cells #[c0, c1, c2, c3, c4] 31 (0, 0))) :
    (((((w.setCell ⟨b, 0, none⟩ x0).setCell ⟨b, 1, none⟩ x1).setCell ⟨b, 2, none⟩ x2).setCell ⟨b, 3, none⟩ x3).setCell ⟨b, 4, none⟩ x4).heap[b]? = some (.cells #[x0, x1, x2, x3, x4] 31 (0, 0)) := by
  simp [World.setCell, Array.getElem?_modify, h]
theorem rec_cells {w : World} {b : Nat} {c0 c1 c2 c3 c4 : Value} (h : w.heap[b]? = some (.cells #[c0, c1, c2, c3, c4] 31 (0, 0))) :
    (w.cell? ⟨b, 0, none⟩ = some c0 ∧ w.cell? ⟨b, 1, none⟩ = some c1 ∧ w.cell? ⟨b, 2, none⟩ = some c2 ∧ w.cell? ⟨b, 3, none⟩ = some c3 ∧ w.cell? ⟨b, 4, none⟩ = some c4) ∧
    (w.frozen? ⟨b, 0, none⟩ = false ∧ w.frozen? ⟨b, 1, none⟩ = false ∧ w.frozen? ⟨b, 2, none⟩ = false ∧ w.frozen? ⟨b, 3, none⟩ = false ∧ w.frozen? ⟨b, 4, none⟩ = false) := by
  refine ⟨⟨?_, ?_, ?_, ?_, ?_⟩, Lib.frozen_of_heap h 0, Lib.frozen_of_heap h 1, Lib.frozen_of_heap h 2, Lib.frozen_of_heap h 3, Lib.frozen_of_heap h 4⟩
  · rw [Lib.cell_of_heap h]; rfl
  · rw [Lib.cell_of_heap h]; rfl
  · rw [Lib.cell_of_heap h]; rfl
  · rw [Lib.cell_of_heap h]; rfl
  · rw [Lib.cell_of_heap h]; rfl
theorem rec_below {w0 w : World} {b B : Nat} (h : Below B w0 w) (hb : B ≤ b) (x0 x1 x2 x3 x4 : Value) :
    Below B w0 (((((w.setCell ⟨b, 0, none⟩ x0).setCell ⟨b, 1, none⟩ x1).setCell ⟨b, 2, none⟩ x2).setCell ⟨b, 3, none⟩ x3).setCell ⟨b, 4, none⟩ x4) :=
  ((((h.setCell (p := ⟨b, 0, none⟩) hb x0).setCell (p := ⟨b, 1, none⟩) hb x1).setCell (p := ⟨b, 2, none⟩) hb x2).setCell (p := ⟨b, 3, none⟩) hb x3).setCell (p := ⟨b, 4, none⟩) hb x4

theorem rec_row {W0 w : World} {v : Value} {L : List Fld} {b B : Nat} (h : FR W0 B v L w) (hb : b < B) (x0 x1 x2 x3 x4 : Value) :
    FR W0 B v L (((((w.setCell ⟨b, 0, none⟩ x0).setCell ⟨b, 1, none⟩ x1).setCell ⟨b, 2, none⟩ x2).setCell ⟨b, 3, none⟩ x3).setCell ⟨b, 4, none⟩ x4) :=
  ((((h.put (p := ⟨b, 0, none⟩) hb x0).put (p := ⟨b, 1, none⟩) hb x1).put (p := ⟨b, 2, none⟩) hb x2).put (p := ⟨b, 3, none⟩) hb x3).put (p := ⟨b, 4, none⟩) hb x4
/-- The head of a slice of fields, as it is appended. -/
theorem FL.head {a : Option Addr} {cap : Nat} {L : List Fld} {W0 w : World} (h : FL (.slice a L.length cap) L W0) (i : Nat) (hi : i ≤ L.length) (hb : Below W0.heap.size W0 w) : NW W0 a (L.take i) w := by
  obtain ⟨a1, cap1, us, he, _, _, hn, hl, hq, hx⟩ := h.vals
  obtain ⟨rfl, -, rfl⟩ := Value.slice.inj he
  refine ⟨fun h0 => ?_, fun ad had => ⟨us.take i, by rw [List.length_take, List.length_take, hl], fun j hj => ?_, ?_⟩⟩
  · cases L with
    | nil => simp
    | cons f t =>
      obtain ⟨g, o, h1, _⟩ := hx 0 (by simp)
      rw [h0] at h1
      cases h1
  · rw [List.length_take] at hj
    have := hq j (by omega)
    rwa [List.getD_eq_getElem?_getD, List.getD_eq_getElem?_getD, List.getElem?_take_of_lt (by omega), List.getElem?_take_of_lt (by omega), ← List.getD_eq_getElem?_getD, ← List.getD_eq_getElem?_getD]
  · by_cases hz : i = 0
    · subst hz
      intro j u hu
      simp [cellsF] at hu
    · obtain ⟨g, o, h1, hg, _⟩ := hx 0 (by omega)
      rw [h1] at had
      obtain rfl := Option.some.inj had
      intro j u hu
      have hadd : (⟨g, o, none⟩ : Addr).add j = ⟨g, o + j, none⟩ := by unfold Addr.add; split <;> simp_all
      rw [hadd]
      refine cellsF_news (L.take i) (us.take i) o (by rw [List.length_take, List.length_take, hl]) (fun m hm => ?_) j u hu
      rw [List.length_take] at hm
      obtain ⟨g', o', h1', hg', c0, c1, c2, c3⟩ := hx m (by omega)
      rw [h1] at h1'
      obtain ⟨rfl, rfl⟩ : g = g' ∧ o = o' := by simpa using h1'
      rw [List.getD_eq_getElem?_getD, List.getD_eq_getElem?_getD, List.getElem?_take_of_lt (by omega), List.getElem?_take_of_lt (by omega), ← List.getD_eq_getElem?_getD, ← List.getD_eq_getElem?_getD]
      exact ⟨(hb.cell (p := ⟨g, o + m * 4, none⟩) hg).trans c0, (hb.cell (p := ⟨g, o + m * 4 + 1, none⟩) hg).trans c1, (hb.cell (p := ⟨g, o + m * 4 + 2, none⟩) hg).trans c2, (hb.cell (p := ⟨g, o + m * 4 + 3, none⟩) hg).trans c3⟩
/-- The rest of a slice of fields, as it is appended. -/
theorem FL.tail {a : Option Addr} {cap : Nat} {L : List Fld} {W0 w : World} (h : FL (.slice a L.length cap) L W0) (i : Nat) (hi : i ≤ L.length) (hb : Below W0.heap.size W0 w) (ao : Option Addr) (hao : ∀ ad, a = some ad → i < L.length → ao = some (ad.add (i * 4))) :
    NW W0 ao (L.drop i) w := by
  obtain ⟨a1, cap1, us, he, _, _, hn, hl, hq, hx⟩ := h.vals
  obtain ⟨rfl, -, rfl⟩ := Value.slice.inj he
  have hd : ∀ j, (us.drop i).getD j .nilIface = us.getD (i + j) .nilIface ∧ (L.drop i).getD j fd0 = L.getD (i + j) fd0 := fun j => by
    constructor
    · rw [List.getD_eq_getElem?_getD, List.getElem?_drop, ← List.getD_eq_getElem?_getD]
    · rw [List.getD_eq_getElem?_getD, List.getElem?_drop, ← List.getD_eq_getElem?_getD]
  refine ⟨fun h0 => ?_, fun ad had => ⟨us.drop i, by rw [List.length_drop, List.length_drop, hl], fun j hj => ?_, ?_⟩⟩
  · by_cases hlt : i < L.length
    · obtain ⟨g, o, h1, _⟩ := hx i hlt
      rw [hao _ h1 hlt] at h0
      cases h0
    · exact List.drop_of_length_le (by omega)
  · rw [List.length_drop] at hj
    rw [(hd j).1, (hd j).2]
    exact hq (i + j) (by omega)
  · by_cases hlt : i < L.length
    · obtain ⟨g, o, h1, hg, _⟩ := hx i hlt
      rw [hao _ h1 hlt] at had
      obtain rfl := Option.some.inj had
      intro j u hu
      have hadd : ((⟨g, o, none⟩ : Addr).add (i * 4)).add j = ⟨g, o + i * 4 + j, none⟩ := by
        have e : ∀ (q m : Nat), (⟨g, q, none⟩ : Addr).add m = ⟨g, q + m, none⟩ := fun q m => by unfold Addr.add; split <;> simp_all
        rw [e, e]
      rw [hadd]
      refine cellsF_news (L.drop i) (us.drop i) (o + i * 4) (by rw [List.length_drop, List.length_drop, hl]) (fun m hm => ?_) j u hu
      rw [List.length_drop] at hm
      obtain ⟨g', o', h1', hg', c0, c1, c2, c3⟩ := hx (i + m) (by omega)
      rw [h1] at h1'
      obtain ⟨rfl, rfl⟩ : g = g' ∧ o = o' := by simpa using h1'
      rw [(hd m).1, (hd m).2, show o + i * 4 + m * 4 = o + (i + m) * 4 by omega]
      exact ⟨(hb.cell (p := ⟨g, o + (i + m) * 4, none⟩) hg).trans c0, (hb.cell (p := ⟨g, o + (i + m) * 4 + 1, none⟩) hg).trans c1, (hb.cell (p := ⟨g, o + (i + m) * 4 + 2, none⟩) hg).trans c2, (hb.cell (p := ⟨g, o + (i + m) * 4 + 3, none⟩) hg).trans c3⟩
    · intro j u hu
      rw [List.drop_of_length_le (show L.length ≤ i by omega)] at hu
      simp [cellsF] at hu
end

section
open Go.RowKit Go.PlainAid
/-- Is a field taken, if this is kept of its tag? -/
def takP (I R : List Fld) (h : Int) (f : Fld) : Bool := (decide (h = 1) && !hasF R f) || (decide (h = 2) && !tagdF I f.tag)
theorem tak_take (I R : List Fld) (l : List Kp) (f : Fld) : takP I R (howK l f.tag) f = takeB I R l f := rfl
theorem sameB_comm (f g : Fld) : sameB f g = sameB g f := by
  cases h : sameB g f with
  | true => rw [(sameB_iff g f).1 h]; exact (sameB_iff f f).2 rfl
  | false =>
    cases h2 : sameB f g with
    | false => rfl
    | true => rw [(sameB_iff f g).1 h2, (sameB_iff g g).2 rfl] at h; cases h
theorem any_same16 (L : List Fld) (f : Fld) : L.any (fun g => sameB f g) = hasF L f := by
  unfold hasF
  congr 1
  funext x
  exact sameB_comm f x
def SP.sm16 (f : Fld) (u : Value) : SP := ⟨fun v w => ∃ b, v = .func (.func 55) #[] #[.pointer (some ⟨b, 0, none⟩)] ∧ FBx b f u w, fun _ _ _ h hb => by
  obtain ⟨b, h1, h2⟩ := h
  exact ⟨b, h1, h2.after hb⟩⟩

set_option maxHeartbeats 16000000 in
set_option maxRecDepth 100000 in
theorem pTakes_any (I M : Rec) (iu mu : Value) (f : Fld) (fu : Value) (h : Int) (w : World) (hI : FL iu I.fields w) (hM : FL mu M.fields w) (hf : QL fu f.subs w) (r : Bool) (hr : takP I.fields M.fields h f = r) :
    Calls Tryd.prog 28 #[RV I iu, RV M mu, FV f fu, .int .i64 h] w fun e w' => e = .returned (.bool r) ∧ Below w.heap.size w w' := by
  obtain ⟨W0, hW0⟩ : ∃ W0, ((w.alloc (.cells #[.int .i64 I.id, .int .i64 I.ver, .int .i64 I.kind, .string (S I.lang), iu] 31)).alloc (.cells #[.int .i64 M.id, .int .i64 M.ver, .int .i64 M.kind, .string (S M.lang), mu] 31)).alloc (.cells #[.string (S f.tag), .string (S f.ind), fu, .int .i64 f.auth] 45) = W0 := ⟨_, rfl⟩
  have b0 : Below w.heap.size w W0 := by rw [← hW0]; exact (((Below.refl w.heap.size w).alloc (Nat.le_refl _) _).alloc (by simp) _).alloc (by simp; omega) _
  have hsz0 : W0.heap.size = w.heap.size + 3 := by rw [← hW0]; simp
  have hX : W0.heap[w.heap.size]? = some (.cells #[.int .i64 I.id, .int .i64 I.ver, .int .i64 I.kind, .string (S I.lang), iu] 31 (0, 0)) := by
    rw [← hW0]
    exact (Below.heap_alloc _ _ _ (by simp; omega)).trans ((Below.heap_alloc _ _ _ (by simp)).trans (heap_alloc_new w _))
  have hY : W0.heap[w.heap.size + 1]? = some (.cells #[.int .i64 M.id, .int .i64 M.ver, .int .i64 M.kind, .string (S M.lang), mu] 31 (0, 0)) := by
    rw [← hW0]
    refine (Below.heap_alloc _ _ _ (by simp)).trans ?_
    have := heap_alloc_new (w.alloc (.cells #[.int .i64 I.id, .int .i64 I.ver, .int .i64 I.kind, .string (S I.lang), iu] 31)) (.cells #[.int .i64 M.id, .int .i64 M.ver, .int .i64 M.kind, .string (S M.lang), mu] 31)
    simpa using this
  have hZ : W0.heap[w.heap.size + 2]? = some (.cells #[.string (S f.tag), .string (S f.ind), fu, .int .i64 f.auth] 45 (0, 0)) := by
    rw [← hW0]
    have := heap_alloc_new ((w.alloc (.cells #[.int .i64 I.id, .int .i64 I.ver, .int .i64 I.kind, .string (S I.lang), iu] 31)).alloc (.cells #[.int .i64 M.id, .int .i64 M.ver, .int .i64 M.kind, .string (S M.lang), mu] 31)) (.cells #[.string (S f.tag), .string (S f.ind), fu, .int .i64 f.auth] 45)
    simpa using this
  have HX := Lib.hid (fun (W : World) (h : Below W0.heap.size W0 W) => (h.block w.heap.size (by omega)).trans hX)
  have HY := Lib.hid (fun (W : World) (h : Below W0.heap.size W0 W) => (h.block (w.heap.size + 1) (by omega)).trans hY)
  have HZ := Lib.hid (fun (W : World) (h : Below W0.heap.size W0 W) => (h.block (w.heap.size + 2) (by omega)).trans hZ)
  have HB := Lib.hid (fun (W : World) (h : Below W0.heap.size W0 W) => b0.trans (h.mono b0.size))
  have HB0 := Lib.hid b0
  have hFB : FBx (w.heap.size + 2) f fu W0 := ⟨hZ, hf.after b0⟩
  obtain ⟨hb, hhb⟩ : ∃ b, hasF M.fields f = b := ⟨_, rfl⟩
  obtain ⟨tb, htb⟩ : ∃ b, tagdF I.fields f.tag = b := ⟨_, rfl⟩
  have cS := Lib.hid (fun (W : World) (h : Below W0.heap.size W0 W) => msame_any f fu W (hf.after (HB.out W h)))
  have cC := Lib.hid (fun (W : World) (h : Below W0.heap.size W0 W) (bx : Nat) (hbx : FBx bx f fu W) => sameIn_any f fu bx M.fields mu W (hM.after (HB.out W h)) hbx hb ((any_same16 _ _).trans hhb))
  have cT := Lib.hid (tagIn_any f fu (w.heap.size + 2) I.fields iu W0 (hI.after b0) hFB tb htb)
  unfold takP at hr
  rw [hhb, htb] at hr
  obtain ⟨ia, ic, hia, -, -⟩ := hI.length
  obtain ⟨ma, mc, hma, -, -⟩ := hM.length
  obtain ⟨fua, fuc, hfa, -, -⟩ := hf.length
  have HW0 := Lib.hid hW0
  obtain ⟨⟨x0, x1, x2, x3, x4⟩, -⟩ := rec_cells hX
  unfold RV FV at *
  clear hW0 hX hY hZ hFB hI hM hf b0 hsz0 hhb htb
  subst hia hma hfa
  generalize I.fields.length = inn at *
  generalize M.fields.length = mn at *
  generalize hfn : f.subs.length = fun_ at *
  clear hfn
  generalize hft : S f.tag = ft at *
  generalize hfi : S f.ind = fi at *
  generalize hfau : f.auth = fau at *
  clear hft hfi hfau
  go_enter Tryd.func28, Tryd.ntmps28
  go_upto_region 1 with fail
  rw [HW0.out]
  clear HW0
  by_cases h1 : h = 1
  · subst h1
    have hr2 : (!hb) = r := by rw [← hr]; simp
    subst hr2
    clear hr cT x0 x1 x2 x3 x4
    go_upto_region 3 with fail
    apply wp_region_inv (V := [.eq (.pointer (some ⟨w.heap.size + 1, 4, none⟩)), .eq (.slice ma mn mc), .eq (.agg #[.string ft, .string fi, .slice fua fun_ fuc, .int .i64 fau]), SP.sm16 f (.slice fua fun_ fuc), .eq (.bool hb), .eq (.bool (!hb)), .eq (.bool (!hb))])
    case hm => kernel_rfl
    case hd => kernel_rfl
    case hb => kernel_rfl
    case hA =>
      intro vs
      simp only [puts, Act.put, List.setIfInBounds_toArray, List.set_cons_zero, List.set_cons_succ]
      exact rfl
    case hob =>
      refine Obs.cons _ _ _ _ _ _ ?o0 (Obs.cons _ _ _ _ _ _ ?o1 (Obs.cons _ _ _ _ _ _ ?o2 (Obs.cons _ _ _ _ _ _ ?o3 (Obs.cons _ _ _ _ _ _ ?o4 (Obs.cons _ _ _ _ _ _ ?o5 (Obs.cons _ _ _ _ _ _ ?o6 (Obs.nil _ _ _ _ _ _)))))))
      case o0 =>
        intro vs W hw hd K hK
        go_simp
        exact hK.out _ _ rfl (Below.refl _ _)
      case o1 =>
        intro vs W hw hd K hK
        have h0 : vs 0 = .pointer (some ⟨w.heap.size + 1, 4, none⟩) := hd 0 (by kernel_rfl)
        obtain ⟨⟨y0, y1, y2, y3, y4⟩, -⟩ := rec_cells (HY.out W hw)
        simp only [Nat.reduceAdd, h0] at hK ⊢
        go_simp
        exact hK.out _ _ rfl (Below.refl _ _)
      case o2 =>
        intro vs W hw hd K hK
        obtain ⟨⟨z0, z1, z2, z3⟩, -⟩ := fcells4 (HZ.out W hw)
        go_simp
        exact hK.out _ _ rfl (Below.refl _ _)
      case o3 =>
        intro vs W hw hd K hK
        have h2 : vs 2 = .agg #[.string ft, .string fi, .slice fua fun_ fuc, .int .i64 fau] := hd 2 (by kernel_rfl)
        simp only [Nat.reduceAdd, h2] at hK ⊢
        go_simp
        refine (cS.out W hw).mono ?_
        rintro e W' ⟨rfl, hs, hb'⟩
        exact hK.out _ _ ⟨_, rfl, hs⟩ hb'
      case o4 =>
        intro vs W hw hd K hK
        have h1 : vs 1 = .slice ma mn mc := hd 1 (by kernel_rfl)
        obtain ⟨bx, e3, hbx⟩ : ∃ b, vs 3 = .func (.func 55) #[] #[.pointer (some ⟨b, 0, none⟩)] ∧ FBx b f (.slice fua fun_ fuc) W := hd 3 (by kernel_rfl)
        simp only [Nat.reduceAdd, h1, e3] at hK ⊢
        go_simp
        refine (cC.out W hw bx hbx).mono ?_
        rintro e W' ⟨rfl, hb'⟩
        exact hK.out _ _ rfl hb'
      case o5 =>
        intro vs W hw hd K hK
        have h4 : vs 4 = .bool hb := hd 4 (by kernel_rfl)
        simp only [Nat.reduceAdd, h4] at hK ⊢
        go_simp
        exact hK.out _ _ rfl (Below.refl _ _)
      case o6 =>
        intro vs W hw hd K hK
        have h5 : vs 5 = .bool (!hb) := hd 5 (by kernel_rfl)
        simp only [Nat.reduceAdd, h5] at hK ⊢
        go_simp
        exact hK.out _ _ rfl (Below.refl _ _)
    case hfin =>
      intro vs W hw hd
      have h6 : vs 6 = .bool (!hb) := hd 6 (by decide)
      simp only [Nat.reduceAdd, h6]
      have HF := Lib.hid (HB.out W hw)
      clear hd h6 hw cS cC HX HY HZ HB HB0
      go_wp2
      first | exact ⟨rfl, HF.out⟩ | (go_ret; exact ⟨rfl, HF.out⟩)
  · have d1 : decide (h = 1) = false := decide_eq_false h1
    have q1 : (h == 1) = false := beq_false_of_ne h1
    clear cS cC
    by_cases h2 : h = 2
    · subst h2
      have hr2 : (!tb) = r := by rw [← hr]; simp
      subst hr2
      clear hr
      go_wp2_with fail
      refine cT.out.mono ?_
      rintro e w1 ⟨rfl, hb1⟩
      have HF := Lib.hid (HB.out w1 hb1)
      clear hb1 cT HX HY HZ HB HB0
      go_wp2
      first | exact ⟨rfl, HF.out⟩ | (go_ret; exact ⟨rfl, HF.out⟩)
    · have d2 : decide (h = 2) = false := decide_eq_false h2
      have q2 : (h == 2) = false := beq_false_of_ne h2
      have hr2 : r = false := by rw [← hr, d1, d2]; rfl
      subst hr2
      clear hr
      go_wp2
      first | exact ⟨rfl, HB0.out⟩ | (go_ret; exact ⟨rfl, HB0.out⟩)
end

end Go.Proofs.YtceneblmllpdnaaDoor
