/- Merged: R08D, KF14, KE14, KO14, Row13. -/
import Derived.Test.YthjdopnoophigaaGreatDoorQ23
import Derived.Laws.ResultCell
import Derived.Deep.CutBlock
import Derived.Deep.DeepCutAuto
import Derived.Lib.Builder
import Derived.Test.YthjdopnoophigaaGreatDoorQ20
import Derived.Lib.SliceRun
import Derived.Laws.IdiomCopy
import Derived.Test.YthjdopnoophigaaGreatDoorQ21
import Derived.Test.YthjdopnoophigaaGreatDoorQ11
import Derived.Test.YthjdopnoophigaaGreatDoorQ01
import Derived.Test.YthjdopnoophigaaGreatDoorQ03
import Derived.Test.YthjdopnoophigaaGreatDoorQ04
import Derived.Test.YthjdopnoophigaaGreatDoorQ16
import Derived.Laws.OwnMore
namespace Go.Proofs.YthjdopnoophigaaGreatDoor

section
open Go.RowKit Go.PlainAid
theorem rec_set {w : World} {b : Nat} {c0 c1 c2 c3 c4 x0 x1 x2 x3 x4 : Value} (h : w.heap[b]? = some (.cells #[c0, c1, c2, c3, c4] 33 (0, 0))) :
    (((((w.setCell ⟨b, 0, none⟩ x0).setCell ⟨b, 1, none⟩ x1).setCell ⟨b, 2, none⟩ x2).setCell ⟨b, 3, none⟩ x3).setCell ⟨b, 4, none⟩ x4).heap[b]? = some (.cells #[x0, x1, x2, x3, x4] 33 (0, 0)) := by
  simp [World.setCell, Array.getElem?_modify, h]
theorem rec_cells {w : World} {b : Nat} {c0 c1 c2 c3 c4 : Value} (h : w.heap[b]? = some (.cells #[c0, c1, c2, c3, c4] 33 (0, 0))) :
    (w.cell? ⟨b, 0, none⟩ = some c0 ∧ w.cell? ⟨b, 1, none⟩ = some c1 ∧ w.cell? ⟨b, 2, none⟩ = some c2 ∧ w.cell? ⟨b, 3, none⟩ = some c3 ∧ w.cell? ⟨b, 4, none⟩ = some c4) ∧
    (w.frozen? ⟨b, 0, none⟩ = false ∧ w.frozen? ⟨b, 1, none⟩ = false ∧ w.frozen? ⟨b, 2, none⟩ = false ∧ w.frozen? ⟨b, 3, none⟩ = false ∧ w.frozen? ⟨b, 4, none⟩ = false) := by
  refine ⟨⟨?_, ?_, ?_, ?_, ?_⟩, Lib.frozen_of_heap h 0, Lib.frozen_of_heap h 1, Lib.frozen_of_heap h 2, Lib.frozen_of_heap h 3, Lib.frozen_of_heap h 4⟩
  · rw [Lib.cell_of_heap h]; rfl
  · rw [Lib.cell_of_heap h]; rfl
  · rw [Lib.cell_of_heap h]; rfl
  · rw [Lib.cell_of_heap h]; rfl
  · rw [Lib.cell_of_heap h]; rfl
theorem rec_below {w0 w : World} {b B : Nat} (h : Below B w0 w) (hb : B ≤ b) (x0 x1 x2 x3 x4 : Value) :
    Below B w0 (((((w.setCell ⟨b, 0, none⟩ x0).setCell ⟨b, 1, none⟩ x1).setCell ⟨b, 2, none⟩ x2).setCell ⟨b, 3, none⟩ x3).setCell ⟨b, 4, none⟩ x4) :=
  ((((h.setCell (p := ⟨b, 0, none⟩) hb x0).setCell (p := ⟨b, 1, none⟩) hb x1).setCell (p := ⟨b, 2, none⟩) hb x2).setCell (p := ⟨b, 3, none⟩) hb x3).setCell (p := ⟨b, 4, none⟩) hb x4

set_option maxHeartbeats 4000000 in
theorem refWith_any (r : Rec) (a a' : Option Addr) (n c n' c' : Nat) (w : World) :
    Calls Tryz.prog 47 #[RV r (.slice a n c), .slice a' n' c'] w fun e w' => e = .returned (RV r (.slice a' n' c')) ∧ Below w.heap.size w w' := by
  unfold RV
  obtain ⟨W0, hW0⟩ : ∃ W0, (w.alloc (.cells #[.int .i64 r.id, .int .i64 r.ver, .int .i64 r.kind, .string (S r.lang), .slice a n c] 33)).alloc (.cells #[.int .i64 0, .int .i64 0, .int .i64 0, .string ⟨#[]⟩, .slice none 0 0] 33) = W0 := ⟨_, rfl⟩
  have b0 : Below w.heap.size w W0 := by rw [← hW0]; exact ((Below.refl w.heap.size w).alloc (Nat.le_refl _) _).alloc (by simp) _
  have hF : W0.heap[w.heap.size]? = some (.cells #[.int .i64 r.id, .int .i64 r.ver, .int .i64 r.kind, .string (S r.lang), .slice a n c] 33 (0, 0)) := by
    rw [← hW0]
    exact (Below.heap_alloc _ _ _ (by simp)).trans (heap_alloc_new w _)
  have hR : W0.heap[w.heap.size + 1]? = some (.cells #[.int .i64 0, .int .i64 0, .int .i64 0, .string ⟨#[]⟩, .slice none 0 0] 33 (0, 0)) := by
    rw [← hW0]
    have := heap_alloc_new (w.alloc (.cells #[.int .i64 r.id, .int .i64 r.ver, .int .i64 r.kind, .string (S r.lang), .slice a n c] 33)) (.cells #[.int .i64 0, .int .i64 0, .int .i64 0, .string ⟨#[]⟩, .slice none 0 0] 33)
    simpa using this
  have HW0 := Lib.hid hW0
  clear hW0
  obtain ⟨⟨p0, p1, p2, p3, _⟩, _⟩ := rec_cells hF
  obtain ⟨⟨r0, r1, r2, r3, r4⟩, g0, g1, g2, g3, g4⟩ := rec_cells hR
  have hfin := Lib.hid (rec_set (x0 := .int .i64 r.id) (x1 := .int .i64 r.ver) (x2 := .int .i64 r.kind) (x3 := .string (S r.lang)) (x4 := .slice a' n' c') hR)
  have Fin := Lib.hid (rec_below (b := w.heap.size + 1) b0 (Nat.le_succ _) (.int .i64 r.id) (.int .i64 r.ver) (.int .i64 r.kind) (.string (S r.lang)) (.slice a' n' c'))
  clear hF hR
  generalize S r.lang = lg at *
  go_enter Tryz.func47, Tryz.ntmps47
  go_upto_region 1 with fail
  rw [HW0.out]
  go_wp2
  (try simp only [Exit.inBlock, Exit.then])
  refine bodyPost_ret (results_cell_row rfl _ _ (w.heap.size + 1) _ _ _ _ rfl hfin.out Tryz.underlying33 rfl (by kernel_rfl)) rfl ?_
  exact ⟨rfl, Fin.out⟩

theorem rec_row {W0 w : World} {v : Value} {L : List Fld} {b B : Nat} (h : FQ W0 B v L w) (hb : b < B) (x0 x1 x2 x3 x4 : Value) :
    FQ W0 B v L (((((w.setCell ⟨b, 0, none⟩ x0).setCell ⟨b, 1, none⟩ x1).setCell ⟨b, 2, none⟩ x2).setCell ⟨b, 3, none⟩ x3).setCell ⟨b, 4, none⟩ x4) :=
  ((((h.put (p := ⟨b, 0, none⟩) hb x0).put (p := ⟨b, 1, none⟩) hb x1).put (p := ⟨b, 2, none⟩) hb x2).put (p := ⟨b, 3, none⟩) hb x3).put (p := ⟨b, 4, none⟩) hb x4
/-- The head of a slice of fields, as it is appended. -/
theorem FL.head {a : Option Addr} {cap : Nat} {L : List Fld} {W0 w : World} (h : FL (.slice a L.length cap) L W0) (i : Nat) (hi : i ≤ L.length) (hb : Below W0.heap.size W0 w) : NW W0 a (L.take i) w := by
  obtain ⟨a1, cap1, us, he, _, _, hn, hl, hq, hx⟩ := h.vals
  obtain ⟨rfl, -, rfl⟩ := Value.slice.inj he
  refine ⟨fun h0 => ?_, fun ad had => ⟨us.take i, by rw [List.length_take, List.length_take, hl], fun j hj => ?_, ?_⟩⟩
  · cases L with
    | nil => simp
    | cons f t =>
      obtain ⟨g, o, h1, _⟩ := hx 0 (by simp)
      rw [h0] at h1
      cases h1
  · rw [List.length_take] at hj
    have := hq j (by omega)
    rwa [List.getD_eq_getElem?_getD, List.getD_eq_getElem?_getD, List.getElem?_take_of_lt (by omega), List.getElem?_take_of_lt (by omega), ← List.getD_eq_getElem?_getD, ← List.getD_eq_getElem?_getD]
  · by_cases hz : i = 0
    · subst hz
      intro j u hu
      simp [cellsF] at hu
    · obtain ⟨g, o, h1, hg, _⟩ := hx 0 (by omega)
      rw [h1] at had
      obtain rfl := Option.some.inj had
      intro j u hu
      have hadd : (⟨g, o, none⟩ : Addr).add j = ⟨g, o + j, none⟩ := by unfold Addr.add; split <;> simp_all
      rw [hadd]
      refine cellsF_news (L.take i) (us.take i) o (by rw [List.length_take, List.length_take, hl]) (fun m hm => ?_) j u hu
      rw [List.length_take] at hm
      obtain ⟨g', o', h1', hg', c0, c1, c2, c3⟩ := hx m (by omega)
      rw [h1] at h1'
      obtain ⟨rfl, rfl⟩ : g = g' ∧ o = o' := by simpa using h1'
      rw [List.getD_eq_getElem?_getD, List.getD_eq_getElem?_getD, List.getElem?_take_of_lt (by omega), List.getElem?_take_of_lt (by omega), ← List.getD_eq_getElem?_getD, ← List.getD_eq_getElem?_getD]
      exact ⟨(hb.cell (p := ⟨g, o + m * 4, none⟩) hg).trans c0, (hb.cell (p := ⟨g, o + m * 4 + 1, none⟩) hg).trans c1, (hb.cell (p := ⟨g, o + m * 4 + 2, none⟩) hg).trans c2, (hb.cell (p := ⟨g, o + m * 4 + 3, none⟩) hg).trans c3⟩
/-- The rest of a slice of fields, as it is appended. -/
theorem FL.tail {a : Option Addr} {cap : Nat} {L : List Fld} {W0 w : World} (h : FL (.slice a L.length cap) L W0) (i : Nat) (hi : i ≤ L.length) (hb : Below W0.heap.size W0 w) (ao : Option Addr) (hao : ∀ ad, a = some ad → i < L.length → ao = some (ad.add (i * 4))) :
    NW W0 ao (L.drop i) w := by
  obtain ⟨a1, cap1, us, he, _, _, hn, hl, hq, hx⟩ := h.vals
  obtain ⟨rfl, -, rfl⟩ := Value.slice.inj he
  have hd : ∀ j, (us.drop i).getD j .nilIface = us.getD (i + j) .nilIface ∧ (L.drop i).getD j fd0 = L.getD (i + j) fd0 := fun j => by
    constructor
    · rw [List.getD_eq_getElem?_getD, List.getElem?_drop, ← List.getD_eq_getElem?_getD]
    · rw [List.getD_eq_getElem?_getD, List.getElem?_drop, ← List.getD_eq_getElem?_getD]
  refine ⟨fun h0 => ?_, fun ad had => ⟨us.drop i, by rw [List.length_drop, List.length_drop, hl], fun j hj => ?_, ?_⟩⟩
  · by_cases hlt : i < L.length
    · obtain ⟨g, o, h1, _⟩ := hx i hlt
      rw [hao _ h1 hlt] at h0
      cases h0
    · exact List.drop_of_length_le (by omega)
  · rw [List.length_drop] at hj
    rw [(hd j).1, (hd j).2]
    exact hq (i + j) (by omega)
  · by_cases hlt : i < L.length
    · obtain ⟨g, o, h1, hg, _⟩ := hx i hlt
      rw [hao _ h1 hlt] at had
      obtain rfl := Option.some.inj had
      intro j u hu
      have hadd : ((⟨g, o, none⟩ : Addr).add (i * 4)).add j = ⟨g, o + i * 4 + j, none⟩ := by
        have e : ∀ (q m : Nat), (⟨g, q, none⟩ : Addr).add m = ⟨g, q + m, none⟩ := fun q m => by unfold Addr.add; split <;> simp_all
        rw [e, e]
      rw [hadd]
      refine cellsF_news (L.drop i) (us.drop i) (o + i * 4) (by rw [List.length_drop, List.length_drop, hl]) (fun m hm => ?_) j u hu
      rw [List.length_drop] at hm
      obtain ⟨g', o', h1', hg', c0, c1, c2, c3⟩ := hx (i + m) (by omega)
      rw [h1] at h1'
      obtain ⟨rfl, rfl⟩ : g = g' ∧ o = o' := by simpa using h1'
      rw [(hd m).1, (hd m).2, show o + i * 4 + m * 4 = o + (i + m) * 4 by omega]
      exact ⟨(hb.cell (p := ⟨g, o + (i + m) * 4, none⟩) hg).trans c0, (hb.cell (p := ⟨g, o + (i + m) * 4 + 1, none⟩) hg).trans c1, (hb.cell (p := ⟨g, o + (i + m) * 4 + 2, none⟩) hg).trans c2, (hb.cell (p := ⟨g, o + (i + m) * 4 + 3, none⟩) hg).trans c3⟩
    · intro j u hu
      rw [List.drop_of_length_le (show L.length ≤ i by omega)] at hu
      simp [cellsF] at hu
end

section
open Go.RowKit Go.PlainAid
/-- A slice of fields that isn't nil, as it is appended whole. -/
theorem FL.whole {ad : Addr} {cap : Nat} {L : List Fld} {W0 w : World} (h : FL (.slice (some ad) L.length cap) L W0) (hb : Below W0.heap.size W0 w) : NW W0 (some ad) L w := by
  have := h.head L.length (Nat.le_refl _) hb
  rwa [List.take_length] at this

set_option maxHeartbeats 8000000 in
theorem fclone_any (V : World) (L : List Fld) (u : Value) (w : World) (hV : Below V.heap.size V w) (hu : FL u L V) (hs : L.length ≤ 100000) :
    Calls Tryz.prog 78 #[u] w fun e w' => ∃ v', e = .returned v' ∧ FQ V w.heap.size v' L w' ∧ Below w.heap.size w w' := by
  have q22 : ∀ (w : World) (a : Option Addr) (n c n' c' : Nat), (binOp .eql 31 (.slice a n c) (.slice none n' c')).run Tryz.prog w = .ok (.bool a.isNone) w := fun w a n c n' c' => Lib.run_eql_slice_nil w _ _ a n c n' c' Tryz.underlying31
  obtain ⟨a, cap, rfl, hcap, hmax, hn, _⟩ := id hu
  cases a with
  | none =>
    obtain rfl := hn rfl
    have h0 : L = [] := List.eq_nil_of_length_eq_zero (by omega)
    subst h0
    clear hu
    go_enter Tryz.func78, Tryz.ntmps78
    go_wp2
    go_ret
    exact ⟨_, rfl, FQ.nil _ _ _, Below.refl _ _⟩
  | some ad =>
    have HU := Lib.hid hu
    have hE := Lib.hid (FQ.empty V w w.heap.size (Nat.le_refl _))
    have hbE := Lib.hid ((Below.refl w.heap.size w).alloc (Nat.le_refl _) (.cells #[] 24))
    have HNW := Lib.hid (hu.whole (hV.trans (hbE.out.mono hV.size)))
    have HL1 : RowKit.Hid (([] : List Fld).length + L.length ≤ 100000) := by unfold RowKit.Hid; rw [List.length_nil]; omega
    unfold maxLen at hmax
    obtain ⟨n, hnn⟩ : ∃ n, L.length = n := ⟨_, rfl⟩
    have HN := Lib.hid hnn
    rw [hnn] at hcap hs ⊢
    clear hu hnn hn
    go_enter Tryz.func78, Tryz.ntmps78
    go_wp2_with (at_builtin; refine append_fr _ rfl _ _ rfl V w.heap.size _ [] rfl hE.out (some ad) L n cap rfl HN.out (fun h => by cases h) HNW.out HL1.out (by simp) w.heap.size w (Nat.le_refl _) hbE.out ?_; intro v2 w2 hfr2 hb2 hB2 hn2)
    have HFR2 := Lib.hid hfr2
    have HB2 := Lib.hid hb2
    obtain ⟨us, _, hown, _⟩ := hfr2
    obtain ⟨ao, cp, rfl⟩ := own_form hown
    clear hown hb2 hn2
    go_wp2
    go_ret
    exact ⟨_, rfl, HFR2.out, HB2.out⟩
end

section
open Go.RowKit Go.PlainAid
def mixL (c : Fld → Fld) (k : Nat) (L : List Fld) : List Fld := (L.take k).map c ++ L.drop k
theorem mixL_len (c : Fld → Fld) (k : Nat) (L : List Fld) : (mixL c k L).length = L.length := by
  unfold mixL
  rw [List.length_append, List.length_map, ← List.length_append, List.take_append_drop]
theorem mixL_zero (c : Fld → Fld) (L : List Fld) : mixL c 0 L = L := by simp [mixL]
theorem mixL_all (c : Fld → Fld) (L : List Fld) : mixL c L.length L = L.map c := by simp [mixL]
theorem mixL_at (c : Fld → Fld) (k : Nat) (L : List Fld) (i : Nat) (hi : i < L.length) : (mixL c k L).getD i fd0 = if i < k then c (L.getD i fd0) else L.getD i fd0 := by
  unfold mixL
  rw [List.getD_eq_getElem?_getD, List.getD_eq_getElem?_getD]
  by_cases h : i < k
  · rw [if_pos h, List.getElem?_append_left (by rw [List.length_map, List.length_take]; omega), List.getElem?_map, List.getElem?_take_of_lt h, List.getElem?_eq_getElem hi]
    rfl
  · rw [if_neg h]
    by_cases hk : k ≤ L.length
    · have hl : ((L.take k).map c).length = k := by rw [List.length_map, List.length_take]; omega
      rw [List.getElem?_append_right (by omega), hl, List.getElem?_drop, show k + (i - k) = i by omega]
    · omega
theorem mixL_succ (c : Fld → Fld) (k : Nat) (L : List Fld) (hk : k < L.length) : mixL c (k + 1) L = (mixL c k L).set k (c (L.getD k fd0)) := by
  refine List.ext_getElem? fun i => ?_
  by_cases hi : i < L.length
  · have h1 := mixL_at c (k + 1) L i hi
    have h2 := mixL_at c k L i hi
    have e : ∀ (M : List Fld), M.length = L.length → M[i]? = some (M.getD i fd0) := fun M hM => by
      rw [List.getD_eq_getElem?_getD, List.getElem?_eq_getElem (by omega)]
      rfl
    rw [e _ (mixL_len _ _ _), h1]
    by_cases hik : i = k
    · subst hik
      rw [List.getElem?_set_self (by rw [mixL_len]; exact hi), if_pos (by omega)]
    · rw [List.getElem?_set_ne (fun h => hik h.symm), e _ (mixL_len _ _ _), h2]
      by_cases h : i < k
      · rw [if_pos (by omega), if_pos h]
      · rw [if_neg (by omega), if_neg h]
  · rw [List.getElem?_eq_none (by rw [mixL_len]; omega), List.getElem?_eq_none (by rw [List.length_set, mixL_len]; omega)]
theorem cellsF_set : ∀ (L : List Fld) (us : List Value) (i : Nat) (f : Fld) (u : Value), us.length = L.length → i < L.length →
    cellsF (L.set i f) (us.set i u) = ((((cellsF L us).set (i * 4) (.string (S f.tag))).set (i * 4 + 1) (.string (S f.ind))).set (i * 4 + 2) u).set (i * 4 + 3) (.int .i64 f.auth)
  | [], _, _, _, _, _, h => by cases h
  | a :: s, x :: xs, 0, f, u, _, _ => rfl
  | a :: s, x :: xs, i + 1, f, u, hl, h => by
    have ih := cellsF_set s xs i f u (by simpa using hl) (by simpa using h)
    have e : cellsF (a :: s) (x :: xs) = .string (S a.tag) :: .string (S a.ind) :: x :: .int .i64 a.auth :: cellsF s xs := rfl
    show cellsF (a :: s.set i f) (x :: xs.set i u) = _
    have e2 : cellsF (a :: s.set i f) (x :: xs.set i u) = .string (S a.tag) :: .string (S a.ind) :: x :: .int .i64 a.auth :: cellsF (s.set i f) (xs.set i u) := rfl
    rw [e2, ih, e, show (i + 1) * 4 = i * 4 + 1 + 1 + 1 + 1 by omega]
    rfl

/-- The row in which the first k fields are changed. -/
def CH (V : World) (B : Nat) (v : Value) (c : Fld → Fld) (L : List Fld) (k : Nat) (w : World) : Prop :=
  ∃ us : List Value, us.length = L.length ∧ w.ownsRow B 24 4 v L.length (cellsF (mixL c k L) us) ∧
    (∀ i, i < k → i < L.length → NewX B v.ownBlock (QL (us.getD i .nilIface) (c (L.getD i fd0)).subs) w) ∧ (∀ i, k ≤ i → i < L.length → QL (us.getD i .nilIface) (L.getD i fd0).subs V)
theorem CH.start {V : World} {B : Nat} {v : Value} {c : Fld → Fld} {L : List Fld} {w : World} (h : FQ V B v L w) : CH V B v c L 0 w := by
  obtain ⟨us, h1, h2, h3⟩ := h
  exact ⟨us, h1, by rw [mixL_zero]; exact h2, fun i hi => by omega, fun i _ hi => h3 i hi⟩
theorem CH.on {V : World} {B : Nat} {v : Value} {c : Fld → Fld} {L : List Fld} {k : Nat} {w w' : World} (h : CH V B v c L k w) (hs : w.heap.size ≤ w'.heap.size) (hb : ∀ i, B ≤ i → i < w.heap.size → w'.heap[i]? = w.heap[i]?) : CH V B v c L k w' := by
  obtain ⟨us, h1, h2, h3, h4⟩ := h
  exact ⟨us, h1, own_same h2 hb, fun i hi hl => (h3 i hi hl).on hs (fun j hj hk _ => hb j hj hk), h4⟩
theorem CH.after {V : World} {B : Nat} {v : Value} {c : Fld → Fld} {L : List Fld} {k : Nat} {w w' : World} (h : CH V B v c L k w) (hb : Below w.heap.size w w') : CH V B v c L k w' :=
  h.on hb.size fun i _ hi => hb.block i hi
theorem CH.form {V : World} {B : Nat} {v : Value} {c : Fld → Fld} {L : List Fld} {k : Nat} {w : World} (h : CH V B v c L k w) : ∃ ao cp, v = .slice ao L.length cp := by
  obtain ⟨us, _, h2, _⟩ := h
  exact own_form h2
theorem CH.fn {V : World} {B : Nat} {v : Value} {c : Fld → Fld} {L : List Fld} {w : World} (h : CH V B v c L L.length w) : FN B v (L.map c) w := by
  obtain ⟨us, h1, h2, h3, _⟩ := h
  rw [mixL_all] at h2
  refine ⟨us, by rw [List.length_map]; exact h1, by rw [List.length_map]; exact h2, fun i hi => ?_⟩
  rw [List.length_map] at hi
  have := h3 i hi hi
  rw [List.getD_eq_getElem?_getD, List.getD_eq_getElem?_getD, List.getElem?_eq_getElem hi] at this
  rw [List.getD_eq_getElem?_getD, List.getD_eq_getElem?_getD, List.getElem?_map, List.getElem?_eq_getElem hi]
  exact this
/-- What lies at the next field's place. -/
theorem CH.open {V : World} {B : Nat} {v : Value} {c : Fld → Fld} {L : List Fld} {k : Nat} {w : World} (h : CH V B v c L k w) (hk : k < L.length) :
    ∃ g cap u, v = .slice (some ⟨g, 0, none⟩) L.length cap ∧ B ≤ g ∧ g < w.heap.size ∧ L.length ≤ cap ∧ cap ≤ maxLen ∧
    (w.cell? ⟨g, k * 4, none⟩ = some (.string (S (L.getD k fd0).tag)) ∧ w.cell? ⟨g, k * 4 + 1, none⟩ = some (.string (S (L.getD k fd0).ind)) ∧ w.cell? ⟨g, k * 4 + 2, none⟩ = some u ∧ w.cell? ⟨g, k * 4 + 3, none⟩ = some (.int .i64 (L.getD k fd0).auth)) ∧
    (∀ p, w.frozen? ⟨g, p, none⟩ = false) ∧ QL u (L.getD k fd0).subs V := by
  obtain ⟨us, h1, h2, h3, h4⟩ := h
  rcases h2.2 with ⟨_, h0⟩ | ⟨g, cap, cur, rfl, hb, hg, hc, hm, hs, ht⟩
  · omega
  · have hadd : ∀ j, (⟨g, 0, none⟩ : Addr).add j = ⟨g, j, none⟩ := fun j => by unfold Addr.add; split <;> simp_all
    have hcc := cellsF_at (mixL c k L) us k (by rw [mixL_len]; exact h1) (by rw [mixL_len]; exact hk)
    rw [mixL_at c k L k hk, if_neg (Nat.lt_irrefl _)] at hcc
    have t0 := h2.cells (g := g) rfl _ _ hcc.1
    have t1 := h2.cells (g := g) rfl _ _ hcc.2.1
    have t2 := h2.cells (g := g) rfl _ _ hcc.2.2.1
    have t3 := h2.cells (g := g) rfl _ _ hcc.2.2.2
    rw [hadd] at t0 t1 t2 t3
    exact ⟨g, cap, us.getD k .nilIface, rfl, hb, (Array.getElem?_eq_some_iff.1 hg).1, hc, hm, ⟨t0, t1, t2, t3⟩, fun p => Lib.frozen_of_heap hg p, h4 k (Nat.le_refl _) hk⟩
def setF4at (w : World) (g p : Nat) (x0 x1 x2 x3 : Value) : World := (((w.setCell ⟨g, p, none⟩ x0).setCell ⟨g, p + 1, none⟩ x1).setCell ⟨g, p + 2, none⟩ x2).setCell ⟨g, p + 3, none⟩ x3
theorem row_set14 {B e s n : Nat} {w : World} {xs : List Value} {g cap : Nat} (h : w.ownsRow B e s (.slice (some ⟨g, 0, none⟩) n cap) n xs) (p : Nat) (u : Value) :
    (w.setCell ⟨g, p, none⟩ u).ownsRow B e s (.slice (some ⟨g, 0, none⟩) n cap) n (xs.set p u) := own_set h u
theorem setF4at_other {w : World} {g p : Nat} (x0 x1 x2 x3 : Value) (i : Nat) (hi : i ≠ g) : (setF4at w g p x0 x1 x2 x3).heap[i]? = w.heap[i]? := by
  unfold setF4at
  rw [heap_setn _ _ _ _ hi, heap_setn _ _ _ _ hi, heap_setn _ _ _ _ hi, heap_setn _ _ _ _ hi]
theorem setF4at_size (w : World) (g p : Nat) (x0 x1 x2 x3 : Value) : (setF4at w g p x0 x1 x2 x3).heap.size = w.heap.size := by
  unfold setF4at
  simp [World.setCell]
theorem setF4at_below {w0 w : World} {g B : Nat} (h : Below B w0 w) (hb : B ≤ g) (p : Nat) (x0 x1 x2 x3 : Value) : Below B w0 (setF4at w g p x0 x1 x2 x3) :=
  (((h.setCell (p := ⟨g, p, none⟩) hb x0).setCell (p := ⟨g, p + 1, none⟩) hb x1).setCell (p := ⟨g, p + 2, none⟩) hb x2).setCell (p := ⟨g, p + 3, none⟩) hb x3
/-- The next field is stored. -/
theorem CH.put {V : World} {B : Nat} {c : Fld → Fld} {L : List Fld} {k n : Nat} {w : World} {g cap N : Nat} (h : CH V B (.slice (some ⟨g, 0, none⟩) n cap) c L k w) (hn : L.length = n) (hk : k < n) (u : Value)
    (hu : New N (QL u (c (L.getD k fd0)).subs) w) (hN : g < N) (hBN : B ≤ N) :
    CH V B (.slice (some ⟨g, 0, none⟩) n cap) c L (k + 1) (setF4at w g (k * 4) (.string (S (c (L.getD k fd0)).tag)) (.string (S (c (L.getD k fd0)).ind)) u (.int .i64 (c (L.getD k fd0)).auth)) := by
  subst hn
  obtain ⟨us, h1, h2, h3, h4⟩ := h
  have hob : (Value.slice (some ⟨g, 0, none⟩) L.length cap).ownBlock = some g := rfl
  have hmv : ∀ {P : World → Prop}, NewX B (some g) P w → NewX B (some g) P (setF4at w g (k * 4) (.string (S (c (L.getD k fd0)).tag)) (.string (S (c (L.getD k fd0)).ind)) u (.int .i64 (c (L.getD k fd0)).auth)) :=
    fun hp => hp.on (Nat.le_of_eq (setF4at_size _ _ _ _ _ _ _).symm) (fun i _ _ hne => setF4at_other _ _ _ _ i (fun e => hne (by rw [e])))
  have hkl : k < us.length := by omega
  refine ⟨us.set k u, by rw [List.length_set]; exact h1, ?_, fun i hi hl => ?_, fun i hi hl => ?_⟩
  · rw [mixL_succ c k L hk, cellsF_set _ _ _ _ _ (by rw [mixL_len]; exact h1) (by rw [mixL_len]; exact hk)]
    exact row_set14 (row_set14 (row_set14 (row_set14 h2 _ _) _ _) _ _) _ _
  · rw [hob]
    rw [hob] at h3
    rw [List.getD_eq_getElem?_getD]
    by_cases hik : i = k
    · subst hik
      rw [List.getElem?_set_self hkl]
      exact hmv (NewX.of hu hBN (fun j hj => by cases hj; exact hN))
    · rw [List.getElem?_set_ne (fun e => hik e.symm), ← List.getD_eq_getElem?_getD]
      exact hmv (h3 i (by omega) hl)
  · rw [List.getD_eq_getElem?_getD, List.getElem?_set_ne (by omega), ← List.getD_eq_getElem?_getD]
    exact h4 i (by omega) hl
theorem SB.new {B : Nat} {v : Value} {L : List Sub} {w : World} (h : SB B v L w) : New B (QL v L) w := fun _ _ hb => (h.kept hb).ql
end

section
open Go.RowKit Go.PlainAid
set_option maxHeartbeats 8000000 in
set_option maxRecDepth 100000 in
theorem loose_any (f : Fld) (u : Value) (w : World) (hS : ST w) (hu : QL u f.subs w) :
    Calls Tryz.prog 38 #[FV f u] w fun e w' => e = .returned (.bool (looseX f)) ∧ Below w.heap.size w w' := by
  obtain ⟨Q, hQ⟩ : ∃ Q, (fun (e : Ending) (w' : World) => e = .returned (.bool (looseX f)) ∧ Below w.heap.size w w') = Q := ⟨_, rfl⟩
  rw [hQ]
  have b0 : Below w.heap.size w (w.alloc (.cells #[.string (S f.tag), .string (S f.ind), u, .int .i64 f.auth] 24)) := (Below.refl w.heap.size w).alloc (Nat.le_refl _) _
  have cK := Lib.hid (pKind_any f.tag _ (hS.after b0))
  have HQ : RowKit.Hid (∀ b W, looseX f = b → Below w.heap.size w W → Q (.returned (.bool b)) W) := by
    rw [← hQ]
    exact fun b W h1 h2 => ⟨by rw [h1], h2⟩
  have HX : RowKit.Hid (looseX f = (decide (f.auth = 0) && !decide (kindX f.tag = 0))) := rfl
  have HB0 := Lib.hid b0
  unfold FV
  obtain ⟨a, cap, rfl, _, _⟩ := hu.length
  clear hQ hu hS b0
  generalize f.subs.length = n at *
  generalize kindX f.tag = kd at *
  generalize looseX f = res at *
  generalize S f.tag = t0 at *
  generalize S f.ind = t1 at *
  generalize f.auth = t3 at *
  by_cases h0 : t3 = 0
  · subst h0
    go_enter Tryz.func38, Tryz.ntmps38
    go_wp2_with fail
    refine cK.out.mono ?_
    rintro e w1 ⟨rfl, hb1⟩
    have HB1 := Lib.hid (HB0.out.trans (hb1.mono HB0.out.size))
    clear hb1 cK
    by_cases hk : kd = 0
    · subst hk
      have HG := Lib.hid (HQ.out false w1 (by rw [HX.out]; rfl) HB1.out)
      clear HQ HX
      go_wp2
      first | exact HG.out | (go_ret; exact HG.out)
    · have t : (kd != 0) = true := by simpa using hk
      have HG := Lib.hid (HQ.out true w1 (by rw [HX.out]; simp [hk]) HB1.out)
      clear HQ HX hk
      go_wp2
      first | exact HG.out | (go_ret; exact HG.out)
  · have t : (t3 == 0) = false := by simpa using h0
    have HG := Lib.hid (HQ.out false _ (by rw [HX.out, decide_eq_false h0, Bool.false_and]) HB0.out)
    clear HQ HX h0 cK
    go_enter Tryz.func38, Tryz.ntmps38
    go_wp2
    first | exact HG.out | (go_ret; exact HG.out)
/-- What a call of a field's function leaves: the subfields that came in, or new ones. -/
def Res14 (W : World) (v : Value) (f g : Fld) (u' : Value) (W' : World) : Prop := (u' = v ∧ g.subs = f.subs) ∨ New W.heap.size (QL u' g.subs) W'
theorem Res14.new {W W' : World} {v u' : Value} {f g : Fld} {N : Nat} (h : Res14 W v f g u' W') (hs : New N (QL v f.subs) W) (hN : N ≤ W.heap.size) (hb : Below W.heap.size W W') : New N (QL u' g.subs) W' := by
  rcases h with ⟨rfl, h⟩ | h
  · rw [h]
    exact hs.after hb
  · exact h.mono hN
/-- A field's box is handed back, with another authority. -/
theorem auth_end {W W1 : World} {f : Fld} {v : Value} (x : Int) (hR1 : W1.heap[W.heap.size + 1]? = some (.cells #[.string ⟨#[]⟩, .string ⟨#[]⟩, .slice none 0 0, .int .i64 0] 24 (0, 0))) (hb1 : Below W.heap.size W W1) :
    (setF4 W1 (W.heap.size + 1) (.string (S f.tag)) (.string (S f.ind)) v (.int .i64 x)).heap[W.heap.size + 1]? = some (.cells #[.string (S f.tag), .string (S f.ind), v, .int .i64 x] 24 (0, 0)) ∧
    Below W.heap.size W (setF4 W1 (W.heap.size + 1) (.string (S f.tag)) (.string (S f.ind)) v (.int .i64 x)) :=
  ⟨setF4_heap hR1, setF4_below hb1 (Nat.le_succ _) (.string (S f.tag)) (.string (S f.ind)) v (.int .i64 x)⟩
end

section
open Go.RowKit Go.PlainAid
theorem run_append_noneC {P : Program} {w : World} (base : Nat) (t ty e : TypeId) (i : TypeInfo) (size : Nat) (ht : P.underlying t = some (.slice e)) (hi : P.info? e = some i)
    (v : Value) (n c : Nat) (xs : List Value) (hown : w.ownsRow base e size v n xs) :
    (Builtin.append_ #[t, t] ty #[v, .slice none 0 c]).run P w = .ok v w := by
  rcases hown.2 with ⟨rfl, rfl⟩ | ⟨g, cap, cur, rfl, _, _, hnc, _⟩
  · simp [Builtin.append_, run_underlying ht, sizeOf, typeInfo, hi, Builtin.lenOf, Builtin.firstCells]
  · simp [Builtin.append_, run_underlying ht, sizeOf, typeInfo, hi, Builtin.lenOf, Builtin.firstCells, hnc, storeCells]

/-- What lies in a slice, cell by cell. -/
def Src (u : Value) (n : Nat) (xs : List Value) (w : World) : Prop :=
  (∃ c, u = .slice none 0 c ∧ n = 0 ∧ xs = []) ∨ ∃ ad c, u = .slice (some ad) n c ∧ ∀ j x, xs[j]? = some x → w.cell? (ad.add j) = some x
theorem Src.of_bl {u : Value} {L : List (List UInt8)} {w : World} (h : BL u L w) : Src u L.length (L.map strB) w := by
  rcases h.none_or with ⟨rfl, rfl⟩ | ⟨ad, c, rfl, _, _, hx⟩
  · exact .inl ⟨0, rfl, rfl, rfl⟩
  · exact .inr ⟨ad, c, rfl, hx⟩
theorem Src.of_il {u : Value} {l : List Int} {w : World} (h : IL u l w) : Src u l.length (l.map intV) w := by
  obtain ⟨a, c, rfl, hc, hx⟩ := h
  cases a with
  | none =>
    have h0 : l = [] := by
      cases l with
      | nil => rfl
      | cons y r =>
        obtain ⟨g, o, h1, _⟩ := hx 0 y rfl
        cases h1
    subst h0
    exact .inl ⟨c, rfl, rfl, rfl⟩
  | some ad =>
    refine .inr ⟨ad, c, rfl, fun j x hj => ?_⟩
    rw [List.getElem?_map, Option.map_eq_some_iff] at hj
    obtain ⟨y, hy, rfl⟩ := hj
    obtain ⟨g, o, h1, h2, h3⟩ := hx j y hy
    obtain rfl := Option.some.inj h1
    have hadd : (⟨g, o, none⟩ : Addr).add j = ⟨g, o + j, none⟩ := by unfold Addr.add; split <;> simp_all
    rw [hadd]
    exact h3
theorem Src.after {u : Value} {n : Nat} {xs : List Value} {w w' : World} (h : Src u n xs w) (hb : Below w.heap.size w w') : Src u n xs w' := by
  rcases h with h | ⟨ad, c, rfl, hx⟩
  · exact .inl h
  · refine .inr ⟨ad, c, rfl, fun j x hj => ?_⟩
    have hc := hx j x hj
    have hlt : (ad.add j).block < w.heap.size := by
      rcases Nat.lt_or_ge (ad.add j).block w.heap.size with h' | h'
      · exact h'
      · simp [World.cell?, Array.getElem?_eq_none h'] at hc
    exact (hb.cell hlt).trans hc
theorem append_src_block {P : Program} (w : World) (base : Nat) (t ty e : TypeId) (i : TypeInfo) (z : Value) (size bytes : Nat) (ht : P.underlying t = some (.slice e)) (hi : P.info? e = some i) (hz : i.zero = some z)
    (hsize : i.size = size) (hby : i.bytes = bytes) (hzs : z.cells.size = size) (hsz : 0 < size) (v : Value) (n : Nat) (xs : List Value) (hown : w.ownsRow base e size v n xs) (hvn : v ≠ .slice none 0 0)
    (u : Value) (m : Nat) (news : List Value) (hs : Src u m news w) (hl : news.length = m * size) (h1 : ∀ u ∈ news, u.oneCell' = true)
    (h63 : n + m ≤ maxLen) (hbytes : (n + m) * bytes ≤ 140737488355328) (hbase : base ≤ w.heap.size) :
    ∃ v' w', (Builtin.append_ #[t, t] ty #[v, u]).run P w = .ok v' w' ∧ w'.ownsRow base e size v' (n + m) (xs ++ news) ∧ w.grownBy w' v.ownBlock ∧ v' ≠ .slice none 0 0 ∧ (v'.ownBlock = v.ownBlock ∨ v'.ownBlock = some w.heap.size) := by
  rcases hs with ⟨c, rfl, rfl, rfl⟩ | ⟨ad, c, rfl, hx⟩
  · exact ⟨v, w, run_append_noneC base t ty e i size ht hi v n c xs hown, by rw [List.append_nil]; exact hown, ⟨rfl, rfl, rfl, Nat.le_refl _, fun _ _ _ => rfl⟩, hvn, .inl rfl⟩
  · obtain ⟨v', w', hr, h2, h3, h4⟩ := run_append_own (P := P) w base t ty e i z size bytes ht hi hz hsize hby hzs hsz v n xs hown ad m c news hl hx h1 h63 hbytes hbase
    refine ⟨v', w', hr, h2, h3, fun he => hvn (h4.1 he).1, ?_⟩
    rcases Nat.eq_zero_or_pos m with rfl | hm
    · -- nothing is appended
      rcases hown.2 with ⟨rfl, _⟩ | ⟨g, cap, cur, rfl, hbg, hg, hnc, hcm, hcs, htake⟩
      · exact absurd rfl hvn
      · have hfit : n * i.size + news.length ≤ cur.size := by
          rw [hl, hcs, ← hsize, Nat.zero_mul]
          exact Nat.mul_le_mul_right _ hnc
        have h5 := run_append_room (P := P) w t ty e i ht hi g n cap cur hg ad 0 c news (by rw [hl, hsize]) hx h1 hnc hfit
        rw [hr] at h5
        injection h5 with h6 h7
        rw [h6]
        exact .inl rfl
    · exact append_block w base t ty e i z size bytes ht hi hz hsize hby v n xs hown ad m c news hl hx h1 hm h63 hbytes v' w' hr
/-- append of what lies in any slice to a row of the call's own that isn't nil, where the walk stands at it. -/
theorem wpList_append_src {P : Program} (w : World) {ops : Array Oper} {rest : List Oper} {o : Oper} {a : Act} {Q : Exit → Act → World → Prop} (hgd : o.guard = none) (s x : Operand) (t : TypeId)
    (ho : o.op = .call { callee := .builtin .append, args := #[s, x], argTypes := #[t, t] })
    (base : Nat) (e : TypeId) (i : TypeInfo) (z : Value) (size bytes : Nat) (ht : P.underlying t = some (.slice e)) (hi : P.info? e = some i) (hz : i.zero = some z)
    (hsize : i.size = size) (hby : i.bytes = bytes) (hzs : z.cells.size = size) (hsz : 0 < size) (v : Value) (n : Nat) (xs : List Value) (hs : a.eval s = v) (hown : w.ownsRow base e size v n xs) (hvn : v ≠ .slice none 0 0)
    (u : Value) (m : Nat) (news : List Value) (hx : a.eval x = u) (hsrc : Src u m news w) (hl : news.length = m * size) (h1 : ∀ u ∈ news, u.oneCell' = true)
    (h63 : n + m ≤ maxLen) (hbytes : (n + m) * bytes ≤ 140737488355328) (hbase : base ≤ w.heap.size)
    (h : ∀ v' w', w'.ownsRow base e size v' (n + m) (xs ++ news) → w.grownBy w' v.ownBlock → v' ≠ .slice none 0 0 → (v'.ownBlock = v.ownBlock ∨ v'.ownBlock = some w.heap.size) → wpList P ops Q rest (a.put o.dst v') w') : wpList P ops Q (o :: rest) a w :=
  wpList_plain hgd fun K hK => by
    obtain ⟨v', w', hr, h2, h3, h4, h5⟩ := append_src_block (P := P) w base t o.type e i z size bytes ht hi hz hsize hby hzs hsz v n xs hown hvn u m news hsrc hl h1 h63 hbytes hbase
    have h6 : K (a.put o.dst v') w' := hK _ _ (h v' w' h2 h3 h4 h5)
    unfold Oper.wp execOp
    simp only [ho, resolve, invoke, builtin, Sem.run_bind, Sem.run_pure, Result.andThen_ok, List.map_toArray, List.map_cons, List.map_nil, hs, hx, hr]
    exact h6
theorem strB_one (L : List (List UInt8)) : ∀ u ∈ L.map strB, u.oneCell' = true := by
  intro u hu
  obtain ⟨x, _, rfl⟩ := List.mem_map.1 hu
  rfl
theorem intV_one (l : List Int) : ∀ u ∈ l.map intV, u.oneCell' = true := by
  intro u hu
  obtain ⟨x, _, rfl⟩ := List.mem_map.1 hu
  rfl
/-- .. of texts. -/
theorem append_sS {ops : Array Oper} {rest : List Oper} {o : Oper} {a : Act} {Q : Exit → Act → World → Prop} (w : World) (hgd : o.guard = none) (s x : Operand)
    (ho : o.op = .call { callee := .builtin .append, args := #[s, x], argTypes := #[54, 54] })
    (B : Nat) (v : Value) (M : List (List UInt8)) (hs : a.eval s = v) (hown : NR B v M w) (hvn : v ≠ .slice none 0 0) (u : Value) (R : List (List UInt8)) (hx : a.eval x = u) (hu : BL u R w)
    (hz : M.length + R.length ≤ 1000000) (hbase : B ≤ w.heap.size)
    (h : ∀ v' w', NR B v' (M ++ R) w' → w.grownBy w' v.ownBlock → v' ≠ .slice none 0 0 → (v'.ownBlock = v.ownBlock ∨ v'.ownBlock = some w.heap.size) → wpList Tryz.prog ops Q rest (a.put o.dst v') w') : wpList Tryz.prog ops Q (o :: rest) a w := by
  obtain ⟨i0, hi, hz0, hz1, hz2⟩ := info_string
  refine wpList_append_src w hgd s x 54 ho B 9 i0 (.string ⟨#[]⟩) 1 16 Tryz.underlying54 hi hz0 hz1 hz2 rfl (by decide) v M.length (M.map strB) hs hown hvn u R.length (R.map strB) hx (Src.of_bl hu) (by simp) (strB_one R) (by unfold maxLen; omega) (by omega) hbase ?_
  intro v' w' h1 h2 h3 h4
  exact h v' w' (by unfold NR; rw [List.length_append, List.map_append]; exact h1) h2 h3 h4
/-- .. of integers. -/
theorem append_sI {ops : Array Oper} {rest : List Oper} {o : Oper} {a : Act} {Q : Exit → Act → World → Prop} (w : World) (hgd : o.guard = none) (s x : Operand)
    (ho : o.op = .call { callee := .builtin .append, args := #[s, x], argTypes := #[38, 38] })
    (B : Nat) (v : Value) (M : List Int) (hs : a.eval s = v) (hown : IR B v M w) (hvn : v ≠ .slice none 0 0) (u : Value) (R : List Int) (hx : a.eval x = u) (hu : IL u R w)
    (hz : M.length + R.length ≤ 1000000) (hbase : B ≤ w.heap.size)
    (h : ∀ v' w', IR B v' (M ++ R) w' → w.grownBy w' v.ownBlock → v' ≠ .slice none 0 0 → (v'.ownBlock = v.ownBlock ∨ v'.ownBlock = some w.heap.size) → wpList Tryz.prog ops Q rest (a.put o.dst v') w') : wpList Tryz.prog ops Q (o :: rest) a w := by
  obtain ⟨i0, hi, hz0, hz1, hz2⟩ := info_int13
  refine wpList_append_src w hgd s x 38 ho B 3 i0 (.int .i64 0) 1 8 Tryz.underlying38 hi hz0 hz1 hz2 rfl (by decide) v M.length (M.map intV) hs hown hvn u R.length (R.map intV) hx (Src.of_il hu) (by simp) (intV_one R) (by unfold maxLen; omega) (by omega) hbase ?_
  intro v' w' h1 h2 h3 h4
  exact h v' w' (by unfold IR; rw [List.length_append, List.map_append]; exact h1) h2 h3 h4
theorem emptyNR (w : World) : NR w.heap.size (.slice (some ⟨w.heap.size, 0, none⟩) 0 0) [] (w.alloc (.cells #[] 9)) :=
  ⟨rfl, .inr ⟨w.heap.size, 0, #[], rfl, Nat.le_refl _, heap_alloc_new w _, Nat.le_refl _, Nat.zero_le _, rfl, rfl⟩⟩
theorem emptyIR (w : World) : IR w.heap.size (.slice (some ⟨w.heap.size, 0, none⟩) 0 0) [] (w.alloc (.cells #[] 3)) :=
  ⟨rfl, .inr ⟨w.heap.size, 0, #[], rfl, Nat.le_refl _, heap_alloc_new w _, Nat.le_refl _, Nat.zero_le _, rfl, rfl⟩⟩
theorem own_form13 {B e size n : Nat} {v : Value} {xs : List Value} {w : World} (h : w.ownsRow B e size v n xs) : ∃ a c, v = .slice a n c ∧ n ≤ c ∧ c ≤ maxLen := by
  rcases h.2 with ⟨rfl, h0⟩ | ⟨g, cap, cur, rfl, hb, hg, hc, hm, hs, ht⟩
  · exact ⟨none, 0, by rw [h0], by omega, Nat.zero_le _⟩
  · exact ⟨_, _, rfl, hc, hm⟩

set_option maxHeartbeats 8000000 in
theorem cloneS_any (L : List (List UInt8)) (u : Value) (w : World) (hu : BL u L w) (hs : L.length ≤ 100000) :
    Calls Tryz.prog 155 #[u] w fun e w' => ∃ v', e = .returned v' ∧ NR w.heap.size v' L w' ∧ Below w.heap.size w w' := by
  have q22 : ∀ (w : World) (a : Option Addr) (n c n' c' : Nat), (binOp .eql 54 (.slice a n c) (.slice none n' c')).run Tryz.prog w = .ok (.bool a.isNone) w := fun w a n c n' c' => Lib.run_eql_slice_nil w _ _ a n c n' c' Tryz.underlying54
  obtain ⟨a, cap, rfl, hcap, hmax, hn, _⟩ := id hu
  cases a with
  | none =>
    obtain rfl := hn rfl
    have h0 : L = [] := List.eq_nil_of_length_eq_zero (by omega)
    subst h0
    clear hu
    go_enter Tryz.func155, Tryz.ntmps155
    go_wp2
    go_ret
    exact ⟨_, rfl, NR.none _ _, Below.refl _ _⟩
  | some ad =>
    have HE := Lib.hid (emptyNR w)
    have hbE := Lib.hid ((Below.refl w.heap.size w).alloc (Nat.le_refl _) (.cells #[] 9))
    have HU := Lib.hid (hu.after hbE.out)
    obtain ⟨n, hnn⟩ : ∃ n, L.length = n := ⟨_, rfl⟩
    have HN := Lib.hid hnn
    rw [hnn] at hcap hs HU ⊢
    have HZ : RowKit.Hid (([] : List (List UInt8)).length + L.length ≤ 1000000) := by unfold RowKit.Hid; rw [List.length_nil, hnn]; omega
    clear hu hnn hn
    go_enter Tryz.func155, Tryz.ntmps155
    go_wp2_with (at_builtin; refine append_sS _ rfl _ _ rfl w.heap.size _ [] rfl HE.out (fun h => by cases h) (.slice (some ad) n cap) L rfl HU.out HZ.out (by simp) ?_; intro v2 w2 h2 hg2 hn2 hl2)
    have HB2 : RowKit.Hid (Below w.heap.size w w2) := hbE.out.grown hg2 (by simp) (fun j hj => by cases hj; exact Nat.le_refl _)
    have H2 := Lib.hid h2
    obtain ⟨ao, cp, rfl, _, _⟩ := own_form13 h2
    clear h2 hg2 hn2 hl2
    go_wp2
    go_ret
    exact ⟨_, rfl, H2.out, HB2.out⟩

set_option maxHeartbeats 8000000 in
theorem cloneI_any (L : List Int) (u : Value) (w : World) (hu : IL u L w) (hs : L.length ≤ 100000) :
    Calls Tryz.prog 156 #[u] w fun e w' => ∃ v', e = .returned v' ∧ IR w.heap.size v' L w' ∧ Below w.heap.size w w' := by
  have q22 : ∀ (w : World) (a : Option Addr) (n c n' c' : Nat), (binOp .eql 38 (.slice a n c) (.slice none n' c')).run Tryz.prog w = .ok (.bool a.isNone) w := fun w a n c n' c' => Lib.run_eql_slice_nil w _ _ a n c n' c' Tryz.underlying38
  obtain ⟨a, cap, rfl, hcap, hn⟩ := id hu
  cases a with
  | none =>
    have h0 : L = [] := by
      cases L with
      | nil => rfl
      | cons y r =>
        obtain ⟨g, o, h1, _⟩ := hn 0 y rfl
        cases h1
    subst h0
    clear hu
    go_enter Tryz.func156, Tryz.ntmps156
    go_wp2
    go_ret
    exact ⟨_, rfl, IR.zero _ _, Below.refl _ _⟩
  | some ad =>
    have HE := Lib.hid (emptyIR w)
    have hbE := Lib.hid ((Below.refl w.heap.size w).alloc (Nat.le_refl _) (.cells #[] 3))
    have HU := Lib.hid (hu.after hbE.out)
    obtain ⟨n, hnn⟩ : ∃ n, L.length = n := ⟨_, rfl⟩
    have HN := Lib.hid hnn
    rw [hnn] at hcap hs HU ⊢
    have HZ : RowKit.Hid (([] : List Int).length + L.length ≤ 1000000) := by unfold RowKit.Hid; rw [List.length_nil, hnn]; omega
    clear hu hnn hn
    go_enter Tryz.func156, Tryz.ntmps156
    go_wp2_with (at_builtin; refine append_sI _ rfl _ _ rfl w.heap.size _ [] rfl HE.out (fun h => by cases h) (.slice (some ad) n cap) L rfl HU.out HZ.out (by simp) ?_; intro v2 w2 h2 hg2 hn2 hl2)
    have HB2 : RowKit.Hid (Below w.heap.size w w2) := hbE.out.grown hg2 (by simp) (fun j hj => by cases hj; exact Nat.le_refl _)
    have H2 := Lib.hid h2
    obtain ⟨ao, cp, rfl, _, _⟩ := own_form13 h2
    clear h2 hg2 hn2 hl2
    go_wp2
    go_ret
    exact ⟨_, rfl, H2.out, HB2.out⟩
end

end Go.Proofs.YthjdopnoophigaaGreatDoor
