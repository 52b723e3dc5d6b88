/- Merged: R07I, R07J, R07E. -/
import Derived.Test.YtcnjjdbpcobolaaGreatDoorQ04
import Derived.Lib.Builder
import Derived.RegionTactic
import Derived.BigRegion
namespace Go.Proofs.YtcnjjdbpcobolaaGreatDoor

section
open Go.RowKit Go.PlainAid
def encS (s : Sub) : List Value := [.int .u8 (s.1.toNat : Int), .string (S s.2)]
def cellsL (L : List Sub) : List Value := L.flatMap encS
theorem cellsL_snoc (M : List Sub) (s : Sub) : cellsL (M ++ [s]) = cellsL M ++ encS s := by simp [cellsL]
theorem cellsL_at : ∀ (L : List Sub) (i : Nat), i < L.length → (cellsL L)[i * 2]? = some (.int .u8 ((L.getD i sub0).1.toNat : Int)) ∧ (cellsL L)[i * 2 + 1]? = some (.string (S (L.getD i sub0).2))
  | [], _, h => by cases h
  | s :: t, 0, _ => ⟨rfl, rfl⟩
  | s :: t, i + 1, h => by
    have := cellsL_at t i (by simpa using h)
    have e : cellsL (s :: t) = .int .u8 (s.1.toNat : Int) :: .string (S s.2) :: cellsL t := rfl
    rw [e, show (i + 1) * 2 = i * 2 + 1 + 1 by omega, List.getElem?_cons_succ, List.getElem?_cons_succ, List.getElem?_cons_succ, List.getElem?_cons_succ]
    exact this
/-- A row of subfields of the call's own, nil while it is empty. -/
theorem QL.of_row {B : Nat} {v : Value} {L : List Sub} {w : World} (h : w.ownsRow B 54 2 v L.length (cellsL L)) : QL v L w := by
  rcases h.2 with ⟨rfl, h0⟩ | ⟨g, cap, cur, rfl, hb, hg, hc, hm, hs, ht⟩
  · have : L = [] := List.eq_nil_of_length_eq_zero h0
    subst this
    exact ⟨none, 0, rfl, Nat.le_refl _, Nat.zero_le _, fun _ => rfl, fun i hi => by cases hi⟩
  · refine ⟨_, cap, rfl, hc, hm, (fun h => by cases h), fun i hi => ⟨g, 0, rfl, (Array.getElem?_eq_some_iff.1 hg).1, ?_, ?_⟩⟩
    · have := h.cells (g := g) rfl _ _ (cellsL_at L i hi).1
      have hadd : (⟨g, 0, none⟩ : Addr).add (i * 2) = ⟨g, i * 2, none⟩ := by unfold Addr.add; split <;> simp_all
      rw [hadd] at this
      rw [Nat.zero_add]
      exact this
    · have := h.cells (g := g) rfl _ _ (cellsL_at L i hi).2
      have hadd : (⟨g, 0, none⟩ : Addr).add (i * 2 + 1) = ⟨g, i * 2 + 1, none⟩ := by unfold Addr.add; split <;> simp_all
      rw [hadd] at this
      rw [Nat.zero_add]
      exact this
theorem own_setCell {w : World} {B e size n : Nat} {v : Value} {xs : List Value} (h : w.ownsRow B e size v n xs) {p : Addr} (hp : p.block < B) (u : Value) : (w.setCell p u).ownsRow B e size v n xs := by
  refine ⟨h.1, ?_⟩
  rcases h.2 with hn | ⟨g, cap, cur, hv, hB', hg, rest⟩
  · exact .inl hn
  · exact .inr ⟨g, cap, cur, hv, hB', (Below.heap_setCell _ _ _ _ (by omega)).trans hg, rest⟩
theorem infoSub : (Tryz.prog.info? 54).map (fun i => (i.zero, i.size, i.bytes)) = some (some (.agg #[.int .u8 0, .string ⟨#[]⟩]), 2, 24) := by kernel_rfl
theorem info_sub : ∃ i0, Tryz.prog.info? 54 = some i0 ∧ i0.zero = some (.agg #[.int .u8 0, .string ⟨#[]⟩]) ∧ i0.size = 2 ∧ i0.bytes = 24 := by
  obtain ⟨i0, h0, h2⟩ := Option.map_eq_some_iff.1 infoSub
  simp only [Prod.mk.injEq] at h2
  exact ⟨i0, h0, h2.1, h2.2.1, h2.2.2⟩
theorem cells_two (w : World) (x y : Value) (t : TypeId) : ∀ j u, [x, y][j]? = some u → (w.alloc (.cells #[x, y] t)).cell? ((⟨w.heap.size, 0, none⟩ : Addr).add j) = some u := by
  intro j u hj
  match j, hj with
  | 0, hj => simp at hj; subst hj; simp [Addr.add]
  | 1, hj => simp at hj; subst hj; simp [Addr.add]
  | (j + 2), hj => simp at hj

/-- What Set has made of the first k subfields, and whether the value has its place. -/
def setK (L : List Sub) (c : UInt8) (v : List UInt8) : Nat → List Sub × Bool
  | 0 => ([], decide (v = []))
  | k + 1 => if (L.getD k sub0).1 ≠ c then ((setK L c v k).1 ++ [L.getD k sub0], (setK L c v k).2)
    else if v = [] then setK L c v k else if (setK L c v k).2 = true then ((setK L c v k).1 ++ [L.getD k sub0], true) else ((setK L c v k).1 ++ [(c, v)], true)
def setR (L : List Sub) (c : UInt8) (v : List UInt8) : List Sub :=
  if (setK L c v L.length).2 = true then (setK L c v L.length).1 else (setK L c v L.length).1 ++ [(c, v)]
theorem setK_le (L : List Sub) (c : UInt8) (v : List UInt8) : ∀ k, (setK L c v k).1.length ≤ k
  | 0 => Nat.le_refl _
  | k + 1 => by
    have h := setK_le L c v k
    rw [setK]
    split
    · simp; omega
    · split
      · omega
      · split <;> simp <;> omega

theorem own_form {w : World} {B e size n : Nat} {v : Value} {xs : List Value} (h : w.ownsRow B e size v n xs) : ∃ ao cp, v = .slice ao n cp := by
  rcases h.2 with ⟨h0, h1⟩ | ⟨g, cap, cur, hv, _⟩
  · exact ⟨none, 0, by rw [h0, h1]⟩
  · exact ⟨_, cap, hv⟩
/-- What Set's last steps meet, and where they end. -/
theorem set_end {w W0 wz : World} {f : Fld} {u0 v : Value} {L : List Sub} (hlt : w.heap.size < W0.heap.size) (hlt1 : w.heap.size + 1 < W0.heap.size) (b0 : Below w.heap.size w W0)
    (hF : W0.heap[w.heap.size]? = some (.cells #[.string (S f.tag), .string (S f.ind), u0, .int .i64 f.auth] 35 (0, 0)))
    (hR : W0.heap[w.heap.size + 1]? = some (.cells #[.string ⟨#[]⟩, .string ⟨#[]⟩, .slice none 0 0, .int .i64 0] 35 (0, 0)))
    (hb : Below W0.heap.size W0 wz) (hown : wz.ownsRow W0.heap.size 54 2 v L.length (cellsL L)) :
    (wz.cell? ⟨w.heap.size, 0, none⟩ = some (.string (S f.tag)) ∧ wz.cell? ⟨w.heap.size, 1, none⟩ = some (.string (S f.ind)) ∧ wz.cell? ⟨w.heap.size, 2, none⟩ = some u0 ∧ wz.cell? ⟨w.heap.size, 3, none⟩ = some (.int .i64 f.auth)) ∧
    wz.frozen? ⟨w.heap.size, 2, none⟩ = false ∧
    (wz.cell? ⟨w.heap.size + 1, 0, none⟩ = some (.string ⟨#[]⟩) ∧ wz.cell? ⟨w.heap.size + 1, 1, none⟩ = some (.string ⟨#[]⟩) ∧ wz.cell? ⟨w.heap.size + 1, 2, none⟩ = some (.slice none 0 0) ∧ wz.cell? ⟨w.heap.size + 1, 3, none⟩ = some (.int .i64 0)) ∧
    (wz.frozen? ⟨w.heap.size + 1, 0, none⟩ = false ∧ wz.frozen? ⟨w.heap.size + 1, 1, none⟩ = false ∧ wz.frozen? ⟨w.heap.size + 1, 2, none⟩ = false ∧ wz.frozen? ⟨w.heap.size + 1, 3, none⟩ = false) ∧
    RowKit.Hid ((((((wz.setCell ⟨w.heap.size, 2, none⟩ v).setCell ⟨w.heap.size + 1, 0, none⟩ (.string (S f.tag))).setCell ⟨w.heap.size + 1, 1, none⟩ (.string (S f.ind))).setCell ⟨w.heap.size + 1, 2, none⟩ v).setCell ⟨w.heap.size + 1, 3, none⟩ (.int .i64 f.auth)).heap[w.heap.size + 1]? = some (.cells #[.string (S f.tag), .string (S f.ind), v, .int .i64 f.auth] 35 (0, 0))) ∧
    RowKit.Hid (QL v L (((((wz.setCell ⟨w.heap.size, 2, none⟩ v).setCell ⟨w.heap.size + 1, 0, none⟩ (.string (S f.tag))).setCell ⟨w.heap.size + 1, 1, none⟩ (.string (S f.ind))).setCell ⟨w.heap.size + 1, 2, none⟩ v).setCell ⟨w.heap.size + 1, 3, none⟩ (.int .i64 f.auth))) ∧ RowKit.Hid (Below w.heap.size w (((((wz.setCell ⟨w.heap.size, 2, none⟩ v).setCell ⟨w.heap.size + 1, 0, none⟩ (.string (S f.tag))).setCell ⟨w.heap.size + 1, 1, none⟩ (.string (S f.ind))).setCell ⟨w.heap.size + 1, 2, none⟩ v).setCell ⟨w.heap.size + 1, 3, none⟩ (.int .i64 f.auth))) := by
  have zF := (hb.block _ hlt).trans hF
  have zR := (hb.block _ hlt1).trans hR
  refine ⟨⟨?_, ?_, ?_, ?_⟩, Lib.frozen_of_heap zF 2, ⟨?_, ?_, ?_, ?_⟩, ⟨Lib.frozen_of_heap zR 0, Lib.frozen_of_heap zR 1, Lib.frozen_of_heap zR 2, Lib.frozen_of_heap zR 3⟩, ?_, ?_, ?_⟩
  · rw [Lib.cell_of_heap zF]; rfl
  · rw [Lib.cell_of_heap zF]; rfl
  · rw [Lib.cell_of_heap zF]; rfl
  · rw [Lib.cell_of_heap zF]; rfl
  · rw [Lib.cell_of_heap zR]; rfl
  · rw [Lib.cell_of_heap zR]; rfl
  · rw [Lib.cell_of_heap zR]; rfl
  · rw [Lib.cell_of_heap zR]; rfl
  · show (((((wz.setCell ⟨w.heap.size, 2, none⟩ v).setCell ⟨w.heap.size + 1, 0, none⟩ (.string (S f.tag))).setCell ⟨w.heap.size + 1, 1, none⟩ (.string (S f.ind))).setCell ⟨w.heap.size + 1, 2, none⟩ v).setCell ⟨w.heap.size + 1, 3, none⟩ (.int .i64 f.auth)).heap[w.heap.size + 1]? = _
    simp [World.setCell, Array.getElem?_modify, zR]
  · exact QL.of_row (own_setCell (own_setCell (own_setCell (own_setCell (own_setCell hown (p := ⟨w.heap.size, 2, none⟩) hlt _) (p := ⟨w.heap.size + 1, 0, none⟩) hlt1 _) (p := ⟨w.heap.size + 1, 1, none⟩) hlt1 _) (p := ⟨w.heap.size + 1, 2, none⟩) hlt1 _) (p := ⟨w.heap.size + 1, 3, none⟩) hlt1 _)
  · exact (((((b0.trans (hb.mono b0.size)).setCell (p := ⟨w.heap.size, 2, none⟩) (Nat.le_refl _) _).setCell (p := ⟨w.heap.size + 1, 0, none⟩) (Nat.le_succ _) _).setCell (p := ⟨w.heap.size + 1, 1, none⟩) (Nat.le_succ _) _).setCell (p := ⟨w.heap.size + 1, 2, none⟩) (Nat.le_succ _) _).setCell (p := ⟨w.heap.size + 1, 3, none⟩) (Nat.le_succ _) _
end

section
open Go.RowKit Go.PlainAid
def markB (c : UInt8) : List UInt8 := if c = 32 then [35] else [c]
end

section
open Go.RowKit Go.PlainAid
theorem S_eq (a b : List UInt8) : ((S a).toList == (S b).toList) = decide (a = b) := by
  rw [ByteArray.toList_eq, ByteArray.toList_eq]
  show (a == b) = _
  by_cases h : a = b
  · simp [h]
  · simp [h]
def sameB (f g : Fld) : Bool := decide (f.tag = g.tag) && decide (f.ind = g.ind) && decide (f.auth = g.auth) && decide (f.subs = g.subs)
theorem subs_ext (A B : List Sub) (hl : A.length = B.length) (h : ∀ i, i < A.length → A.getD i sub0 = B.getD i sub0) : A = B := by
  refine List.ext_getElem hl fun i h1 h2 => ?_
  have := h i h1
  rwa [List.getD_eq_getElem?_getD, List.getD_eq_getElem?_getD, List.getElem?_eq_getElem h1, List.getElem?_eq_getElem h2] at this

set_option maxHeartbeats 16000000 in
theorem refSame_any (f g : Fld) (u v : Value) (w : World) (hu : QL u f.subs w) (hv : QL v g.subs w) (b : Bool) (hb : sameB f g = b) :
    Calls Tryz.prog 36 #[FV f u, FV g v] w fun e w' => e = .returned (.bool b) ∧ Below w.heap.size w w' := by
  obtain ⟨a, cap, rfl, hcap, hmax, _, hcell⟩ := hu
  obtain ⟨a', cap', rfl, hcap', hmax', _, hcell'⟩ := hv
  unfold maxLen at hmax hmax'
  unfold FV
  unfold sameB at hb
  obtain ⟨n, hn⟩ : ∃ n, f.subs.length = n := ⟨_, rfl⟩
  obtain ⟨m, hm⟩ : ∃ m, g.subs.length = m := ⟨_, rfl⟩
  have HCell := Lib.hid hcell
  have HCell' := Lib.hid hcell'
  rw [hn] at hcap ⊢
  rw [hm] at hcap' ⊢
  have HN := Lib.hid hn
  have HM := Lib.hid hm
  have HX := Lib.hid (subs_ext f.subs g.subs)
  have HB := Lib.hid hb
  have q1 := S_eq f.tag g.tag
  have q2 := S_eq f.ind g.ind
  obtain ⟨W0, hW0⟩ : ∃ W0, (w.alloc (.cells #[.string (S f.tag), .string (S f.ind), .slice a n cap, .int .i64 f.auth] 35)).alloc (.cells #[.string (S g.tag), .string (S g.ind), .slice a' m cap', .int .i64 g.auth] 35) = W0 := ⟨_, rfl⟩
  have b1 := (Below.refl w.heap.size w).alloc (Nat.le_refl _) (.cells #[.string (S f.tag), .string (S f.ind), .slice a n cap, .int .i64 f.auth] 35)
  have b0 : Below w.heap.size w W0 := by rw [← hW0]; exact b1.alloc (by simp) _
  have hlt : w.heap.size + 1 < W0.heap.size := by rw [← hW0]; simp
  have k0 : W0.cell? ⟨w.heap.size, 0, none⟩ = some (.string (S f.tag)) := by rw [← hW0]; simp
  have k1 : W0.cell? ⟨w.heap.size, 1, none⟩ = some (.string (S f.ind)) := by rw [← hW0]; simp
  have k2 : W0.cell? ⟨w.heap.size, 2, none⟩ = some (.slice a n cap) := by rw [← hW0]; simp
  have k3 : W0.cell? ⟨w.heap.size, 3, none⟩ = some (.int .i64 f.auth) := by rw [← hW0]; simp
  have l0 : W0.cell? ⟨w.heap.size + 1, 0, none⟩ = some (.string (S g.tag)) := by rw [← hW0]; simp
  have l1 : W0.cell? ⟨w.heap.size + 1, 1, none⟩ = some (.string (S g.ind)) := by rw [← hW0]; simp
  have l2 : W0.cell? ⟨w.heap.size + 1, 2, none⟩ = some (.slice a' m cap') := by rw [← hW0]; simp
  have l3 : W0.cell? ⟨w.heap.size + 1, 3, none⟩ = some (.int .i64 g.auth) := by rw [← hW0]; simp
  have HW0 := Lib.hid hW0
  clear hW0 b1 hcell hcell' hn hm hb
  by_cases h1 : f.tag ≠ g.tag
  · rw [decide_eq_false h1] at q1
    obtain rfl : b = false := by rw [← HB.out, decide_eq_false h1]; rfl
    clear h1
    go_enter Tryz.func36, Tryz.ntmps36
    go_wp2
    go_ret
    rw [HW0.out]
    exact ⟨rfl, b0⟩
  have h1 : f.tag = g.tag := Decidable.not_not.1 h1
  rw [decide_eq_true h1] at q1
  by_cases h2 : f.ind ≠ g.ind
  · rw [decide_eq_false h2] at q2
    obtain rfl : b = false := by rw [← HB.out, decide_eq_false h2, Bool.and_false]; rfl
    clear h1 h2
    go_enter Tryz.func36, Tryz.ntmps36
    go_wp2
    go_ret
    rw [HW0.out]
    exact ⟨rfl, b0⟩
  have h2 : f.ind = g.ind := Decidable.not_not.1 h2
  rw [decide_eq_true h2] at q2
  by_cases h3 : f.auth ≠ g.auth
  · have q3 : (f.auth != g.auth) = true := by simpa using h3
    obtain rfl : b = false := by rw [← HB.out, decide_eq_false h3, Bool.and_false]; rfl
    clear h1 h2 h3
    go_enter Tryz.func36, Tryz.ntmps36
    go_wp2
    go_ret
    rw [HW0.out]
    exact ⟨rfl, b0⟩
  have h3 : f.auth = g.auth := Decidable.not_not.1 h3
  have q3 : (f.auth != g.auth) = false := by simpa using h3
  by_cases h4 : n ≠ m
  · have q4 : ((n : Int) != (m : Int)) = true := by simp; omega
    obtain rfl : b = false := by rw [← HB.out, decide_eq_false (p := f.subs = g.subs) (fun h => h4 (by rw [← HN.out, ← HM.out, h])), Bool.and_false]
    clear h1 h2 h3 h4
    go_enter Tryz.func36, Tryz.ntmps36
    go_wp2
    go_ret
    rw [HW0.out]
    exact ⟨rfl, b0⟩
  obtain rfl : n = m := Decidable.not_not.1 h4
  have HBB : RowKit.Hid (decide (f.subs = g.subs) = b) := by
    unfold RowKit.Hid
    rw [← HB.out, decide_eq_true h1, decide_eq_true h2, decide_eq_true h3]
    simp
  clear h1 h2 h3 h4 HB
  have q4 : ((n : Int) != (n : Int)) = false := by simp
  go_enter Tryz.func36, Tryz.ntmps36
  go_wp2
  rw [HW0.out]
  clear k0 k1 k3 l0 l1 l3 q1 q2 q3
  go_loopw [5] (fun i wr => ∃ k : Nat, k ≤ n ∧ i = .int .i64 (k : Int) ∧ RowKit.Hid (∀ j, j < k → f.subs.getD j sub0 = g.subs.getD j sub0) ∧ Below W0.heap.size W0 wr) (fun i _ => n - (intOf i).toNat)
  case atStart => exact ⟨0, Nat.zero_le _, rfl, (fun j hj => by omega), Below.refl _ _⟩
  case round =>
    obtain ⟨k, hk, rfl, HJ, hbw⟩ := hrel
    have j2 := (hbw.cell (p := ⟨w.heap.size, 2, none⟩) (show w.heap.size < W0.heap.size by omega)).trans k2
    have r2 := (hbw.cell (p := ⟨w.heap.size + 1, 2, none⟩) hlt).trans l2
    by_cases hkn : k < n
    · obtain ⟨ga, oa, rfl, hga, c1, c2⟩ := HCell.out k (by rw [HN.out]; exact hkn)
      obtain ⟨gb, ob, rfl, hgb, d1, d2⟩ := HCell'.out k (by rw [HM.out]; exact hkn)
      have c1 : wr.cell? ⟨ga, oa + k * 2, none⟩ = some (.int .u8 ((f.subs.getD k sub0).1.toNat : Int)) := ((hbw.cell (p := ⟨ga, oa + k * 2, none⟩) (show ga < W0.heap.size by omega)).trans (b0.cell (p := ⟨ga, oa + k * 2, none⟩) hga)).trans c1
      have c2 : wr.cell? ⟨ga, oa + k * 2 + 1, none⟩ = some (.string (S (f.subs.getD k sub0).2)) := ((hbw.cell (p := ⟨ga, oa + k * 2 + 1, none⟩) (show ga < W0.heap.size by omega)).trans (b0.cell (p := ⟨ga, oa + k * 2 + 1, none⟩) hga)).trans c2
      have d1 : wr.cell? ⟨gb, ob + k * 2, none⟩ = some (.int .u8 ((g.subs.getD k sub0).1.toNat : Int)) := ((hbw.cell (p := ⟨gb, ob + k * 2, none⟩) (show gb < W0.heap.size by omega)).trans (b0.cell (p := ⟨gb, ob + k * 2, none⟩) hgb)).trans d1
      have d2 : wr.cell? ⟨gb, ob + k * 2 + 1, none⟩ = some (.string (S (g.subs.getD k sub0).2)) := ((hbw.cell (p := ⟨gb, ob + k * 2 + 1, none⟩) (show gb < W0.heap.size by omega)).trans (b0.cell (p := ⟨gb, ob + k * 2 + 1, none⟩) hgb)).trans d2
      have i1 : (0 : Int) ≤ (k : Int) := by omega
      have i2 : (k : Int) < (n : Int) := by omega
      have hq := S_eq (f.subs.getD k sub0).2 (g.subs.getD k sub0).2
      clear k2 l2
      by_cases he : f.subs.getD k sub0 = g.subs.getD k sub0
      · have HJ2 : RowKit.Hid (∀ j, j < k + 1 → f.subs.getD j sub0 = g.subs.getD j sub0) := by
          intro j hj
          rcases Nat.lt_or_ge j k with h | h
          · exact HJ.out j h
          · rw [show j = k by omega]; exact he
        rw [he] at c1 c2 hq
        rw [decide_eq_true rfl] at hq
        clear he HJ
        generalize S (g.subs.getD k sub0).2 = x at *
        generalize (((g.subs.getD k sub0).1.toNat : Nat) : Int) = y at *
        go_wp2
        go_region
        all_goals
          go_wp2
          go_roundw
          case rel => exact ⟨k + 1, by omega, by go_num, HJ2, hbw.drew⟩
          case measure => simp [intOf]; omega
      · obtain rfl : b = false := by rw [← HBB.out]; exact decide_eq_false (fun h => he (by rw [h]))
        have hor : ((((f.subs.getD k sub0).1.toNat : Nat) : Int) == (((g.subs.getD k sub0).1.toNat : Nat) : Int)) = false ∨ decide ((f.subs.getD k sub0).2 = (g.subs.getD k sub0).2) = false := by
          by_cases hc : (f.subs.getD k sub0).1 = (g.subs.getD k sub0).1
          · exact .inr (decide_eq_false (fun h => he (Prod.ext hc h)))
          · have : (f.subs.getD k sub0).1.toNat ≠ (g.subs.getD k sub0).1.toNat := fun h => hc (UInt8.toNat_inj.1 h)
            exact .inl (beq_eq_false_iff_ne.2 (fun h => this (by omega)))
        have Fin := Lib.hid (b0.trans (hbw.mono b0.size))
        have FinD := Lib.hid (b0.trans (hbw.drew.mono b0.size))
        clear he HJ
        generalize decide ((f.subs.getD k sub0).2 = (g.subs.getD k sub0).2) = eqv at *
        generalize S (f.subs.getD k sub0).2 = x at *
        generalize S (g.subs.getD k sub0).2 = x' at *
        generalize (((f.subs.getD k sub0).1.toNat : Nat) : Int) = y at *
        generalize (((g.subs.getD k sub0).1.toNat : Nat) : Int) = y' at *
        rcases hor with ho | ho
        · go_wp2
          go_region
          all_goals
            go_wp2
            go_ret
            exact ⟨rfl, FinD.out⟩
        · rw [ho] at hq
          go_wp2
          go_region
          all_goals
            go_wp2
            go_ret
            exact ⟨rfl, FinD.out⟩
    · obtain rfl : k = n := by omega
      obtain rfl : b = true := by rw [← HBB.out]; exact decide_eq_true (HX.out (by rw [HN.out, HM.out]) (fun j hj => HJ.out j (by rw [HN.out] at hj; exact hj)))
      have Fin := Lib.hid (b0.trans (hbw.mono b0.size))
      clear k2 l2
      go_wp2
      go_ret
      exact ⟨rfl, Fin.out⟩
end

end Go.Proofs.YtcnjjdbpcobolaaGreatDoor
