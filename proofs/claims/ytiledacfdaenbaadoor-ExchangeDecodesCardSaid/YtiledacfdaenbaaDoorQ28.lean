/- Merged: RF10, RG10. -/
import Derived.Test.YtiledacfdaenbaaDoorQ27
namespace Go.Proofs.YtiledacfdaenbaaDoor

section
open Go.RowKit Go.PlainAid
set_option maxHeartbeats 8000000 in
theorem refNumber_any (l : List UInt8) (hl : l.length ≤ 1000000000) (i n : Nat) (hi : i ≤ 2000000000) (hn : n ≤ 17) (x : Int) (hx : numF l i n = x) (w : World) :
    Calls Tryd.prog 41 #[.string (S l), .int .i64 (i : Int), .int .i64 (n : Int)] w fun e w' => e = .returned (.int .i64 x) ∧ w' = w := by
  obtain ⟨z, hz⟩ : ∃ z, l.length = z := ⟨_, rfl⟩
  have hsz : (S l).size = z := by rw [S_size, hz]
  have hbt := get_bt (S l)
  have HBS := Lib.hid (fun i => bt_S l i)
  have i0 : (0 : Int) ≤ (i : Int) := by omega
  have t0 : decide ((i : Int) < 0) = false := decide_eq_false (by omega)
  rw [hz] at hl
  by_cases hlen : z < i + n
  · have hN : x = -1 := by
      rw [← hx]
      unfold numF
      rw [if_pos (.inl (by omega))]
    subst hN
    have t1 : decide ((z : Int) < (i : Int) + (n : Int)) = true := decide_eq_true (by omega)
    clear hx hz
    generalize S l = s at *
    go_enter Tryd.func41, Tryd.ntmps41
    go_wp2
    go_ret
    exact ⟨rfl, rfl⟩
  have t1 : decide ((z : Int) < (i : Int) + (n : Int)) = false := decide_eq_false (by omega)
  obtain ⟨m, hm⟩ : ∃ m, (l.drop i).take n = m := ⟨_, rfl⟩
  have hml : m.length = n := by rw [← hm, List.length_take, List.length_drop]; omega
  have hget : ∀ k, k < n → l.getD (i + k) 0 = m.getD k 0 := by
    intro k hk
    rw [← hm, List.getD_eq_getElem?_getD, List.getD_eq_getElem?_getD, List.getElem?_take_of_lt hk, List.getElem?_drop]
  have HBad : RowKit.Hid (∀ k, k < n → digB (m.getD k 0) = false → x = -1) := by
    intro k hk h
    rw [← hx]
    unfold numF
    rw [hm, if_pos (.inr (all_bad m k (by omega) h))]
  have HAll : RowKit.Hid ((∀ j, j < n → digB (m.getD j 0) = true) → x = (valV m : Int)) := by
    intro h
    rw [← hx]
    unfold numF
    rw [hm, if_neg (by
      intro g
      rcases g with g | g
      · omega
      · rw [(all_iff m).2 (by rw [hml]; exact h)] at g
        cases g)]
  have HV := Lib.hid (fun k (hk : k < n) => valV_take m k (by omega))
  have HP : RowKit.Hid (∀ k, k ≤ n → (∀ j, j < k → digB (m.getD j 0) = true) → valV (m.take k) < 10 ^ 17) := by
    intro k hk h
    have h2 : (m.take k).all digB = true := by
      rw [all_iff]
      intro i hi
      rw [List.length_take] at hi
      rw [List.getD_eq_getElem?_getD, List.getElem?_take_of_lt (by omega), ← List.getD_eq_getElem?_getD]
      exact h i (by omega)
    have := valV_lt k (m.take k) h2 (by rw [List.length_take]; omega)
    rw [List.take_take, Nat.min_self] at this
    exact Nat.lt_of_lt_of_le this (Nat.pow_le_pow_right (by decide) (by omega))
  have HT : RowKit.Hid (m.take n = m) := by unfold RowKit.Hid; rw [← hml, List.take_length]
  have H0 : RowKit.Hid (valV (m.take 0) = 0) := by unfold RowKit.Hid; rw [List.take_zero]; rfl
  have HGet := Lib.hid hget
  have hin : i + n ≤ z := by omega
  clear hx hm hml hget hz hlen
  generalize S l = s at *
  go_enter Tryd.func41, Tryd.ntmps41
  go_wp2
  go_loopw [7, 8] (fun v p wr => ∃ k : Nat, k ≤ n ∧ p = .int .i64 ((i : Int) + (k : Int)) ∧ v = .int .i64 ((valV (m.take k) : Nat) : Int) ∧ RowKit.Hid (∀ j, j < k → digB (m.getD j 0) = true) ∧ w = wr) (fun _ p _ => i + n - (intOf p).toNat)
  case atStart => exact ⟨0, Nat.zero_le _, by simp, by rw [H0.out]; rfl, (fun j hj => by omega), rfl⟩
  case round =>
    obtain ⟨k, hk, rfl, rfl, HJ, rfl⟩ := hrel
    by_cases hkn : k < n
    · have i1 : (0 : Int) ≤ (i : Int) + (k : Int) := by omega
      have i2 : (i : Int) + (k : Int) < (z : Int) := by omega
      have i3 : (i : Int) + (k : Int) < (i : Int) + (n : Int) := by omega
      have i4 : ((i : Int) + (k : Int)).toNat = i + k := by omega
      have hbk := HBS.out (i + k)
      rw [HGet.out k hkn] at hbk
      have hlow := digB_int (m.getD k 0)
      have HBk := Lib.hid (HBad.out k hkn)
      have hv := HV.out k hkn
      have hp := HP.out k hk HJ.out
      have HP2 := Lib.hid (HP.out (k + 1) (by omega))
      have hm := (m.getD k 0).toNat_lt
      have HJ2 : RowKit.Hid (digB (m.getD k 0) = true → ∀ j, j < k + 1 → digB (m.getD j 0) = true) := by
        intro h0 j hj
        rcases Nat.lt_or_ge j k with h | h
        · exact HJ.out j h
        · rw [show j = k by omega]; exact h0
      obtain ⟨V2, hV2⟩ : ∃ V, valV (m.take (k + 1)) = V := ⟨_, rfl⟩
      rw [hV2] at hv HP2
      have HV2 := Lib.hid hV2
      clear hV2
      generalize valV (m.take k) = V at *
      generalize digB (m.getD k 0) = lo at *
      generalize (m.getD k 0).toNat = c at *
      by_cases h1 : c < 48
      · have t2 : decide ((c : Int) < 48) = true := decide_eq_true (by omega)
        rw [t2] at hlow
        have hx := HBk.out (by rw [hlow]; rfl)
        subst hx
        clear hlow HJ HJ2 h1 hv hp HP2 hm
        go_wp2
        go_ret
        exact ⟨rfl, rfl⟩
      · have t2 : decide ((c : Int) < 48) = false := decide_eq_false (by omega)
        rw [t2] at hlow
        by_cases h2 : 57 < c
        · have t3 : decide ((57 : Int) < (c : Int)) = true := decide_eq_true (by omega)
          rw [t3] at hlow
          have hx := HBk.out (by rw [hlow]; rfl)
          subst hx
          clear hlow HJ HJ2 h1 hv hp HP2 hm h2
          go_wp2
          go_ret
          exact ⟨rfl, rfl⟩
        · have t3 : decide ((57 : Int) < (c : Int)) = false := decide_eq_false (by omega)
          rw [t3] at hlow
          have hlo : lo = true := by rw [hlow]; rfl
          have HJ3 := Lib.hid (HJ2.out hlo)
          have hp3 := HP2.out HJ3.out
          have hsum : (V : Int) * 10 + (c : Int) - 48 = (V2 : Int) := by omega
          have HS := Lib.hid hsum
          have hmx : 48 ≤ c := by omega
          clear hlow HJ HJ2 h1 h2 HP2 hlo HBk hv hsum
          go_wp2
          go_roundw
          case rel =>
            exact ⟨k + 1, by omega, by go_num, by rw [HV2.out, ← HS.out], HJ3, trivial⟩
          case measure => simp [intOf]; omega
    · obtain rfl : k = n := by omega
      have hx := HAll.out HJ.out
      subst hx
      have hT := HT.out
      rw [hT]
      have i3 : ¬ (i : Int) + (k : Int) < (i : Int) + (k : Int) := by omega
      clear HJ hT
      go_wp2
      go_ret
      exact ⟨rfl, rfl⟩
end

section
open Go.RowKit Go.PlainAid
/-- What lies in memory while a field is read: the result's box, the field's box g, and a row of subfields behind them. -/
structure RF (w : World) (g : Nat) (W5 : World) (tg ix : ByteArray) (sv : Value) (au : Int) (L : List Sub) (wr : World) : Prop where
  lt : w.heap.size < g
  glt : g < W5.heap.size
  f : wr.heap[g]? = some (.cells #[.string tg, .string ix, sv, .int .i64 au] 49 (0, 0))
  r : wr.heap[w.heap.size]? = some (.cells #[.string ⟨#[]⟩, .string ⟨#[]⟩, .slice none 0 0, .int .i64 0] 49 (0, 0))
  own : wr.ownsRow W5.heap.size 46 2 sv L.length (cellsL L)
  size : W5.heap.size ≤ wr.heap.size
  bel : Below w.heap.size w wr
structure RFC (N g : Nat) (tg ix : ByteArray) (sv : Value) (au : Int) (wr : World) : Prop where
  c : wr.cell? ⟨g, 0, none⟩ = some (.string tg) ∧ wr.cell? ⟨g, 1, none⟩ = some (.string ix) ∧ wr.cell? ⟨g, 2, none⟩ = some sv ∧ wr.cell? ⟨g, 3, none⟩ = some (.int .i64 au)
  z : wr.frozen? ⟨g, 0, none⟩ = false ∧ wr.frozen? ⟨g, 1, none⟩ = false ∧ wr.frozen? ⟨g, 2, none⟩ = false ∧ wr.frozen? ⟨g, 3, none⟩ = false
  rc : wr.cell? ⟨N, 0, none⟩ = some (.string ⟨#[]⟩) ∧ wr.cell? ⟨N, 1, none⟩ = some (.string ⟨#[]⟩) ∧ wr.cell? ⟨N, 2, none⟩ = some (.slice none 0 0) ∧ wr.cell? ⟨N, 3, none⟩ = some (.int .i64 0)
  rz : wr.frozen? ⟨N, 0, none⟩ = false ∧ wr.frozen? ⟨N, 1, none⟩ = false ∧ wr.frozen? ⟨N, 2, none⟩ = false ∧ wr.frozen? ⟨N, 3, none⟩ = false
theorem fcells {g : Nat} {a b c d : Value} {wr : World} (h : wr.heap[g]? = some (.cells #[a, b, c, d] 49 (0, 0))) :
    (wr.cell? ⟨g, 0, none⟩ = some a ∧ wr.cell? ⟨g, 1, none⟩ = some b ∧ wr.cell? ⟨g, 2, none⟩ = some c ∧ wr.cell? ⟨g, 3, none⟩ = some d) ∧
    (wr.frozen? ⟨g, 0, none⟩ = false ∧ wr.frozen? ⟨g, 1, none⟩ = false ∧ wr.frozen? ⟨g, 2, none⟩ = false ∧ wr.frozen? ⟨g, 3, none⟩ = false) := by
  refine ⟨⟨?_, ?_, ?_, ?_⟩, Lib.frozen_of_heap h 0, Lib.frozen_of_heap h 1, Lib.frozen_of_heap h 2, Lib.frozen_of_heap h 3⟩ <;> (rw [Lib.cell_of_heap h]; rfl)
def setF4 (w : World) (b : Nat) (x0 x1 x2 x3 : Value) : World := (((w.setCell ⟨b, 0, none⟩ x0).setCell ⟨b, 1, none⟩ x1).setCell ⟨b, 2, none⟩ x2).setCell ⟨b, 3, none⟩ x3
theorem fld_set4 {w : World} {b : Nat} {c0 c1 c2 c3 x0 x1 x2 x3 : Value} (h : w.heap[b]? = some (.cells #[c0, c1, c2, c3] 49 (0, 0))) :
    (setF4 w b x0 x1 x2 x3).heap[b]? = some (.cells #[x0, x1, x2, x3] 49 (0, 0)) := by
  simp [setF4, World.setCell, Array.getElem?_modify, h]
theorem fld_other {w : World} {b : Nat} {x0 x1 x2 x3 : Value} (i : Nat) (h : i ≠ b) : (setF4 w b x0 x1 x2 x3).heap[i]? = w.heap[i]? := by
  unfold setF4
  rw [heap_set_ne _ _ _ _ (by exact h), heap_set_ne _ _ _ _ (by exact h), heap_set_ne _ _ _ _ (by exact h), heap_set_ne _ _ _ _ (by exact h)]
theorem fld_size {w : World} {b : Nat} {x0 x1 x2 x3 : Value} : (setF4 w b x0 x1 x2 x3).heap.size = w.heap.size := by simp [setF4, World.setCell]
theorem fld_below {N : Nat} {w W : World} {b : Nat} {x0 x1 x2 x3 : Value} (h : Below N w W) (hb : N ≤ b) : Below N w (setF4 W b x0 x1 x2 x3) :=
  (((h.setCell (p := ⟨b, 0, none⟩) hb _).setCell (p := ⟨b, 1, none⟩) hb _).setCell (p := ⟨b, 2, none⟩) hb _).setCell (p := ⟨b, 3, none⟩) hb _
section
variable {w W5 wr w3 : World} {g : Nat} {tg ix : ByteArray} {sv sv' : Value} {au : Int} {L : List Sub}
theorem RF.cells (h : RF w g W5 tg ix sv au L wr) : RFC w.heap.size g tg ix sv au wr :=
  have a := fcells h.f
  have b := fcells h.r
  ⟨a.1, a.2, b.1, b.2⟩
theorem RF.drew (h : RF w g W5 tg ix sv au L wr) : RF w g W5 tg ix sv au L wr.drew := ⟨h.lt, h.glt, h.f, h.r, h.own, h.size, h.bel.drew⟩
theorem RF.alloc (h : RF w g W5 tg ix sv au L wr) (o : Obj) : RF w g W5 tg ix sv au L (wr.alloc o) :=
  have h1 := h.lt
  have h2 := h.glt
  have h3 := h.size
  ⟨h1, h2, (Below.heap_alloc wr o _ (by omega)).trans h.f, (Below.heap_alloc wr o _ (by omega)).trans h.r, h.own.alloc o, by simp; omega, h.bel.alloc (by omega) o⟩
/-- Behind an append, before the store. -/
theorem RF.app (h : RF w g W5 tg ix sv au L wr) (o : Obj) (hg : (wr.alloc o).grownBy w3 sv.ownBlock) :
    w3.heap[g]? = some (.cells #[.string tg, .string ix, sv, .int .i64 au] 49 (0, 0)) ∧ w3.heap[w.heap.size]? = some (.cells #[.string ⟨#[]⟩, .string ⟨#[]⟩, .slice none 0 0, .int .i64 0] 49 (0, 0)) ∧ W5.heap.size ≤ w3.heap.size ∧ Below w.heap.size w w3 := by
  have ha := h.alloc o
  have h1 := ha.lt
  have h2 := ha.glt
  have h3 := ha.size
  have hb := fun k hk => (World.ownsRow.lt ha.own k hk).1
  exact ⟨(hg.block _ (by omega) (fun e => by have := hb _ e.symm; omega)).trans ha.f, (hg.block _ (by omega) (fun e => by have := hb _ e.symm; omega)).trans ha.r, Nat.le_trans h3 hg.size, ha.bel.grown hg (by omega) (fun k hk => by have := hb k hk; omega)⟩
theorem RF.store {x : Sub} (hlt : w.heap.size < g) (hgl : g < W5.heap.size) (hf : w3.heap[g]? = some (.cells #[.string tg, .string ix, sv, .int .i64 au] 49 (0, 0)))
    (hr : w3.heap[w.heap.size]? = some (.cells #[.string ⟨#[]⟩, .string ⟨#[]⟩, .slice none 0 0, .int .i64 0] 49 (0, 0))) (hm : W5.heap.size ≤ w3.heap.size) (he : Below w.heap.size w w3)
    (ho : w3.ownsRow W5.heap.size 46 2 sv' (L.length + 1) (cellsL L ++ encS x)) : RF w g W5 tg ix sv' au (L ++ [x]) (w3.setCell ⟨g, 2, none⟩ sv') := by
  refine ⟨hlt, hgl, by simp [World.setCell, Array.getElem?_modify, hf], (heap_set_ne w3 _ _ _ (by show w.heap.size ≠ g; omega)).trans hr, own_setCell ?_ (p := ⟨g, 2, none⟩) hgl _, by simpa using hm, he.setCell (p := ⟨g, 2, none⟩) (Nat.le_of_lt hlt) _⟩
  rw [cellsL_snoc, List.length_append]
  exact ho
theorem RF.ret (h : RF w g W5 tg ix sv au L wr) :
    RowKit.Hid ((setF4 wr w.heap.size (.string tg) (.string ix) sv (.int .i64 au)).heap[w.heap.size]? = some (.cells #[.string tg, .string ix, sv, .int .i64 au] 49 (0, 0))) ∧
    RowKit.Hid (New w.heap.size (QL sv L) (setF4 wr w.heap.size (.string tg) (.string ix) sv (.int .i64 au))) ∧
    RowKit.Hid (Below w.heap.size w (setF4 wr w.heap.size (.string tg) (.string ix) sv (.int .i64 au))) := by
  have h1 := h.lt
  have h2 := h.glt
  refine ⟨fld_set4 h.r, ?_, fld_below h.bel (Nat.le_refl _)⟩
  exact (own_new (own_same h.own (fun i hi _ => fld_other i (by omega)))).mono (by omega)
end
end

end Go.Proofs.YtiledacfdaenbaaDoor
