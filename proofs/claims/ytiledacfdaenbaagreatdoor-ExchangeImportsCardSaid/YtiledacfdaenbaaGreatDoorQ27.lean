/- Merged: RF10, RG10, RH10. -/
import Derived.Test.YtiledacfdaenbaaGreatDoorQ26
import Derived.Test.YtiledacfdaenbaaGreatDoorQ25
namespace Go.Proofs.YtiledacfdaenbaaGreatDoor

section
open Go.RowKit Go.PlainAid
set_option maxHeartbeats 8000000 in
theorem refNumber_any (l : List UInt8) (hl : l.length ≤ 1000000000) (i n : Nat) (hi : i ≤ 2000000000) (hn : n ≤ 17) (x : Int) (hx : numF l i n = x) (w : World) :
    Calls Tryz.prog 13 #[.string (S l), .int .i64 (i : Int), .int .i64 (n : Int)] w fun e w' => e = .returned (.int .i64 x) ∧ w' = w := by
  obtain ⟨z, hz⟩ : ∃ z, l.length = z := ⟨_, rfl⟩
  have hsz : (S l).size = z := by rw [S_size, hz]
  have hbt := get_bt (S l)
  have HBS := Lib.hid (fun i => bt_S l i)
  have i0 : (0 : Int) ≤ (i : Int) := by omega
  have t0 : decide ((i : Int) < 0) = false := decide_eq_false (by omega)
  rw [hz] at hl
  by_cases hlen : z < i + n
  · have hN : x = -1 := by
      rw [← hx]
      unfold numF
      rw [if_pos (.inl (by omega))]
    subst hN
    have t1 : decide ((z : Int) < (i : Int) + (n : Int)) = true := decide_eq_true (by omega)
    clear hx hz
    generalize S l = s at *
    go_enter Tryz.func13, Tryz.ntmps13
    go_wp2
    go_ret
    exact ⟨rfl, rfl⟩
  have t1 : decide ((z : Int) < (i : Int) + (n : Int)) = false := decide_eq_false (by omega)
  obtain ⟨m, hm⟩ : ∃ m, (l.drop i).take n = m := ⟨_, rfl⟩
  have hml : m.length = n := by rw [← hm, List.length_take, List.length_drop]; omega
  have hget : ∀ k, k < n → l.getD (i + k) 0 = m.getD k 0 := by
    intro k hk
    rw [← hm, List.getD_eq_getElem?_getD, List.getD_eq_getElem?_getD, List.getElem?_take_of_lt hk, List.getElem?_drop]
  have HBad : RowKit.Hid (∀ k, k < n → digB (m.getD k 0) = false → x = -1) := by
    intro k hk h
    rw [← hx]
    unfold numF
    rw [hm, if_pos (.inr (all_bad m k (by omega) h))]
  have HAll : RowKit.Hid ((∀ j, j < n → digB (m.getD j 0) = true) → x = (valV m : Int)) := by
    intro h
    rw [← hx]
    unfold numF
    rw [hm, if_neg (by
      intro g
      rcases g with g | g
      · omega
      · rw [(all_iff m).2 (by rw [hml]; exact h)] at g
        cases g)]
  have HV := Lib.hid (fun k (hk : k < n) => valV_take m k (by omega))
  have HP : RowKit.Hid (∀ k, k ≤ n → (∀ j, j < k → digB (m.getD j 0) = true) → valV (m.take k) < 10 ^ 17) := by
    intro k hk h
    have h2 : (m.take k).all digB = true := by
      rw [all_iff]
      intro i hi
      rw [List.length_take] at hi
      rw [List.getD_eq_getElem?_getD, List.getElem?_take_of_lt (by omega), ← List.getD_eq_getElem?_getD]
      exact h i (by omega)
    have := valV_lt k (m.take k) h2 (by rw [List.length_take]; omega)
    rw [List.take_take, Nat.min_self] at this
    exact Nat.lt_of_lt_of_le this (Nat.pow_le_pow_right (by decide) (by omega))
  have HT : RowKit.Hid (m.take n = m) := by unfold RowKit.Hid; rw [← hml, List.take_length]
  have H0 : RowKit.Hid (valV (m.take 0) = 0) := by unfold RowKit.Hid; rw [List.take_zero]; rfl
  have HGet := Lib.hid hget
  have hin : i + n ≤ z := by omega
  clear hx hm hml hget hz hlen
  generalize S l = s at *
  go_enter Tryz.func13, Tryz.ntmps13
  go_wp2
  go_loopw [7, 8] (fun v p wr => ∃ k : Nat, k ≤ n ∧ p = .int .i64 ((i : Int) + (k : Int)) ∧ v = .int .i64 ((valV (m.take k) : Nat) : Int) ∧ RowKit.Hid (∀ j, j < k → digB (m.getD j 0) = true) ∧ w = wr) (fun _ p _ => i + n - (intOf p).toNat)
  case atStart => exact ⟨0, Nat.zero_le _, by simp, by rw [H0.out]; rfl, (fun j hj => by omega), rfl⟩
  case round =>
    obtain ⟨k, hk, rfl, rfl, HJ, rfl⟩ := hrel
    by_cases hkn : k < n
    · have i1 : (0 : Int) ≤ (i : Int) + (k : Int) := by omega
      have i2 : (i : Int) + (k : Int) < (z : Int) := by omega
      have i3 : (i : Int) + (k : Int) < (i : Int) + (n : Int) := by omega
      have i4 : ((i : Int) + (k : Int)).toNat = i + k := by omega
      have hbk := HBS.out (i + k)
      rw [HGet.out k hkn] at hbk
      have hlow := digB_int (m.getD k 0)
      have HBk := Lib.hid (HBad.out k hkn)
      have hv := HV.out k hkn
      have hp := HP.out k hk HJ.out
      have HP2 := Lib.hid (HP.out (k + 1) (by omega))
      have hm := (m.getD k 0).toNat_lt
      have HJ2 : RowKit.Hid (digB (m.getD k 0) = true → ∀ j, j < k + 1 → digB (m.getD j 0) = true) := by
        intro h0 j hj
        rcases Nat.lt_or_ge j k with h | h
        · exact HJ.out j h
        · rw [show j = k by omega]; exact h0
      obtain ⟨V2, hV2⟩ : ∃ V, valV (m.take (k + 1)) = V := ⟨_, rfl⟩
      rw [hV2] at hv HP2
      have HV2 := Lib.hid hV2
      clear hV2
      generalize valV (m.take k) = V at *
      generalize digB (m.getD k 0) = lo at *
      generalize (m.getD k 0).toNat = c at *
      by_cases h1 : c < 48
      · have t2 : decide ((c : Int) < 48) = true := decide_eq_true (by omega)
        rw [t2] at hlow
        have hx := HBk.out (by rw [hlow]; rfl)
        subst hx
        clear hlow HJ HJ2 h1 hv hp HP2 hm
        go_wp2
        go_ret
        exact ⟨rfl, rfl⟩
      · have t2 : decide ((c : Int) < 48) = false := decide_eq_false (by omega)
        rw [t2] at hlow
        by_cases h2 : 57 < c
        · have t3 : decide ((57 : Int) < (c : Int)) = true := decide_eq_true (by omega)
          rw [t3] at hlow
          have hx := HBk.out (by rw [hlow]; rfl)
          subst hx
          clear hlow HJ HJ2 h1 hv hp HP2 hm h2
          go_wp2
          go_ret
          exact ⟨rfl, rfl⟩
        · have t3 : decide ((57 : Int) < (c : Int)) = false := decide_eq_false (by omega)
          rw [t3] at hlow
          have hlo : lo = true := by rw [hlow]; rfl
          have HJ3 := Lib.hid (HJ2.out hlo)
          have hp3 := HP2.out HJ3.out
          have hsum : (V : Int) * 10 + (c : Int) - 48 = (V2 : Int) := by omega
          have HS := Lib.hid hsum
          have hmx : 48 ≤ c := by omega
          clear hlow HJ HJ2 h1 h2 HP2 hlo HBk hv hsum
          go_wp2
          go_roundw
          case rel =>
            exact ⟨k + 1, by omega, by go_num, by rw [HV2.out, ← HS.out], HJ3, trivial⟩
          case measure => simp [intOf]; omega
    · obtain rfl : k = n := by omega
      have hx := HAll.out HJ.out
      subst hx
      have hT := HT.out
      rw [hT]
      have i3 : ¬ (i : Int) + (k : Int) < (i : Int) + (k : Int) := by omega
      clear HJ hT
      go_wp2
      go_ret
      exact ⟨rfl, rfl⟩
end

section
open Go.RowKit Go.PlainAid
/-- What lies in memory while a field is read: the result's box, the field's box g, and a row of subfields behind them. -/
structure RF (w : World) (g : Nat) (W5 : World) (tg ix : ByteArray) (sv : Value) (au : Int) (L : List Sub) (wr : World) : Prop where
  lt : w.heap.size < g
  glt : g < W5.heap.size
  f : wr.heap[g]? = some (.cells #[.string tg, .string ix, sv, .int .i64 au] 37 (0, 0))
  r : wr.heap[w.heap.size]? = some (.cells #[.string ⟨#[]⟩, .string ⟨#[]⟩, .slice none 0 0, .int .i64 0] 37 (0, 0))
  own : wr.ownsRow W5.heap.size 34 2 sv L.length (cellsL L)
  size : W5.heap.size ≤ wr.heap.size
  bel : Below w.heap.size w wr
structure RFC (N g : Nat) (tg ix : ByteArray) (sv : Value) (au : Int) (wr : World) : Prop where
  c : wr.cell? ⟨g, 0, none⟩ = some (.string tg) ∧ wr.cell? ⟨g, 1, none⟩ = some (.string ix) ∧ wr.cell? ⟨g, 2, none⟩ = some sv ∧ wr.cell? ⟨g, 3, none⟩ = some (.int .i64 au)
  z : wr.frozen? ⟨g, 0, none⟩ = false ∧ wr.frozen? ⟨g, 1, none⟩ = false ∧ wr.frozen? ⟨g, 2, none⟩ = false ∧ wr.frozen? ⟨g, 3, none⟩ = false
  rc : wr.cell? ⟨N, 0, none⟩ = some (.string ⟨#[]⟩) ∧ wr.cell? ⟨N, 1, none⟩ = some (.string ⟨#[]⟩) ∧ wr.cell? ⟨N, 2, none⟩ = some (.slice none 0 0) ∧ wr.cell? ⟨N, 3, none⟩ = some (.int .i64 0)
  rz : wr.frozen? ⟨N, 0, none⟩ = false ∧ wr.frozen? ⟨N, 1, none⟩ = false ∧ wr.frozen? ⟨N, 2, none⟩ = false ∧ wr.frozen? ⟨N, 3, none⟩ = false
theorem fcells {g : Nat} {a b c d : Value} {wr : World} (h : wr.heap[g]? = some (.cells #[a, b, c, d] 37 (0, 0))) :
    (wr.cell? ⟨g, 0, none⟩ = some a ∧ wr.cell? ⟨g, 1, none⟩ = some b ∧ wr.cell? ⟨g, 2, none⟩ = some c ∧ wr.cell? ⟨g, 3, none⟩ = some d) ∧
    (wr.frozen? ⟨g, 0, none⟩ = false ∧ wr.frozen? ⟨g, 1, none⟩ = false ∧ wr.frozen? ⟨g, 2, none⟩ = false ∧ wr.frozen? ⟨g, 3, none⟩ = false) := by
  refine ⟨⟨?_, ?_, ?_, ?_⟩, Lib.frozen_of_heap h 0, Lib.frozen_of_heap h 1, Lib.frozen_of_heap h 2, Lib.frozen_of_heap h 3⟩ <;> (rw [Lib.cell_of_heap h]; rfl)
def setF4 (w : World) (b : Nat) (x0 x1 x2 x3 : Value) : World := (((w.setCell ⟨b, 0, none⟩ x0).setCell ⟨b, 1, none⟩ x1).setCell ⟨b, 2, none⟩ x2).setCell ⟨b, 3, none⟩ x3
theorem fld_set4 {w : World} {b : Nat} {c0 c1 c2 c3 x0 x1 x2 x3 : Value} (h : w.heap[b]? = some (.cells #[c0, c1, c2, c3] 37 (0, 0))) :
    (setF4 w b x0 x1 x2 x3).heap[b]? = some (.cells #[x0, x1, x2, x3] 37 (0, 0)) := by
  simp [setF4, World.setCell, Array.getElem?_modify, h]
theorem fld_other {w : World} {b : Nat} {x0 x1 x2 x3 : Value} (i : Nat) (h : i ≠ b) : (setF4 w b x0 x1 x2 x3).heap[i]? = w.heap[i]? := by
  unfold setF4
  rw [heap_set_ne _ _ _ _ (by exact h), heap_set_ne _ _ _ _ (by exact h), heap_set_ne _ _ _ _ (by exact h), heap_set_ne _ _ _ _ (by exact h)]
theorem fld_size {w : World} {b : Nat} {x0 x1 x2 x3 : Value} : (setF4 w b x0 x1 x2 x3).heap.size = w.heap.size := by simp [setF4, World.setCell]
theorem fld_below {N : Nat} {w W : World} {b : Nat} {x0 x1 x2 x3 : Value} (h : Below N w W) (hb : N ≤ b) : Below N w (setF4 W b x0 x1 x2 x3) :=
  (((h.setCell (p := ⟨b, 0, none⟩) hb _).setCell (p := ⟨b, 1, none⟩) hb _).setCell (p := ⟨b, 2, none⟩) hb _).setCell (p := ⟨b, 3, none⟩) hb _
section
variable {w W5 wr w3 : World} {g : Nat} {tg ix : ByteArray} {sv sv' : Value} {au : Int} {L : List Sub}
theorem RF.cells (h : RF w g W5 tg ix sv au L wr) : RFC w.heap.size g tg ix sv au wr :=
  have a := fcells h.f
  have b := fcells h.r
  ⟨a.1, a.2, b.1, b.2⟩
theorem RF.drew (h : RF w g W5 tg ix sv au L wr) : RF w g W5 tg ix sv au L wr.drew := ⟨h.lt, h.glt, h.f, h.r, h.own, h.size, h.bel.drew⟩
theorem RF.alloc (h : RF w g W5 tg ix sv au L wr) (o : Obj) : RF w g W5 tg ix sv au L (wr.alloc o) :=
  have h1 := h.lt
  have h2 := h.glt
  have h3 := h.size
  ⟨h1, h2, (Below.heap_alloc wr o _ (by omega)).trans h.f, (Below.heap_alloc wr o _ (by omega)).trans h.r, h.own.alloc o, by simp; omega, h.bel.alloc (by omega) o⟩
/-- Behind an append, before the store. -/
theorem RF.app (h : RF w g W5 tg ix sv au L wr) (o : Obj) (hg : (wr.alloc o).grownBy w3 sv.ownBlock) :
    w3.heap[g]? = some (.cells #[.string tg, .string ix, sv, .int .i64 au] 37 (0, 0)) ∧ w3.heap[w.heap.size]? = some (.cells #[.string ⟨#[]⟩, .string ⟨#[]⟩, .slice none 0 0, .int .i64 0] 37 (0, 0)) ∧ W5.heap.size ≤ w3.heap.size ∧ Below w.heap.size w w3 := by
  have ha := h.alloc o
  have h1 := ha.lt
  have h2 := ha.glt
  have h3 := ha.size
  have hb := fun k hk => (World.ownsRow.lt ha.own k hk).1
  exact ⟨(hg.block _ (by omega) (fun e => by have := hb _ e.symm; omega)).trans ha.f, (hg.block _ (by omega) (fun e => by have := hb _ e.symm; omega)).trans ha.r, Nat.le_trans h3 hg.size, ha.bel.grown hg (by omega) (fun k hk => by have := hb k hk; omega)⟩
theorem RF.store {x : Sub} (hlt : w.heap.size < g) (hgl : g < W5.heap.size) (hf : w3.heap[g]? = some (.cells #[.string tg, .string ix, sv, .int .i64 au] 37 (0, 0)))
    (hr : w3.heap[w.heap.size]? = some (.cells #[.string ⟨#[]⟩, .string ⟨#[]⟩, .slice none 0 0, .int .i64 0] 37 (0, 0))) (hm : W5.heap.size ≤ w3.heap.size) (he : Below w.heap.size w w3)
    (ho : w3.ownsRow W5.heap.size 34 2 sv' (L.length + 1) (cellsL L ++ encS x)) : RF w g W5 tg ix sv' au (L ++ [x]) (w3.setCell ⟨g, 2, none⟩ sv') := by
  refine ⟨hlt, hgl, by simp [World.setCell, Array.getElem?_modify, hf], (heap_set_ne w3 _ _ _ (by show w.heap.size ≠ g; omega)).trans hr, own_setCell ?_ (p := ⟨g, 2, none⟩) hgl _, by simpa using hm, he.setCell (p := ⟨g, 2, none⟩) (Nat.le_of_lt hlt) _⟩
  rw [cellsL_snoc, List.length_append]
  exact ho
theorem RF.ret (h : RF w g W5 tg ix sv au L wr) :
    RowKit.Hid ((setF4 wr w.heap.size (.string tg) (.string ix) sv (.int .i64 au)).heap[w.heap.size]? = some (.cells #[.string tg, .string ix, sv, .int .i64 au] 37 (0, 0))) ∧
    RowKit.Hid (New w.heap.size (QL sv L) (setF4 wr w.heap.size (.string tg) (.string ix) sv (.int .i64 au))) ∧
    RowKit.Hid (Below w.heap.size w (setF4 wr w.heap.size (.string tg) (.string ix) sv (.int .i64 au))) := by
  have h1 := h.lt
  have h2 := h.glt
  refine ⟨fld_set4 h.r, ?_, fld_below h.bel (Nat.le_refl _)⟩
  exact (own_new (own_same h.own (fun i hi _ => fld_other i (by omega)))).mono (by omega)
end
end

section
open Go.RowKit Go.PlainAid
/-- A new box of a field. -/
def SPR.boxF (W0 : World) : SPR (fun u v => Below u.heap.size u v) := ⟨fun v w => ∃ g, v = .pointer (some ⟨g, 0, none⟩) ∧ W0.heap.size ≤ g ∧ w.heap[g]? = some (.cells #[.string ⟨#[]⟩, .string ⟨#[]⟩, .slice none 0 0, .int .i64 0] 37 (0, 0)),
  fun _ w _ h b => by
    obtain ⟨g, h1, h2, h3⟩ := h
    exact ⟨g, h1, h2, (b.block g (Array.getElem?_eq_some_iff.1 h3).1).trans h3⟩⟩

theorem subG_end (l : List UInt8) (h : l.length = 0 ∨ l.getD 0 0 ≠ 31) : subG l = some [] := by
  rw [subG, if_pos h]
theorem subG_bad (l : List UInt8) (h0 : ¬ (l.length = 0 ∨ l.getD 0 0 ≠ 31)) (h : l.length ≤ stopF (l.drop 2) + 2) : subG l = none := by
  rw [subG, if_neg h0, dif_pos h]
theorem subG_go (l : List UInt8) (h0 : ¬ (l.length = 0 ∨ l.getD 0 0 ≠ 31)) (h : ¬ l.length ≤ stopF (l.drop 2) + 2) :
    subG l = (subG (l.drop (stopF (l.drop 2) + 2))).map ((l.getD 1 0, (l.drop 2).take (stopF (l.drop 2))) :: ·) := by
  rw [subG, if_neg h0, dif_neg h]
theorem stop_go : ∀ (l : List UInt8) (j : Nat), j < stopF l → j < l.length ∧ l.getD j 0 ≠ 31 ∧ l.getD j 0 ≠ 30
  | [], j, h => by cases h
  | x :: t, 0, h => by
    unfold stopF at h
    by_cases hx : x = 31 ∨ x = 30
    · rw [if_pos hx] at h; cases h
    · exact ⟨by simp, fun e => hx (.inl e), fun e => hx (.inr e)⟩
  | x :: t, j + 1, h => by
    unfold stopF at h
    by_cases hx : x = 31 ∨ x = 30
    · rw [if_pos hx] at h; cases h
    · rw [if_neg hx] at h
      have := stop_go t j (by omega)
      exact ⟨by rw [List.length_cons]; omega, this.2⟩
theorem stop_stop : ∀ (l : List UInt8), stopF l = l.length ∨ (stopF l < l.length ∧ (l.getD (stopF l) 0 = 31 ∨ l.getD (stopF l) 0 = 30))
  | [] => .inl rfl
  | x :: t => by
    unfold stopF
    by_cases hx : x = 31 ∨ x = 30
    · rw [if_pos hx]
      exact .inr ⟨by simp, hx⟩
    · rw [if_neg hx]
      rcases stop_stop t with h | ⟨h, h2⟩
      · exact .inl (by rw [h, List.length_cons])
      · exact .inr ⟨by rw [List.length_cons]; omega, h2⟩
theorem getD_drop (l : List UInt8) (i j : Nat) : (l.drop i).getD j 0 = l.getD (i + j) 0 := by
  rw [List.getD_eq_getElem?_getD, List.getD_eq_getElem?_getD, List.getElem?_drop]
theorem u8_int (a : UInt8) (b : Nat) (hb : b < 256) : ((a.toNat : Int) = (b : Int)) ↔ a = UInt8.ofNat b := by
  constructor
  · intro h
    apply UInt8.toNat_inj.1
    simp
    omega
  · rintro rfl
    simp
    omega

set_option maxHeartbeats 16000000 in
set_option maxRecDepth 100000 in
theorem refField_any (tag l : List UInt8) (h7 : 7 ≤ l.length) (hz : l.length ≤ 100000) (w : World) :
    Calls Tryz.prog 34 #[.string (S tag), .string (S l)] w fun e w' => ∃ f u ok, e = .returned (.tuple #[FV f u, .bool ok]) ∧ Below w.heap.size w w' ∧ New w.heap.size (QL u f.subs) w' ∧ ((fldG tag l = some f ∧ ok = true) ∨ (fldG tag l = none ∧ ok = false)) := by
  obtain ⟨Q, hQ⟩ : ∃ Q, (fun (e : Ending) (w' : World) => ∃ f u ok, e = .returned (.tuple #[FV f u, .bool ok]) ∧ Below w.heap.size w w' ∧ New w.heap.size (QL u f.subs) w' ∧ ((fldG tag l = some f ∧ ok = true) ∨ (fldG tag l = none ∧ ok = false))) = Q := ⟨_, rfl⟩
  rw [hQ]
  have HQ : RowKit.Hid (∀ e w', (∃ f u ok, e = .returned (.tuple #[FV f u, .bool ok]) ∧ Below w.heap.size w w' ∧ New w.heap.size (QL u f.subs) w' ∧ ((fldG tag l = some f ∧ ok = true) ∨ (fldG tag l = none ∧ ok = false))) → Q e w') := by rw [← hQ]; exact fun _ _ h => h
  clear hQ
  obtain ⟨au, hau⟩ : ∃ au, numF l 2 4 = au := ⟨_, rfl⟩
  have cN := Lib.hid (fun W => refNumber_any l (by omega) 2 4 (by omega) (by omega) au hau W)
  have HF : RowKit.Hid (fldG tag l = (subG (l.drop 6)).map fun L => ⟨tag, l.take 2, L, au⟩) := by
    unfold RowKit.Hid fldG
    rw [hau]
  have HEx : RowKit.Hid ((S l).extract 0 2 = S (l.take 2)) := by unfold RowKit.Hid; rw [S_extract, List.drop_zero]
  obtain ⟨z, hlz⟩ : ∃ z, l.length = z := ⟨_, rfl⟩
  have hsz : (S l).size = z := by rw [S_size, hlz]
  have HZ := Lib.hid hlz
  have hbt := get_bt (S l)
  have HBS := Lib.hid (fun i => bt_S l i)
  have HExt := Lib.hid (fun a b => S_extract l a b)
  have HD0 : RowKit.Hid (subG (l.drop 6) = (subG (l.drop 6)).map (([] : List Sub) ++ ·)) := by
    unfold RowKit.Hid
    cases subG (l.drop 6) <;> rfl
  have HSz2 : RowKit.Hid (2 ≤ z) := by unfold RowKit.Hid; omega
  rw [hlz] at h7 hz
  change RowKit.Hid (∀ W, Calls _ _ #[_, .int .i64 2, .int .i64 4] W _) at cN
  obtain ⟨s, hs⟩ : ∃ s, S l = s := ⟨_, rfl⟩
  rw [hs] at hsz hbt HBS HExt HEx cN ⊢
  have HS := Lib.hid hs
  clear hs hlz hau
  obtain ⟨si, hsi⟩ : ∃ s, S (l.take 2) = s := ⟨_, rfl⟩
  have HSi := Lib.hid hsi
  rw [hsi] at HEx
  clear hsi
  obtain ⟨stg, hstg⟩ : ∃ s, S tag = s := ⟨_, rfl⟩
  have HStg := Lib.hid hstg
  rw [hstg]
  clear hstg
  obtain ⟨W0, hW0⟩ : ∃ W0, w.alloc (.cells #[.string ⟨#[]⟩, .string ⟨#[]⟩, .slice none 0 0, .int .i64 0] 37) = W0 := ⟨_, rfl⟩
  have b0 : Below w.heap.size w W0 := by rw [← hW0]; exact (Below.refl w.heap.size w).alloc (Nat.le_refl _) _
  have hR0 : W0.heap[w.heap.size]? = some (.cells #[.string ⟨#[]⟩, .string ⟨#[]⟩, .slice none 0 0, .int .i64 0] 37 (0, 0)) := by rw [← hW0]; exact heap_alloc_new w _
  have hlt0 : w.heap.size < W0.heap.size := by rw [← hW0]; simp
  have HW0 := Lib.hid hW0
  have B0 := Lib.hid b0
  have HR0 := Lib.hid hR0
  clear hW0 b0 hR0
  go_enter Tryz.func34, Tryz.ntmps34
  go_upto_region 1 with fail
  rw [HW0.out]
  apply wp_region_end (R := fun u v => Below u.heap.size u v) (V := [SPR.eq _ (.string stg), SPR.eq _ (.string s), SPR.eq _ (.string si), SPR.eq _ (.string s), SPR.eq _ (.int .i64 au), SPR.eq _ (.agg #[.string stg, .string si, .slice none 0 0, .int .i64 au]), (SPR.boxF W0)]) (n := 7) (f := 2)
  case htrans => exact fun _ _ _ h k => h.trans (k.mono h.size)
  case hdrew => exact (Below.refl _ _).drew
  case hm => kernel_rfl
  case hd => kernel_rfl
  case hb => kernel_rfl
  case hA =>
    intro vs
    simp only [List.take_succ_cons, List.take_zero, puts, Act.put, List.setIfInBounds_toArray, List.set_cons_zero, List.set_cons_succ]
    exact rfl
  case hlast => kernel_rfl
  case hol => exact rfl
  case hob =>
    refine ObsR.cons _ _ _ _ _ _ _ ?o0 (ObsR.cons _ _ _ _ _ _ _ ?o1 (ObsR.cons _ _ _ _ _ _ _ ?o2 (ObsR.cons _ _ _ _ _ _ _ ?o3 (ObsR.cons _ _ _ _ _ _ _ ?o4 (ObsR.cons _ _ _ _ _ _ _ ?o5 (ObsR.cons _ _ _ _ _ _ _ ?o6 (ObsR.nil _ _ _ _ _ _ _)))))))
    case o0 =>
      intro vs W hw hd K hK
      go_simp
      exact hK.out _ _ rfl (Below.refl _ _)
    case o1 =>
      intro vs W hw hd K hK
      go_simp
      exact hK.out _ _ rfl (Below.refl _ _)
    case o2 =>
      intro vs W hw hd K hK
      have h1 : vs 1 = .string s := hd 1 (by kernel_rfl)
      have hx := HEx.out
      have h2 : (2 : Int) ≤ (z : Int) := by have := HSz2.out; omega
      simp only [Nat.reduceAdd, h1] at hK ⊢
      go_simp
      exact hK.out _ _ rfl (Below.refl _ _)
    case o3 =>
      intro vs W hw hd K hK
      go_simp
      exact hK.out _ _ rfl (Below.refl _ _)
    case o4 =>
      intro vs W hw hd K hK
      have h3 : vs 3 = .string s := hd 3 (by kernel_rfl)
      simp only [Nat.reduceAdd, h3] at hK ⊢
      go_simp
      refine (cN.out W).mono ?_
      rintro e W' ⟨rfl, hb'⟩
      rw [hb']
      exact hK.out _ _ rfl (Below.refl _ _)
    case o5 =>
      intro vs W hw hd K hK
      have h0 : vs 0 = .string stg := hd 0 (by kernel_rfl)
      have h2 : vs 2 = .string si := hd 2 (by kernel_rfl)
      have h4 : vs 4 = .int .i64 au := hd 4 (by kernel_rfl)
      simp only [Nat.reduceAdd, h0, h2, h4] at hK ⊢
      go_simp
      exact hK.out _ _ rfl (Below.refl _ _)
    case o6 =>
      intro vs W hw hd K hK
      go_simp
      exact hK.out _ _ ⟨W.heap.size, rfl, hw.size, heap_alloc_new W _⟩ ((Below.refl _ _).alloc (Nat.le_refl _) _)
  case hfin =>
    intro vs W hw hv'
    have e5 : vs 5 = .agg #[.string stg, .string si, .slice none 0 0, .int .i64 au] := hv' 5 (by decide)
    obtain ⟨g, e6, hg0, hg⟩ : ∃ g, vs 6 = .pointer (some ⟨g, 0, none⟩) ∧ W0.heap.size ≤ g ∧ W.heap[g]? = some (.cells #[.string ⟨#[]⟩, .string ⟨#[]⟩, .slice none 0 0, .int .i64 0] 37 (0, 0)) := hv' 6 (by decide)
    obtain ⟨⟨x0, x1, x2, x3⟩, z0, z1, z2, z3⟩ := fcells hg
    simp only [Nat.reduceAdd, e5, e6]
    have HRF : RowKit.Hid (RF w g (setF4 W g (.string stg) (.string si) (.slice none 0 0) (.int .i64 au)) stg si (.slice none 0 0) au [] (setF4 W g (.string stg) (.string si) (.slice none 0 0) (.int .i64 au))) := by
      refine ⟨by omega, by rw [fld_size]; exact (Array.getElem?_eq_some_iff.1 hg).1, fld_set4 hg, (fld_other _ (by omega)).trans ((hw.block _ hlt0).trans HR0.out), World.ownsRow_nil _ _ _ _, Nat.le_refl _, fld_below (B0.out.trans (hw.mono B0.out.size)) (by omega)⟩
    unfold setF4 at HRF
    clear hv' e5 e6 hw hg hg0 HW0 HR0 B0
    go_simp
    obtain ⟨W5, hW5⟩ : ∃ W5, (((W.setCell ⟨g, 0, none⟩ (.string stg)).setCell ⟨g, 1, none⟩ (.string si)).setCell ⟨g, 2, none⟩ (.slice none 0 0)).setCell ⟨g, 3, none⟩ (.int .i64 au) = W5 := ⟨_, rfl⟩
    rw [hW5] at HRF ⊢
    clear hW5 x0 x1 x2 x3 z0 z1 z2 z3 cN HEx
    go_wp2
    go_loopw [7] (fun i wr => ∃ (k n : Nat) (L : List Sub) (ao : Option Addr) (cp : Nat), i = .int .i64 (k : Int) ∧ 6 ≤ k ∧ k ≤ z ∧ L.length = n ∧ n ≤ k ∧ RowKit.Hid (subG (l.drop 6) = (subG (l.drop k)).map (L ++ ·)) ∧ RowKit.Hid (RF w g W5 stg si (.slice ao n cp) au L wr)) (fun i _ => z - (intOf i).toNat)
    case atStart => exact ⟨6, 0, [], none, 0, rfl, Nat.le_refl _, by omega, rfl, Nat.zero_le _, HD0, HRF⟩
    case round =>
      obtain ⟨k, n, L, ao, cp, rfl, hk6, hkz, hLn, hnk, HD, HN⟩ := hrel
      have i1 : (0 : Int) ≤ (k : Int) := by omega
      by_cases hkz2 : k < z
      · have i2 : (k : Int) < (z : Int) := by omega
        have hbk := HBS.out k
        by_cases h31 : l.getD k 0 = 31
        · rw [h31] at hbk
          have e31 : (((31 : UInt8).toNat : Nat) : Int) = 31 := rfl
          rw [e31] at hbk
          obtain ⟨st, hst⟩ : ∃ n, stopF (l.drop (k + 2)) = n := ⟨_, rfl⟩
          have hn0 : ¬ ((l.drop k).length = 0 ∨ (l.drop k).getD 0 0 ≠ 31) := by
            rw [List.length_drop, HZ.out, getD_drop, Nat.add_zero, h31]
            intro h
            rcases h with h | h
            · omega
            · exact h rfl
          have hstl := stopF_le (l.drop (k + 2))
          rw [hst, List.length_drop, HZ.out] at hstl
          have HGo := Lib.hid (stop_go (l.drop (k + 2)))
          have HStop := Lib.hid (stop_stop (l.drop (k + 2)))
          have HBad : RowKit.Hid (z ≤ k + 2 + st → subG (l.drop k) = none) := by
            intro h
            refine subG_bad _ hn0 ?_
            rw [List.length_drop, HZ.out, List.drop_drop, hst]
            omega
          have HMore : RowKit.Hid (¬ z ≤ k + 2 + st → subG (l.drop k) = (subG (l.drop (k + 2 + st))).map ((l.getD (k + 1) 0, (l.drop (k + 2)).take st) :: ·)) := by
            intro h
            rw [subG_go _ hn0 (by rw [List.length_drop, HZ.out, List.drop_drop, hst]; omega), List.drop_drop, List.drop_drop, hst, getD_drop, show k + (st + 2) = k + 2 + st by omega]
          rw [hst] at HGo HStop
          have HStL : RowKit.Hid (st = z - (k + 2) ∨ (st < z - (k + 2) ∧ (l.getD (k + 2 + st) 0 = 31 ∨ l.getD (k + 2 + st) 0 = 30))) := by
            have := HStop.out
            rw [List.length_drop, HZ.out, getD_drop] at this
            exact this
          clear hst h31 hn0 e31 HStop
          go_upto_block 2 with fail
          go_cut [8] from 27 to 44 (fun p wx => p = .int .i64 ((k : Int) + 2 + (st : Int)) ∧ wx = wr)
          case first =>
            go_wp2
            go_loopw [8] (fun p wx => ∃ j : Nat, j ≤ st ∧ p = .int .i64 ((k : Int) + 2 + (j : Int)) ∧ wx = wr) (fun p _ => k + 2 + st - (intOf p).toNat)
            case atStart => exact ⟨0, Nat.zero_le _, by go_num, rfl⟩
            case round =>
              obtain ⟨j, hj, rfl, rfl⟩ := hrel
              clear hbk
              have hbk := HBS.out (k + 2 + j)
              have p1 : (0 : Int) ≤ (k : Int) + 2 + (j : Int) := by omega
              have p3 : ((k : Int) + 2 + (j : Int)).toNat = k + 2 + j := by omega
              by_cases hjs : j < st
              · obtain ⟨g1, g2, g3⟩ := HGo.out j hjs
                rw [getD_drop] at g2 g3
                rw [List.length_drop, HZ.out] at g1
                have p2 : (k : Int) + 2 + (j : Int) < (z : Int) := by omega
                have t31 : ¬ ((l.getD (k + 2 + j) 0).toNat : Int) = 31 := fun h => g2 ((u8_int _ 31 (by decide)).1 h)
                have t30 : ¬ ((l.getD (k + 2 + j) 0).toNat : Int) = 30 := fun h => g3 ((u8_int _ 30 (by decide)).1 h)
                have u1 : (((l.getD (k + 2 + j) 0).toNat : Int) != 31) = true := by simpa using t31
                have u2 : (((l.getD (k + 2 + j) 0).toNat : Int) != 30) = true := by simpa using t30
                clear g1 g2 g3
                generalize ((l.getD (k + 2 + j) 0).toNat : Int) = c at *
                go_wp2
                go_roundw
                case rel => exact ⟨j + 1, by omega, by go_num, trivial⟩
                case measure => simp [intOf]; omega
              · obtain rfl : j = st := by omega
                rcases HStL.out with h | ⟨h, h2⟩
                · have p2 : decide ((k : Int) + 2 + (j : Int) < (z : Int)) = false := decide_eq_false (by omega)
                  clear hbk h
                  go_wp2
                  go_meet
                  exact ⟨rfl, rfl⟩
                · have p2 : (k : Int) + 2 + (j : Int) < (z : Int) := by omega
                  rcases h2 with h2 | h2
                  · rw [h2] at hbk
                    have e31 : (((31 : UInt8).toNat : Nat) : Int) = 31 := rfl
                    rw [e31] at hbk
                    clear e31 h2 h
                    go_wp2
                    go_meet
                    exact ⟨rfl, rfl⟩
                  · rw [h2] at hbk
                    have e30 : (((30 : UInt8).toNat : Nat) : Int) = 30 := rfl
                    rw [e30] at hbk
                    clear e30 h2 h
                    go_wp2
                    go_meet
                    exact ⟨rfl, rfl⟩
          case rest =>
            obtain ⟨rfl, hwx⟩ := hcut
            rw [hwx]
            clear hwx HGo HStL
            by_cases hpz : z ≤ k + 2 + st
            · have HNone : RowKit.Hid (fldG tag l = none) := by
                unfold RowKit.Hid
                rw [HF.out, HD.out, HBad.out hpz]
                rfl
              have t1 : decide ((z : Int) ≤ (k : Int) + 2 + (st : Int)) = true := decide_eq_true (by omega)
              obtain ⟨⟨f0, f1, f2, f3⟩, ⟨z0, z1, z2, z3⟩, ⟨r0, r1, r2, r3⟩, y0, y1, y2, y3⟩ := HN.out.cells
              obtain ⟨hfin, hnew, hexc⟩ := HN.out.ret
              have hgne : (w.heap.size : Nat) ≠ g := by have := HN.out.lt; omega
              unfold setF4 at hfin hnew hexc
              clear HN HD HBad HMore hpz hbk
              go_wp2
              refine bodyPost_ret (results_row_tmp10 rfl _ _ w.heap.size _ _ _ _ rfl hfin.out Tryz.underlying37 rfl (by kernel_rfl)) rfl ?_
              exact HQ.out _ _ ⟨⟨tag, l.take 2, L, au⟩, _, false, by unfold FV; rw [HStg.out, HSi.out]; rfl, hexc.out, hnew.out, .inr ⟨HNone.out, rfl⟩⟩
            · have t1 : decide ((z : Int) ≤ (k : Int) + 2 + (st : Int)) = false := decide_eq_false (by omega)
              have hb1 := HBS.out (k + 1)
              have hx2 := HExt.out (k + 2) (k + 2 + st)
              rw [List.drop_take, Nat.add_sub_cancel_left] at hx2
              have q0 : (0 : Int) ≤ (k : Int) + 1 := by omega
              have q1 : (k : Int) + 1 < (z : Int) := by omega
              have q2 : ((k : Int) + 1).toNat = k + 1 := by omega
              have q3 : (0 : Int) ≤ (k : Int) + 2 := by omega
              have q4 : (k : Int) + 2 ≤ (k : Int) + 2 + (st : Int) := by omega
              have q5 : (k : Int) + 2 + (st : Int) ≤ (z : Int) := by omega
              have q6 : ((k : Int) + 2).toNat = k + 2 := by omega
              have q7 : ((k : Int) + 2 + (st : Int)).toNat = k + 2 + st := by omega
              have HD2 : RowKit.Hid (subG (l.drop 6) = (subG (l.drop (k + 2 + st))).map ((L ++ [(l.getD (k + 1) 0, (l.drop (k + 2)).take st)]) ++ ·)) := by
                unfold RowKit.Hid
                rw [HD.out, HMore.out hpz]
                cases subG (l.drop (k + 2 + st)) <;> simp
              obtain ⟨x, hx⟩ : ∃ x, l.getD (k + 1) 0 = x := ⟨_, rfl⟩
              obtain ⟨v, hv⟩ : ∃ v, (l.drop (k + 2)).take st = v := ⟨_, rfl⟩
              rw [hx] at hb1 HD2
              rw [hv] at hx2 HD2
              obtain ⟨sv, hsv⟩ : ∃ s, S v = s := ⟨_, rfl⟩
              rw [hsv] at hx2
              have HSv := Lib.hid hsv
              have hND := HN.out.drew
              have hlt5 := HN.out.lt
              have hglt := HN.out.glt
              obtain ⟨⟨f0, f1, f2, f3⟩, ⟨z0, z1, z2, z3⟩, -, -⟩ := HN.out.cells
              have f2a : (wr.alloc (.cells #[.int .u8 (x.toNat : Int), .string sv] 34)).cell? ⟨g, 2, none⟩ = some (.slice ao n cp) := (World.cell?_alloc_lt wr _ ⟨g, 2, none⟩ (show g < wr.heap.size by have := HN.out.size; omega)).trans f2
              have hrow := hND.own.alloc (.cells #[.int .u8 (x.toNat : Int), .string sv] 34)
              rw [hLn] at hrow
              have hcl2 := cells_two10 wr.drew (.int .u8 (x.toNat : Int)) (.string sv) 34
              have hbs : W5.heap.size ≤ (wr.drew.alloc (.cells #[.int .u8 (x.toNat : Int), .string sv] 34)).heap.size := (hND.alloc (.cells #[.int .u8 (x.toNat : Int), .string sv] 34)).size
              have HApp := Lib.hid (fun w3 hg => hND.app (w3 := w3) (.cells #[.int .u8 (x.toNat : Int), .string sv] 34) hg)
              have HSto := Lib.hid (fun w3 v' h3 h4 h5 h6 h7 => RF.store (w := w) (g := g) (W5 := W5) (tg := stg) (ix := si) (sv := .slice ao n cp) (au := au) (L := L) (sv' := v') (w3 := w3) (x := (x, v)) hlt5 hglt h3 h4 h5 h6 h7)
              rw [hLn] at HSto
              unfold encS at HSto
              simp only at HSto
              rw [hsv] at HSto
              have hn1 : n + 1 ≤ 1000000 := by omega
              have hwr1 : IntKind.i64.wrap ((k : Int) + 1) = (k : Int) + 1 := by rw [IntKind.wrap_i64]; omega
              have hwr2 : IntKind.i64.wrap ((k : Int) + 2) = (k : Int) + 2 := by rw [IntKind.wrap_i64]; omega
              clear hsv hx hv hND hpz HBad HMore HD HN hbk hlt5 hglt
              go_upto_region 9 with fail
              go_region_law (first
                | (refine step_append_sub _ (by rfl) _ _ (by rfl) W5.heap.size _ n L (by rfl) hrow (.int .u8 (x.toNat : Int)) (.string sv) rfl rfl ⟨wr.heap.size, 0, none⟩ (by rfl) hcl2 hn1 hbs ?_; intro g3 cap3 w3 hown3 hgrow3; have hA3 := HApp.out w3 hgrow3; have y2 : w3.cell? ⟨g, 2, none⟩ = some (.slice ao n cp) := (by rw [Lib.cell_of_heap hA3.1]; rfl); have y3 := Lib.frozen_of_heap hA3.1 2; have HA3 := Lib.hid hA3; have HO3 := Lib.hid hown3; clear hA3 hown3 hgrow3))
              all_goals
                have HO4 := Lib.hid (HSto.out w3 _ HA3.out.1 HA3.out.2.1 HA3.out.2.2.1 HA3.out.2.2.2 HO3.out)
                clear HA3 HO3 HSto HApp hrow hcl2 hbs f0 f1 f2 f3 f2a z0 z1 z2 z3
                go_wp2
                go_roundw
                case rel => exact ⟨k + 2 + st, n + 1, L ++ [(x, v)], _, _, by go_num, by omega, by omega, by rw [List.length_append, hLn]; rfl, by omega, HD2, HO4⟩
                case measure => simp [intOf]; omega
        · have HEnd : RowKit.Hid (fldG tag l = some ⟨tag, l.take 2, L, au⟩) := by
            unfold RowKit.Hid
            rw [HF.out, HD.out, subG_end _ (.inr (by rw [getD_drop, Nat.add_zero]; exact h31))]
            simp
          have t31 : ¬ ((l.getD k 0).toNat : Int) = 31 := fun h => h31 ((u8_int _ 31 (by decide)).1 h)
          have t32 : decide (((l.getD k 0).toNat : Int) = 31) = false := decide_eq_false t31
          have t33 : (((l.getD k 0).toNat : Int) == 31) = false := by simpa using t31
          obtain ⟨⟨f0, f1, f2, f3⟩, ⟨z0, z1, z2, z3⟩, ⟨r0, r1, r2, r3⟩, y0, y1, y2, y3⟩ := HN.out.cells
          obtain ⟨hfin, hnew, hexc⟩ := HN.out.ret
          have hgne : (w.heap.size : Nat) ≠ g := by have := HN.out.lt; omega
          unfold setF4 at hfin hnew hexc
          clear h31 HN HD
          generalize ((l.getD k 0).toNat : Int) = c at *
          go_wp2
          refine bodyPost_ret (results_row_tmp10 rfl _ _ w.heap.size _ _ _ _ rfl hfin.out Tryz.underlying37 rfl (by kernel_rfl)) rfl ?_
          exact HQ.out _ _ ⟨⟨tag, l.take 2, L, au⟩, _, true, by unfold FV; rw [HStg.out, HSi.out]; rfl, hexc.out, hnew.out, .inl ⟨HEnd.out, rfl⟩⟩
      · obtain rfl : k = z := by omega
        have HEnd : RowKit.Hid (fldG tag l = some ⟨tag, l.take 2, L, au⟩) := by
          unfold RowKit.Hid
          rw [HF.out, HD.out, subG_end _ (.inl (by rw [List.length_drop, HZ.out]; omega))]
          simp
        obtain ⟨⟨f0, f1, f2, f3⟩, ⟨z0, z1, z2, z3⟩, ⟨r0, r1, r2, r3⟩, y0, y1, y2, y3⟩ := HN.out.cells
        obtain ⟨hfin, hnew, hexc⟩ := HN.out.ret
        have hgne : (w.heap.size : Nat) ≠ g := by have := HN.out.lt; omega
        unfold setF4 at hfin hnew hexc
        clear HN HD
        go_wp2
        refine bodyPost_ret (results_row_tmp10 rfl _ _ w.heap.size _ _ _ _ rfl hfin.out Tryz.underlying37 rfl (by kernel_rfl)) rfl ?_
        exact HQ.out _ _ ⟨⟨tag, l.take 2, L, au⟩, _, true, by unfold FV; rw [HStg.out, HSi.out]; rfl, hexc.out, hnew.out, .inl ⟨HEnd.out, rfl⟩⟩
end

end Go.Proofs.YtiledacfdaenbaaGreatDoor
