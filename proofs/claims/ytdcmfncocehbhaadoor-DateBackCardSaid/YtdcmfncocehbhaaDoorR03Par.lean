/- libraryref03.Parse, at every text. -/
import Derived.Test.YtdcmfncocehbhaaDoorR03Of
import Derived.PlainAid
import Derived.RegionTactic
import Derived.ChangeAlike
import Derived.BigRegion
import Derived.Deep.RegionHeld3
namespace Go.Proofs.YtdcmfncocehbhaaDoor
open Go.RowKit Go.PlainAid

/-- Whether the byte at a place may stand there. -/
def fitsAt (s : ByteArray) (i : Nat) : Bool := if i = 4 ∨ i = 7 then bt s i == 45 else decide (48 ≤ bt s i) && decide (bt s i ≤ 57)
/-- The number that stands from a place on, so many digits. -/
def numAt (s : ByteArray) (a : Nat) : Nat → Nat
  | 0 => 0
  | k + 1 => 10 * numAt s a k + (bt s (a + k) - 48).toNat
theorem numAt_bound (s : ByteArray) (a k : Nat) (h : k ≤ 4) : numAt s a k ≤ 230000 := by
  have h1 : ∀ k, numAt s a k + 23 ≤ 23 * 10 ^ k := by
    intro k
    induction k with
    | zero => simp [numAt]
    | succ k ih =>
      have := bt_le s (a + k)
      have := bt_nonneg s (a + k)
      simp only [numAt, Nat.pow_succ]
      omega
  have h2 := h1 k
  have h3 : 10 ^ k ≤ 10 ^ 4 := Nat.pow_le_pow_right (by decide) h
  omega

set_option maxHeartbeats 4000000 in
theorem refParse_size (s : ByteArray) (h : s.size ≠ 10) (w : World) :
    Calls Tryd.prog 22 #[.string s] w fun e w' => e = .returned (.tuple #[.int .i64 0, .int .i64 3]) ∧ Below w.heap.size w w' := by
  have d1 : ((s.size : Int) != 10) = true := by simp; omega
  go_enter Tryd.func22, Tryd.ntmps22
  go_wp2
  go_ret2
  exact ⟨rfl, Below.refl _ _⟩

/-- The three numbers in their block. -/
structure PSt (w : World) (x y z : Nat) (wr : World) : Prop where
  row : wr.heap[w.heap.size]? = some (.cells #[.int .i64 (x : Int), .int .i64 (y : Int), .int .i64 (z : Int)] 3 (0, 0))
  bel : Below w.heap.size w wr
theorem PSt.c0 {w wr : World} {x y z : Nat} (h : PSt w x y z wr) : wr.cell? ⟨w.heap.size, 0, none⟩ = some (.int .i64 (x : Int)) := by
  have := h.row; simp [World.cell?, this]
theorem PSt.c1 {w wr : World} {x y z : Nat} (h : PSt w x y z wr) : wr.cell? ⟨w.heap.size, 1, none⟩ = some (.int .i64 (y : Int)) := by
  have := h.row; simp [World.cell?, this]
theorem PSt.c2 {w wr : World} {x y z : Nat} (h : PSt w x y z wr) : wr.cell? ⟨w.heap.size, 2, none⟩ = some (.int .i64 (z : Int)) := by
  have := h.row; simp [World.cell?, this]
theorem PSt.fz {w wr : World} {x y z : Nat} (h : PSt w x y z wr) (i : Nat) : wr.frozen? ⟨w.heap.size, i, none⟩ = false := by
  have := h.row; simp [World.frozen?, this]
theorem PSt.s0 {w wr : World} {x y z : Nat} (h : PSt w x y z wr) (v : Nat) : PSt w v y z (wr.setCell ⟨w.heap.size, 0, none⟩ (.int .i64 (v : Int))) :=
  ⟨by simp [World.setCell, Array.getElem?_modify, h.row], h.bel.setCell (p := ⟨w.heap.size, 0, none⟩) (Nat.le_refl _) _⟩
theorem PSt.s1 {w wr : World} {x y z : Nat} (h : PSt w x y z wr) (v : Nat) : PSt w x v z (wr.setCell ⟨w.heap.size, 1, none⟩ (.int .i64 (v : Int))) :=
  ⟨by simp [World.setCell, Array.getElem?_modify, h.row], h.bel.setCell (p := ⟨w.heap.size, 1, none⟩) (Nat.le_refl _) _⟩
theorem PSt.s2 {w wr : World} {x y z : Nat} (h : PSt w x y z wr) (v : Nat) : PSt w x y v (wr.setCell ⟨w.heap.size, 2, none⟩ (.int .i64 (v : Int))) :=
  ⟨by simp [World.setCell, Array.getElem?_modify, h.row], h.bel.setCell (p := ⟨w.heap.size, 2, none⟩) (Nat.le_refl _) _⟩

theorem PSt.drew {w wr : World} {x y z : Nat} (h : PSt w x y z wr) : PSt w x y z wr.drew := ⟨h.row, h.bel.drew⟩

theorem PSt.after {w wr w' : World} {x y z : Nat} (h : PSt w x y z wr) (hb : Below wr.heap.size wr w') : PSt w x y z w' :=
  ⟨(hb.block _ (Array.getElem?_eq_some_iff.1 h.row).1).trans h.row, h.bel.trans (hb.mono h.bel.size)⟩
def PS (w : World) (x y z : Nat) (wr : World) : Prop := PSt w x y z wr
theorem PS_drew {w wr : World} {x y z : Nat} : PS w x y z wr.drew ↔ PS w x y z wr :=
  ⟨fun h => ⟨h.row, ⟨h.bel.os, h.bel.tape, h.bel.output, h.bel.size, h.bel.block⟩⟩, fun h => PSt.drew h⟩
theorem PS.after {w wr w' : World} {x y z : Nat} (h : PS w x y z wr) (hb : Below wr.heap.size wr w') : w'.cell? ⟨w.heap.size, 0, none⟩ = some (.int .i64 (x : Int)) ∧ w'.cell? ⟨w.heap.size, 1, none⟩ = some (.int .i64 (y : Int)) ∧ w'.cell? ⟨w.heap.size, 2, none⟩ = some (.int .i64 (z : Int)) ∧ PS w x y z w' :=
  have hh := PSt.after h hb
  ⟨hh.c0, hh.c1, hh.c2, hh⟩

/-- Which of the three numbers the byte at a place belongs to. -/
def atI (k : Nat) : Nat := if k ≤ 4 then 0 else if k ≤ 7 then 1 else 2

set_option maxHeartbeats 16000000 in
set_option maxRecDepth 100000 in
theorem refParse_any (s : ByteArray) (h : s.size = 10) (j : Nat) (hj : j ≤ 10) (hg : ∀ i, i < j → fitsAt s i = true) (hb : j < 10 → fitsAt s j = false) (n er : Int) (ho : ofI (numAt s 0 4) (numAt s 5 2) (numAt s 8 2) = (n, er)) (w : World) :
    Calls Tryd.prog 22 #[.string s] w fun e w' => (j = 10 → e = .returned (.tuple #[.int .i64 n, .int .i64 er])) ∧ (j < 10 → e = .returned (.tuple #[.int .i64 0, .int .i64 3])) ∧ Below w.heap.size w w' := by
  have d1 : ((s.size : Int) != 10) = false := by rw [h]; rfl
  have hbt := get_bt s
  have hst : PSt w 0 0 0 (w.alloc (.cells #[.int .i64 0, .int .i64 0, .int .i64 0] 3)) := ⟨heap_alloc_new w _, (Below.refl w.heap.size w).alloc (Nat.le_refl _) _⟩
  have cO := Lib.hid (fun W => refOf_any _ _ _ _ _ ho W)
  have HG := Lib.hid hg
  have HB := Lib.hid hb
  clear ho hg hb
  go_enter Tryd.func22, Tryd.ntmps22
  go_wp2
  go_loopw [5, 6] (fun a i wr => ∃ k : Nat, k ≤ j ∧ i = .int .i64 (k : Int) ∧ a = .int .i64 (atI k : Int) ∧ PSt w (numAt s 0 (min k 4)) (numAt s 5 (min k 7 - 5)) (numAt s 8 (k - 8)) wr) (fun _ i _ => j - (intOf i).toNat)
  case atStart => exact ⟨0, Nat.zero_le _, rfl, rfl, hst⟩
  case round =>
    obtain ⟨k, hk, rfl, rfl, hS⟩ := hrel
    by_cases hlt : k < j
    · have hf := HG.out k hlt
      by_cases h47 : k = 4 ∨ k = 7
      · rcases h47 with rfl | rfl
        · have e : bt s 4 = 45 := by simpa [fitsAt] using hf
          rw [show atI 4 = 0 from rfl]
          go_wp2
          go_roundw
          case rel => exact ⟨5, by omega, rfl, rfl, hS⟩
          case measure => simp [intOf]; omega
        · have e : bt s 7 = 45 := by simpa [fitsAt] using hf
          rw [show atI 7 = 1 from rfl]
          go_wp2
          go_roundw
          case rel => exact ⟨8, by omega, rfl, rfl, hS⟩
          case measure => simp [intOf]; omega
      · have hd : 48 ≤ bt s k ∧ bt s k ≤ 57 := by simpa [fitsAt, h47] using hf
        obtain ⟨v, hv⟩ : ∃ v : Nat, bt s k = 48 + (v : Int) := ⟨(bt s k - 48).toNat, by omega⟩
        have hv9 : v ≤ 9 := by omega
        have hk10 : k < 10 := by omega
        have t1 : ((k : Int) == 4) = false := by simp; omega
        have t2 : ((k : Int) == 7) = false := by simp; omega
        have d2 : decide (bt s k < 48) = false := by simp; omega
        have d3 : decide (57 < bt s k) = false := by simp; omega
        clear hd hf
        have hX := numAt_bound s 0 (min k 4) (by omega)
        have hY := numAt_bound s 5 (min k 7 - 5) (by omega)
        have hZ := numAt_bound s 8 (k - 8) (by omega)
        have hsplit : k < 4 ∨ (5 ≤ k ∧ k < 7) ∨ 8 ≤ k := by omega
        rcases hsplit with hc | hc | hc
        · have HA : RowKit.Hid ((atI (k + 1) : Int) = 0) := by unfold RowKit.Hid atI; rw [if_pos (by omega)]; rfl
          have ha : (atI k : Int) = 0 := by unfold atI; rw [if_pos (by omega)]; rfl
          have HX : RowKit.Hid (numAt s 0 (min (k + 1) 4) = 10 * numAt s 0 (min k 4) + v) := by unfold RowKit.Hid; rw [show min (k + 1) 4 = min k 4 + 1 by omega]; simp only [numAt]; rw [show 0 + (min k 4) = k by omega, hv]; omega
          have HY : RowKit.Hid (numAt s 5 (min (k + 1) 7 - 5) = numAt s 5 (min k 7 - 5)) := by unfold RowKit.Hid; rw [show min (k + 1) 7 - 5 = min k 7 - 5 by omega]
          have HZ : RowKit.Hid (numAt s 8 (k + 1 - 8) = numAt s 8 (k - 8)) := by unfold RowKit.Hid; rw [show k + 1 - 8 = k - 8 by omega]
          rw [ha]
          generalize numAt s 0 (min k 4) = x at *
          generalize numAt s 5 (min k 7 - 5) = y at *
          generalize numAt s 8 (k - 8) = z at *
          have k0 := hS.c0
          have f0 := hS.fz 0
          have HS := Lib.hid hS
          clear hS ha
          go_wp2
          go_region
          go_wp2
          go_roundw
          case rel =>
            refine ⟨k + 1, by omega, by go_num, by rw [HA.out], ?_⟩
            rw [HX.out, HY.out, HZ.out]
            have := (HS.out.s0 (10 * x + v)).drew
            rwa [show ((10 * x + v : Nat) : Int) = 10 * (x : Int) + (48 + (v : Int) - 48) by omega] at this
          case measure => simp [intOf]; omega
        · have HA : RowKit.Hid ((atI (k + 1) : Int) = 1) := by unfold RowKit.Hid atI; rw [if_neg (by omega), if_pos (by omega)]; rfl
          have ha : (atI k : Int) = 1 := by unfold atI; rw [if_neg (by omega), if_pos (by omega)]; rfl
          have HX : RowKit.Hid (numAt s 0 (min (k + 1) 4) = numAt s 0 (min k 4)) := by unfold RowKit.Hid; rw [show min (k + 1) 4 = min k 4 by omega]
          have HY : RowKit.Hid (numAt s 5 (min (k + 1) 7 - 5) = 10 * numAt s 5 (min k 7 - 5) + v) := by unfold RowKit.Hid; rw [show min (k + 1) 7 - 5 = min k 7 - 5 + 1 by omega]; simp only [numAt]; rw [show 5 + (min k 7 - 5) = k by omega, hv]; omega
          have HZ : RowKit.Hid (numAt s 8 (k + 1 - 8) = numAt s 8 (k - 8)) := by unfold RowKit.Hid; rw [show k + 1 - 8 = k - 8 by omega]
          rw [ha]
          generalize numAt s 0 (min k 4) = x at *
          generalize numAt s 5 (min k 7 - 5) = y at *
          generalize numAt s 8 (k - 8) = z at *
          have k0 := hS.c1
          have f0 := hS.fz 1
          have HS := Lib.hid hS
          clear hS ha
          go_wp2
          go_region
          go_wp2
          go_roundw
          case rel =>
            refine ⟨k + 1, by omega, by go_num, by rw [HA.out], ?_⟩
            rw [HX.out, HY.out, HZ.out]
            have := (HS.out.s1 (10 * y + v)).drew
            rwa [show ((10 * y + v : Nat) : Int) = 10 * (y : Int) + (48 + (v : Int) - 48) by omega] at this
          case measure => simp [intOf]; omega
        · have HA : RowKit.Hid ((atI (k + 1) : Int) = 2) := by unfold RowKit.Hid atI; rw [if_neg (by omega), if_neg (by omega)]; rfl
          have ha : (atI k : Int) = 2 := by unfold atI; rw [if_neg (by omega), if_neg (by omega)]; rfl
          have HX : RowKit.Hid (numAt s 0 (min (k + 1) 4) = numAt s 0 (min k 4)) := by unfold RowKit.Hid; rw [show min (k + 1) 4 = min k 4 by omega]
          have HY : RowKit.Hid (numAt s 5 (min (k + 1) 7 - 5) = numAt s 5 (min k 7 - 5)) := by unfold RowKit.Hid; rw [show min (k + 1) 7 - 5 = min k 7 - 5 by omega]
          have HZ : RowKit.Hid (numAt s 8 (k + 1 - 8) = 10 * numAt s 8 (k - 8) + v) := by unfold RowKit.Hid; rw [show k + 1 - 8 = k - 8 + 1 by omega]; simp only [numAt]; rw [show 8 + (k - 8) = k by omega, hv]; omega
          rw [ha]
          generalize numAt s 0 (min k 4) = x at *
          generalize numAt s 5 (min k 7 - 5) = y at *
          generalize numAt s 8 (k - 8) = z at *
          have k0 := hS.c2
          have f0 := hS.fz 2
          have HS := Lib.hid hS
          clear hS ha
          go_wp2
          go_region
          go_wp2
          go_roundw
          case rel =>
            refine ⟨k + 1, by omega, by go_num, by rw [HA.out], ?_⟩
            rw [HX.out, HY.out, HZ.out]
            have := (HS.out.s2 (10 * z + v)).drew
            rwa [show ((10 * z + v : Nat) : Int) = 10 * (z : Int) + (48 + (v : Int) - 48) by omega] at this
          case measure => simp [intOf]; omega
    · have hke : k = j := by omega
      subst hke
      by_cases h10 : k < 10
      · have hf := HB.out h10
        have hbel := hS.bel
        by_cases h47 : k = 4 ∨ k = 7
        · rcases h47 with rfl | rfl
          · have e : (bt s 4 == 45) = false := by simpa [fitsAt] using hf
            have e2 : (bt s 4 != 45) = true := by rw [bne, e]; rfl
            go_wp2
            go_ret2
            exact ⟨fun h => absurd h (by omega), fun _ => rfl, hbel⟩
          · have e : (bt s 7 == 45) = false := by simpa [fitsAt] using hf
            have e2 : (bt s 7 != 45) = true := by rw [bne, e]; rfl
            go_wp2
            go_ret2
            exact ⟨fun h => absurd h (by omega), fun _ => rfl, hbel⟩
        · have hd : ¬ (48 ≤ bt s k ∧ bt s k ≤ 57) := by simpa [fitsAt, h47] using hf
          have t1 : ((k : Int) == 4) = false := by simp; omega
          have t2 : ((k : Int) == 7) = false := by simp; omega
          have nb := bt_nonneg s k
          have lb := bt_le s k
          by_cases h1 : bt s k < 48
          · have d2 : decide (bt s k < 48) = true := by simp; omega
            clear hd hf
            go_wp2
            go_ret2
            exact ⟨fun h => absurd h (by omega), fun _ => rfl, hbel⟩
          · have d2 : decide (bt s k < 48) = false := by simp; omega
            have d3 : decide (57 < bt s k) = true := by simp; omega
            clear hd hf
            go_wp2
            go_ret2
            refine ⟨?_, ?_, hbel⟩
            · intro hh; omega
            · first | rfl | (intro _; rfl)
      · have hk10 : k = 10 := by omega
        subst hk10
        simp only [show min 10 4 = 4 from rfl, show min 10 7 - 5 = 2 from rfl, show 10 - 8 = 2 from rfl] at hS
        have k0 := hS.c0
        have k1 := hS.c1
        have k2 := hS.c2
        have hPS : PS w (numAt s 0 4) (numAt s 5 2) (numAt s 8 2) wr := hS
        have CP := Lib.hid (fun W (hW : PS w (numAt s 0 4) (numAt s 5 2) (numAt s 8 2) W) => (cO.out W).mono fun e' w' hh => And.intro hh.1 (PS.after hW hh.2))
        clear hS hst cO
        obtain ⟨x, e1⟩ : ∃ v, numAt s 0 4 = v := ⟨_, rfl⟩
        obtain ⟨y, e2⟩ : ∃ v, numAt s 5 2 = v := ⟨_, rfl⟩
        obtain ⟨z, e3⟩ : ∃ v, numAt s 8 2 = v := ⟨_, rfl⟩
        rw [e1, e2, e3] at CP hPS
        rw [e1] at k0
        rw [e2] at k1
        rw [e3] at k2
        clear e1 e2 e3
        go_wp2
        go_region_held3 (fun w' => w'.cell? ⟨w.heap.size, 0, none⟩ = some (.int .i64 (x : Int)) ∧ w'.cell? ⟨w.heap.size, 1, none⟩ = some (.int .i64 (y : Int)) ∧ w'.cell? ⟨w.heap.size, 2, none⟩ = some (.int .i64 (z : Int)) ∧ PS w x y z w') (simp [*, PS_drew])
          (first | (go_at_call 11; refine (CP.out _ ?_).mono ?_; (first | assumption | (rw [PS_drew]; assumption)); rintro e w' ⟨rfl, k0, k1, k2, k3⟩))
        all_goals
          go_wp2
          go_ret2
          refine ⟨rfl, ?_⟩
          first | exact PSt.bel k3 | exact PSt.bel (PS_drew.1 k3) | exact (PSt.bel k3).drew
end Go.Proofs.YtdcmfncocehbhaaDoor
