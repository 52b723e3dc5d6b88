/- The statement BarcodeDetects of layer 5 over this translation: it returns true. -/
import Derived.Test.YtnbjgkhngolhfaaDoorLaw05B
import Derived.Test.YtnbjgkhngolhfaaDoorDet05
import Derived.Lib.ConvBytes
import Derived.Lib.SmallJoins
namespace Go.Proofs.YtnbjgkhngolhfaaDoor
open Go.RowKit Go.PlainAid

/-- A row of bytes of the call's own. -/
structure BR (w : World) (g : Nat) (l : List UInt8) (wx : World) : Prop where
  bel : Below w.heap.size w wx
  lo : w.heap.size ≤ g
  row : ∃ cur a b, wx.heap[g]? = some (.cells cur 5 (a, b)) ∧ l.length ≤ a ∧ ∀ i, i < l.length → cur[i]? = some (u8V (l.getD i 0))
theorem BR.cell {w wx : World} {g : Nat} {l : List UInt8} (h : BR w g l wx) (i : Nat) (hi : i < l.length) : wx.cell? ⟨g, i, none⟩ = some (u8V (l.getD i 0)) := by
  obtain ⟨cur, a, b, h1, _, h2⟩ := h.row
  rw [Joins.cell_of_block h1]
  exact h2 i hi
theorem BR.fz {w wx : World} {g : Nat} {l : List UInt8} (h : BR w g l wx) (i : Nat) (hi : i < l.length) : wx.frozen? ⟨g, i, none⟩ = false := by
  obtain ⟨cur, a, b, h1, h2, _⟩ := h.row
  simp only [World.frozen?, h1]
  rw [decide_eq_false (show ¬ a ≤ i by omega), Bool.false_and]
theorem BR.drew {w wx : World} {g : Nat} {l : List UInt8} (h : BR w g l wx) : BR w g l wx.drew := ⟨h.bel.drew, h.lo, h.row⟩
theorem BR.set {w wx : World} {g : Nat} {l : List UInt8} (h : BR w g l wx) (i : Nat) (x : UInt8) : BR w g (l.set i x) (wx.setCell ⟨g, i, none⟩ (u8V x)) := by
  obtain ⟨cur, a, b, h1, h2, h3⟩ := h.row
  refine ⟨h.bel.setCell (p := ⟨g, i, none⟩) h.lo _, h.lo, _, a, b, Joins.block_setCell h1 _, by rw [List.length_set]; exact h2, fun j hj => ?_⟩
  rw [List.length_set] at hj
  have h4 := h3 j hj
  have hlt : j < cur.size := (Array.getElem?_eq_some_iff.1 h4).1
  rw [Array.getElem?_setIfInBounds]
  by_cases he : i = j
  · subst he
    rw [if_pos rfl, if_pos hlt, getD_set l i i x hj, if_pos rfl]
  · rw [if_neg he]
    by_cases hi : i < l.length
    · rw [getD_set l i j x hi, if_neg (fun h => he h.symm)]
      exact h4
    · rw [List.set_eq_of_length_le (by omega)]
      exact h4
theorem BR.str {w wx : World} {g : Nat} {l : List UInt8} (h : BR w g l wx) (n cap : Nat) (hn : l.length = n) :
    (convert 36 9 (.slice (some ⟨g, 0, none⟩) n cap)).run Tryd.prog wx = .ok (.string (S l)) wx := by
  rw [← strOfNums_S]
  refine run_convert_bytes_arg wx 36 5 Tryd.underlying36 Tryd.underlying5 g 0 _ cap _ (by simp [hn]) (fun i hi => ?_) 9 Tryd.underlying9
  rw [Nat.zero_add, h.cell i (by omega)]
  unfold u8V
  rw [List.getD_eq_getElem?_getD, List.getD_eq_getElem?_getD, List.getElem?_map, List.getElem?_eq_getElem (by omega)]
  rfl
theorem BR.after {w wx w' : World} {g : Nat} {l : List UInt8} (h : BR w g l wx) (hb : Below wx.heap.size wx w') : BR w g l w' := by
  obtain ⟨cur, a, b, h1, h2, h3⟩ := h.row
  exact ⟨h.bel.trans (hb.mono h.bel.size), h.lo, cur, a, b, (hb.block g (Array.getElem?_eq_some_iff.1 h1).1).trans h1, h2, h3⟩
theorem BR.of {w W : World} (hb : Below w.heap.size w W) (l : List UInt8) : BR w W.heap.size l (Lib.bytesWorld W 5 (S l)) := by
  refine ⟨⟨hb.os, hb.tape, hb.output, by rw [Lib.bytesWorld_size]; have := hb.size; omega, fun k hk => (Lib.bytesWorld_at_old W _ _ k (by have := hb.size; omega)).trans (hb.block k hk)⟩, hb.size, _, _, _, Lib.bytesWorld_at_new W _ _, ?_, fun i hi => ?_⟩
  · simp [Lib.bytesCells, S]
  · have := Lib.bytesWorld_cell W 5 (S l) i (by rw [S_size]; exact hi)
    rw [Joins.cell_of_block (Lib.bytesWorld_at_new W _ _)] at this
    rw [this]
    rfl

set_option maxHeartbeats 2400000 in
set_option maxRecDepth 100000 in
theorem lawDetects_any (p : Bool) (n c0 c1 : Nat) (hn : n ≤ 65535) (h0 : c0 ≤ 255) (h1 : c1 ≤ 255) (w : World) (hT : Tab w) :
    Calls Tryd.prog 9 #[.bool p, .int .u16 (n : Int), .agg #[.int .u8 (c0 : Int), .int .u8 (c1 : Int)]] w fun e w' => e = .returned (.bool true) ∧ Below w.heap.size w w' := by
  have cA := Lib.hid (fun W (hW : Below w.heap.size w W) => alive_any W (hT.on hW))
  have b0 := (Below.refl w.heap.size w).alloc (Nat.le_refl _) (.cells #[.int .u8 (c0 : Int), .int .u8 (c1 : Int)] 35)
  obtain ⟨K, hK⟩ : ∃ K : Nat, K = (if p = true then 3 else 2) := ⟨_, rfl⟩
  have hm : n % 10000 ≤ 9999 := by omega
  have r1 : Int.tmod (n : Int) 10000 = ((n % 10000 : Nat) : Int) := by rw [Int.tmod_eq_emod_of_nonneg (by omega)]; omega
  have r2 : (n : Int) % 10000 = ((n % 10000 : Nat) : Int) := by omega
  generalize n % 10000 = m at *
  have hk23 : K = 2 ∨ K = 3 := by rw [hK]; cases p <;> simp
  have hmk : makeI (K : Int) (m : Int) = (mkL K m, 0) := by
    unfold makeI
    rw [if_pos (by omega), if_pos (by omega), Int.toNat_natCast, Int.toNat_natCast]
  obtain ⟨h14, hdg, htot⟩ := parse_tot _ _ _ (parse_make K m hk23 hm)
  have cM := Lib.hid (fun W (hW : Below w.heap.size w W) => pMake (K : Int) (m : Int) (mkL K m) 0 hmk W (hT.on hW))
  have HNum := Lib.hid (fun i (hi : i < 14) => dv_le (mkL K m) i ((all_getD' _ digB).1 hdg i (by omega)))
  have hsz : (S (mkL K m)).size = 14 := by rw [S_size, h14]
  have HCv := Lib.hid (fun W => Lib.run_convert_string_bytes (P := Tryd.prog) W 9 36 5 (S (mkL K m)) Tryd.underlying9 Tryd.underlying36 Tryd.underlying5)
  have k0 : (w.alloc (.cells #[.int .u8 (c0 : Int), .int .u8 (c1 : Int)] 35)).cell? ⟨w.heap.size, 0, none⟩ = some (.int .u8 (c0 : Int)) := by simp
  have k1 : (w.alloc (.cells #[.int .u8 (c0 : Int), .int .u8 (c1 : Int)] 35)).cell? ⟨w.heap.size, 1, none⟩ = some (.int .u8 (c1 : Int)) := by simp
  have r3 : Int.tmod (c0 : Int) 14 = ((c0 % 14 : Nat) : Int) := by rw [Int.tmod_eq_emod_of_nonneg (by omega)]; omega
  have r4 : (c0 : Int) % 14 = ((c0 % 14 : Nat) : Int) := by omega
  have r5 : Int.tmod (c0 : Int) 13 = ((c0 % 13 : Nat) : Int) := by rw [Int.tmod_eq_emod_of_nonneg (by omega)]; omega
  have r6 : (c0 : Int) % 13 = ((c0 % 13 : Nat) : Int) := by omega
  have r7 : Int.tmod (c1 : Int) 9 = ((c1 % 9 : Nat) : Int) := by rw [Int.tmod_eq_emod_of_nonneg (by omega)]; omega
  have r8 : (c1 : Int) % 9 = ((c1 % 9 : Nat) : Int) := by omega
  have hi : c0 % 14 < 14 := by omega
  have hk : c0 % 13 < 13 := by omega
  have hj : c1 % 9 ≤ 8 := by omega
  generalize c0 % 14 = i at *
  generalize c0 % 13 = k at *
  generalize c1 % 9 = j at *
  generalize mkL K m = L at *
  clear hmk
  have hd := HNum.out i hi
  obtain ⟨d, hdd⟩ : ∃ d, dv L i = d := ⟨_, rfl⟩
  rw [hdd] at hd
  obtain ⟨hd9, hdb⟩ := hd
  have hq : (d + 1 + j) % 10 ≤ 9 := by omega
  have m1 : Int.tmod ((d : Int) + 1 + (j : Int)) 10 = (((d + 1 + j) % 10 : Nat) : Int) := by rw [Int.tmod_eq_emod_of_nonneg (by omega)]; omega
  have m2 : ((d : Int) + 1 + (j : Int)) % 10 = (((d + 1 + j) % 10 : Nat) : Int) := by omega
  have hqne : (d + 1 + j) % 10 ≠ dv L i := by rw [hdd]; omega
  generalize (d + 1 + j) % 10 = q at *
  have e1 : IntKind.u8.wrap ((48 : Int) + (d : Int) - 48) = (d : Int) := by rw [IntKind.wrap_u8]; omega
  have e2 : IntKind.u8.wrap ((d : Int) + 1) = (d : Int) + 1 := by rw [IntKind.wrap_u8]; omega
  have e3 : IntKind.u8.wrap ((d : Int) + 1 + (j : Int)) = (d : Int) + 1 + (j : Int) := by rw [IntKind.wrap_u8]; omega
  have e4 : IntKind.u8.wrap ((48 : Int) + (q : Int)) = (48 : Int) + (q : Int) := by rw [IntKind.wrap_u8]; omega
  have hu1 : u8V (dgt q) = .int .u8 ((48 : Int) + (q : Int)) := by unfold u8V; rw [dgt_nat q hq]; congr 1
  obtain ⟨⟨x1, y1, f1⟩, hp1⟩ : ∃ v, parseI (L.set i (dgt q)) = v := ⟨_, rfl⟩
  have hf1 : f1 ≠ 0 := det_one L h14 htot hdg i hi q hq hqne x1 y1 f1 hp1
  have tf1 : (f1 == 0) = false := by simpa using hf1
  have cP1 := Lib.hid (fun W (hW : Below w.heap.size w W) => pParse (L.set i (dgt q)) (by rw [List.length_set]; omega) x1 y1 f1 hp1 W)
  obtain ⟨X, hX⟩ : ∃ X, L.getD k 0 = X := ⟨_, rfl⟩
  obtain ⟨Y, hY⟩ : ∃ Y, L.getD (k + 1) 0 = Y := ⟨_, rfl⟩
  obtain ⟨⟨x2, y2, f2⟩, hp2⟩ : ∃ v, parseI ((L.set k Y).set (k + 1) X) = v := ⟨_, rfl⟩
  have HF2 : RowKit.Hid (X ≠ Y → ¬ (X = 48 ∧ Y = 57) → ¬ (X = 57 ∧ Y = 48) → f2 ≠ 0) := by
    intro h1 h2 h3
    refine det_two L h14 htot hdg k hk ?_ ?_ ?_ x2 y2 f2 ?_
    · rw [hX, hY]; exact h1
    · rw [hX, hY]; exact h2
    · rw [hX, hY]; exact h3
    · rw [hX, hY]; exact hp2
  have cP2 := Lib.hid (fun W (hW : Below w.heap.size w W) => pParse ((L.set k Y).set (k + 1) X) (by rw [List.length_set, List.length_set]; omega) x2 y2 f2 hp2 W)
  have i0 : (0 : Int) ≤ (i : Int) := by omega
  have i1 : (i : Int) < 14 := by omega
  have i2 : (0 : Int) ≤ (k : Int) := by omega
  have i3 : (k : Int) < 14 := by omega
  have i4 : (k : Int) + 1 < 14 := by omega
  have i5 : (0 : Int) ≤ (k : Int) + 1 := by omega
  have HXY : RowKit.Hid (L.getD k 0 = X ∧ L.getD (k + 1) 0 = Y) := ⟨hX, hY⟩
  clear hp1 hp2 hdg htot hf1 hX hY hqne hdd
  cases p
  all_goals
    subst hK
    go_enter Tryd.func9, Tryd.ntmps9
    go_wp2_with fail
    refine (cM.out _ b0).mono ?_
    rintro e w1 ⟨rfl, c⟩
    have b1 := b0.trans (c.mono (by simp))
    have k0 := (c.cell (p := ⟨w.heap.size, 0, none⟩) (by simp)).trans k0
    have k1 := (c.cell (p := ⟨w.heap.size, 1, none⟩) (by simp)).trans k1
    have hlt : w.heap.size < w1.heap.size := by have := c.size; simp at this; omega
    clear c b0
    have hcv := HCv.out w1
    rw [hsz] at hcv
    have hbr := BR.of b1 L
    have k0 := (Lib.bytesWorld_old w1 5 (S L) ⟨w.heap.size, 0, none⟩ hlt).trans k0
    have k1 := (Lib.bytesWorld_old w1 5 (S L) ⟨w.heap.size, 1, none⟩ hlt).trans k1
    generalize Lib.bytesWorld w1 5 (S L) = W2 at *
    generalize hg : w1.heap.size = g at *
    generalize grownCap w1 14 0 5 = cap at *
    have kb := hbr.cell i (by omega)
    rw [show u8V (L.getD i 0) = .int .u8 ((48 : Int) + (d : Int)) by unfold u8V; rw [hdb]; congr 1] at kb
    have fb := hbr.fz i (by omega)
    have hbr2 := (hbr.set i (dgt q)).drew
    rw [hu1] at hbr2
    have hstr := hbr2.str 14 cap (by rw [List.length_set]; exact h14)
    have b2 := hbr2.bel
    have hgne : w.heap.size ≠ g := by omega
    have k0' : (W2.setCell ⟨g, i, none⟩ (.int .u8 ((48 : Int) + (q : Int)))).drew.cell? ⟨w.heap.size, 0, none⟩ = some (.int .u8 (c0 : Int)) := by
      have : (W2.setCell ⟨g, i, none⟩ (.int .u8 ((48 : Int) + (q : Int)))).drew.cell? ⟨w.heap.size, 0, none⟩ = W2.cell? ⟨w.heap.size, 0, none⟩ := World.cell?_of_block (a := ⟨w.heap.size, 0, none⟩) (Below.heap_setCell W2 ⟨g, i, none⟩ _ _ hgne)
      rw [this]; exact k0
    have hszW : w.heap.size < (W2.setCell ⟨g, i, none⟩ (.int .u8 ((48 : Int) + (q : Int)))).drew.heap.size := by
      obtain ⟨cur, aa, bb, hrow, _, _⟩ := hbr2.row
      have := (Array.getElem?_eq_some_iff.1 hrow).1
      omega
    clear hbr hbr2
    go_wp2
    go_region
    clear kb fb k1 k0
    go_wp2_with fail
    refine (cP1.out _ b2).mono ?_
    rintro e w4 ⟨rfl, c⟩
    have b4 := b2.trans (c.mono b2.size)
    have k0 := (c.cell (p := ⟨w.heap.size, 0, none⟩) hszW).trans k0'
    have hlt4 : w.heap.size < w4.heap.size := Nat.lt_of_lt_of_le hszW c.size
    clear c b2 k0' hszW hstr hcv
    have hcv := HCv.out w4
    rw [hsz] at hcv
    have hbr := BR.of b4 L
    have k0 := (Lib.bytesWorld_old w4 5 (S L) ⟨w.heap.size, 0, none⟩ hlt4).trans k0
    generalize Lib.bytesWorld w4 5 (S L) = W5 at *
    generalize hg4 : w4.heap.size = g4 at *
    generalize grownCap w4 14 0 5 = cap4 at *
    have b5 : Below w.heap.size w W5.drew := hbr.bel.drew
    have kx : W5.cell? ⟨g4, k, none⟩ = some (.int .u8 (X.toNat : Int)) := by
      have := hbr.cell k (by omega)
      rw [HXY.out.1] at this
      exact this
    have ky : W5.cell? ⟨g4, k + 1, none⟩ = some (.int .u8 (Y.toNat : Int)) := by
      have := hbr.cell (k + 1) (by omega)
      rw [HXY.out.2] at this
      exact this
    have fx := hbr.fz k (by omega)
    have fy := hbr.fz (k + 1) (by omega)
    clear b4
    by_cases hXY : X = Y
    · have tA : ((X.toNat : Int) == (Y.toNat : Int)) = true := by rw [hXY]; simp
      have hxa : (X.toNat : Int) = (Y.toNat : Int) := by rw [hXY]
      clear hbr HF2 cP2 HXY
      rw [hxa] at kx
      generalize (Y.toNat : Int) = ya at *
      go_wp2
      go_region
      go_wp2_with fail
      refine (cA.out _ (by assumption)).mono ?_
      rintro e w9 ⟨rfl, c⟩
      have b9 := b5.trans (c.mono b5.size)
      clear c
      go_wp2
      go_ret
      exact ⟨rfl, b9⟩
    have tA : ((X.toNat : Int) == (Y.toNat : Int)) = false := by
      refine beq_eq_false_iff_ne.2 fun h => hXY (UInt8.toNat_inj.1 (by omega))
    by_cases h48 : X = 48
    · have hx48 : (X.toNat : Int) = 48 := by rw [h48]; rfl
      by_cases h57 : Y = 57
      · have hy57 : (Y.toNat : Int) = 57 := by rw [h57]; rfl
        clear hbr HF2 cP2 HXY
        rw [hx48] at kx
        rw [hy57] at ky
        go_wp2
        go_region
        go_wp2_with fail
        refine (cA.out _ (by assumption)).mono ?_
        rintro e w9 ⟨rfl, c⟩
        have b9 := b5.trans (c.mono b5.size)
        clear c
        go_wp2
        go_ret
        exact ⟨rfl, b9⟩
      · have hf2 := HF2.out hXY (fun h => h57 h.2) (fun h => by rw [h48] at h; exact absurd h.1 (by decide))
        have tC : ((Y.toNat : Int) == 57) = false := beq_eq_false_iff_ne.2 fun h => h57 (UInt8.toNat_inj.1 (by have : (57 : UInt8).toNat = 57 := rfl; omega))
        rw [hx48] at kx tA
        clear HF2
        go_wp2
        go_region
        have hbr2 := hbr.set k Y
        have kx2 : (W5.setCell ⟨g4, k, none⟩ (.int .u8 (Y.toNat : Int))).cell? ⟨g4, k + 1, none⟩ = some (.int .u8 (Y.toNat : Int)) := by
          have := hbr2.cell (k + 1) (by rw [List.length_set]; omega)
          rw [getD_set L k (k + 1) Y (by omega), if_neg (by omega), HXY.out.2] at this
          exact this
        have fx2 : (W5.setCell ⟨g4, k, none⟩ (.int .u8 (Y.toNat : Int))).frozen? ⟨g4, k + 1, none⟩ = false := hbr2.fz (k + 1) (by rw [List.length_set]; omega)
        have hbr3 := (hbr2.set (k + 1) X).drew
        have hstr3 := hbr3.str 14 cap4 (by rw [List.length_set, List.length_set]; exact h14)
        have b6 := hbr3.bel
        unfold u8V at hstr3 b6
        rw [hx48] at hstr3 b6
        clear hx48
        have tf2 : (f2 != 0) = true := by simpa using hf2
        have tf3 : (f2 == 0) = false := by simpa using hf2
        clear hbr hbr2 hbr3 hf2
        generalize (Y.toNat : Int) = ya at *
        generalize S ((L.set k Y).set (k + 1) X) = sx2 at *
        go_wp2_with fail
        refine (cP2.out _ b6).mono ?_
        rintro e w8 ⟨rfl, c⟩
        have b8 := b6.trans (c.mono b6.size)
        clear c b6
        go_wp2_with fail
        refine (cA.out _ (by assumption)).mono ?_
        rintro e w9 ⟨rfl, c⟩
        have b9 := b8.trans (c.mono b8.size)
        clear c
        go_wp2
        go_ret
        exact ⟨rfl, b9⟩
    · have tB : ((X.toNat : Int) == 48) = false := beq_eq_false_iff_ne.2 fun h => h48 (UInt8.toNat_inj.1 (by have : (48 : UInt8).toNat = 48 := rfl; omega))
      by_cases h57 : X = 57
      · have hx57 : (X.toNat : Int) = 57 := by rw [h57]; rfl
        by_cases hy48 : Y = 48
        · have hy : (Y.toNat : Int) = 48 := by rw [hy48]; rfl
          clear hbr HF2 cP2 HXY
          rw [hx57] at kx
          rw [hy] at ky
          go_wp2
          go_region
          go_wp2_with fail
          refine (cA.out _ (by assumption)).mono ?_
          rintro e w9 ⟨rfl, c⟩
          have b9 := b5.trans (c.mono b5.size)
          clear c
          go_wp2
          go_ret
          exact ⟨rfl, b9⟩
        · have hf2 := HF2.out hXY (fun h => h48 h.1) (fun h => hy48 h.2)
          have tC : ((Y.toNat : Int) == 48) = false := beq_eq_false_iff_ne.2 fun h => hy48 (UInt8.toNat_inj.1 (by have : (48 : UInt8).toNat = 48 := rfl; omega))
          rw [hx57] at kx tA
          clear HF2 tB
          go_wp2
          go_region
          have hbr2 := hbr.set k Y
          have kx2 : (W5.setCell ⟨g4, k, none⟩ (.int .u8 (Y.toNat : Int))).cell? ⟨g4, k + 1, none⟩ = some (.int .u8 (Y.toNat : Int)) := by
            have := hbr2.cell (k + 1) (by rw [List.length_set]; omega)
            rw [getD_set L k (k + 1) Y (by omega), if_neg (by omega), HXY.out.2] at this
            exact this
          have fx2 : (W5.setCell ⟨g4, k, none⟩ (.int .u8 (Y.toNat : Int))).frozen? ⟨g4, k + 1, none⟩ = false := hbr2.fz (k + 1) (by rw [List.length_set]; omega)
          have hbr3 := (hbr2.set (k + 1) X).drew
          have hstr3 := hbr3.str 14 cap4 (by rw [List.length_set, List.length_set]; exact h14)
          have b6 := hbr3.bel
          unfold u8V at hstr3 b6
          rw [hx57] at hstr3 b6
          clear hx57
          have tf2 : (f2 != 0) = true := by simpa using hf2
          have tf3 : (f2 == 0) = false := by simpa using hf2
          clear hbr hbr2 hbr3 hf2
          generalize (Y.toNat : Int) = ya at *
          generalize S ((L.set k Y).set (k + 1) X) = sx2 at *
          go_wp2_with fail
          refine (cP2.out _ b6).mono ?_
          rintro e w8 ⟨rfl, c⟩
          have b8 := b6.trans (c.mono b6.size)
          clear c b6
          go_wp2_with fail
          refine (cA.out _ (by assumption)).mono ?_
          rintro e w9 ⟨rfl, c⟩
          have b9 := b8.trans (c.mono b8.size)
          clear c
          go_wp2
          go_ret
          exact ⟨rfl, b9⟩
      · have hf2 := HF2.out hXY (fun h => h48 h.1) (fun h => h57 h.1)
        have tD : ((X.toNat : Int) == 57) = false := beq_eq_false_iff_ne.2 fun h => h57 (UInt8.toNat_inj.1 (by have : (57 : UInt8).toNat = 57 := rfl; omega))
        clear HF2
        go_wp2
        go_region
        have hbr2 := hbr.set k Y
        have kx2 : (W5.setCell ⟨g4, k, none⟩ (.int .u8 (Y.toNat : Int))).cell? ⟨g4, k + 1, none⟩ = some (.int .u8 (Y.toNat : Int)) := by
          have := hbr2.cell (k + 1) (by rw [List.length_set]; omega)
          rw [getD_set L k (k + 1) Y (by omega), if_neg (by omega), HXY.out.2] at this
          exact this
        have fx2 : (W5.setCell ⟨g4, k, none⟩ (.int .u8 (Y.toNat : Int))).frozen? ⟨g4, k + 1, none⟩ = false := hbr2.fz (k + 1) (by rw [List.length_set]; omega)
        have hbr3 := (hbr2.set (k + 1) X).drew
        have hstr3 := hbr3.str 14 cap4 (by rw [List.length_set, List.length_set]; exact h14)
        have b6 := hbr3.bel
        unfold u8V at hstr3 b6
        have tf2 : (f2 != 0) = true := by simpa using hf2
        have tf3 : (f2 == 0) = false := by simpa using hf2
        clear hbr hbr2 hbr3 hf2
        generalize (X.toNat : Int) = xa at *
        generalize (Y.toNat : Int) = ya at *
        generalize S ((L.set k Y).set (k + 1) X) = sx2 at *
        go_wp2_with fail
        refine (cP2.out _ b6).mono ?_
        rintro e w8 ⟨rfl, c⟩
        have b8 := b6.trans (c.mono b6.size)
        clear c b6
        go_wp2_with fail
        refine (cA.out _ (by assumption)).mono ?_
        rintro e w9 ⟨rfl, c⟩
        have b9 := b8.trans (c.mono b8.size)
        clear c
        go_wp2
        go_ret
        exact ⟨rfl, b9⟩
end Go.Proofs.YtnbjgkhngolhfaaDoor
