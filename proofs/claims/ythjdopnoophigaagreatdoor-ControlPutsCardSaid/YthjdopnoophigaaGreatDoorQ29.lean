/- Merged: R12G. -/
import Derived.Test.YthjdopnoophigaaGreatDoorQ17
import Derived.Test.YthjdopnoophigaaGreatDoorQ04
import Derived.Laws.ResultCell
import Derived.Deep.RegionHeld
namespace Go.Proofs.YthjdopnoophigaaGreatDoor

section
open Go.RowKit Go.PlainAid
def SP.sl12 (q : Nat) : SP := ⟨fun v _ => ∃ g cp, v = .slice (some ⟨g, 0, none⟩) q cp, fun _ _ _ h _ => h⟩
/-- A name's value. -/
def NV (n : Nm) : Value := .agg #[.string (S n.1), .string (S n.2.1), .string (S n.2.2)]
theorem results_nm {P : Program} {fn : Func} {p u : Tmp} {ty : TypeId} (h : fn.results = #[.cell p ty, .tmp u]) (tmps : Array Value) (w : World) (g : Nat) (t : TypeId) (cs : Array Value) (fr : Nat × Nat) (d : TypeDesc)
    (hp : tmps.getD p undef = .pointer (some ⟨g, 0, none⟩)) (hg : w.heap[g]? = some (.cells cs t fr))
    (hu : P.underlying ty = some d) (hd : (match d with | .struct _ | .array _ _ => true | _ => false) = true) (hi : (P.info? ty).map (·.size) = some cs.size) :
    (results fn tmps).run P w = .ok (.tuple #[.agg cs, tmps.getD u undef]) w := by
  rw [results_cell_tmp h, hp]
  simp [asAddr, run_loadVar_row w g t ty cs fr d hg hu hd hi, Result.andThen]
theorem ncells {N : Nat} {x y z : Value} {w : World} (h : w.heap[N]? = some (.cells #[x, y, z] 99 (0, 0))) :
    (w.cell? ⟨N, 0, none⟩ = some x ∧ w.cell? ⟨N, 1, none⟩ = some y ∧ w.cell? ⟨N, 2, none⟩ = some z) ∧ (w.frozen? ⟨N, 0, none⟩ = false ∧ w.frozen? ⟨N, 1, none⟩ = false ∧ w.frozen? ⟨N, 2, none⟩ = false) := by
  refine ⟨⟨?_, ?_, ?_⟩, Lib.frozen_of_heap h 0, Lib.frozen_of_heap h 1, Lib.frozen_of_heap h 2⟩ <;> (rw [Lib.cell_of_heap h]; rfl)
theorem nm_put1 {w : World} {b : Nat} {x y z : Value} (h : w.heap[b]? = some (.cells #[x, y, z] 99 (0, 0))) (v : Value) :
    (w.setCell ⟨b, 1, none⟩ v).heap[b]? = some (.cells #[x, v, z] 99 (0, 0)) := by
  simp [World.setCell, Array.getElem?_modify, h]
theorem nm_put2 {w : World} {b : Nat} {x y z : Value} (h : w.heap[b]? = some (.cells #[x, y, z] 99 (0, 0))) (v : Value) :
    (w.setCell ⟨b, 2, none⟩ v).heap[b]? = some (.cells #[x, y, v] 99 (0, 0)) := by
  simp [World.setCell, Array.getElem?_modify, h]
def setN3 (w : World) (b : Nat) (x y z : Value) : World := ((w.setCell ⟨b, 0, none⟩ x).setCell ⟨b, 1, none⟩ y).setCell ⟨b, 2, none⟩ z
theorem nm_set3 {w : World} {b : Nat} {c0 c1 c2 x y z : Value} (h : w.heap[b]? = some (.cells #[c0, c1, c2] 99 (0, 0))) :
    (setN3 w b x y z).heap[b]? = some (.cells #[x, y, z] 99 (0, 0)) := by
  simp [setN3, World.setCell, Array.getElem?_modify, h]
theorem nm_below {w W : World} {b : Nat} {x y z : Value} (h : Below b w W) : Below b w (setN3 W b x y z) :=
  ((h.setCell (p := ⟨b, 0, none⟩) (Nat.le_refl _) x).setCell (p := ⟨b, 1, none⟩) (Nat.le_refl _) y).setCell (p := ⟨b, 2, none⟩) (Nat.le_refl _) z
theorem piece_eq (x : List UInt8) : pieceX x = !(decide (x = []) || (!decide (cleanX x = x) || decide (1 < (splG [44] x).length))) := by
  have h4 : ((splG [44] x).length ≤ 1) ↔ ¬ (1 < (splG [44] x).length) := by omega
  unfold pieceX
  by_cases h1 : x = [] <;> by_cases h2 : cleanX x = x <;> by_cases h3 : 1 < (splG [44] x).length <;> simp [h1, h2, h3, h4]
theorem nameO_bad (s : List UInt8) (h : validT s = false ∨ (splG cb s).all pieceX = false) : nameO s = none := by
  unfold nameO
  rcases h with h | h
  · rw [if_pos h]
  · by_cases h0 : validT s = false
    · rw [if_pos h0]
    · rw [if_neg h0, if_pos h]
theorem nameO_long (s : List UInt8) (h : 3 < (splG cb s).length) : nameO s = none := by
  unfold nameO
  split
  · rfl
  split
  · rfl
  · revert h
    generalize splG cb s = L
    intro h
    match L with
    | [] => rfl
    | [_] => simp at h
    | [_, _] => simp at h
    | [_, _, _] => simp at h
    | _ :: _ :: _ :: _ :: _ => rfl
theorem nameO_ok (s : List UInt8) (h : validT s = true) (h2 : (splG cb s).all pieceX = true) : nameO s = nameL (splG cb s) := by
  unfold nameO
  rw [if_neg (by rw [h]; decide), if_neg (by rw [h2]; decide)]
theorem nameX_of (s : List UInt8) (n : Nm) (h : nameO s = some n) : nameX s = (n, 0) := by unfold nameX; rw [h]
theorem nameX_no (s : List UInt8) (h : nameO s = none) : nameX s = (nm0, 3) := by unfold nameX; rw [h]

set_option maxHeartbeats 16000000 in
set_option maxRecDepth 100000 in
theorem refName_any (l : List UInt8) (hl : l.length ≤ 100000) (nm : Nm) (er : Int) (hr : nameX l = (nm, er)) (w : World) :
    Calls Tryz.prog 71 #[.string (S l)] w fun e w' => e = .returned (.tuple #[NV nm, .int .i64 er]) ∧ Below w.heap.size w w' := by
  obtain ⟨Q, hQ⟩ : ∃ Q, (fun (e : Ending) (w' : World) => e = .returned (.tuple #[NV nm, .int .i64 er]) ∧ Below w.heap.size w w') = Q := ⟨_, rfl⟩
  rw [hQ]
  have HNo : RowKit.Hid (nameO l = none → ∀ W, Below w.heap.size w W → Q (.returned (.tuple #[.agg #[.string ⟨#[]⟩, .string ⟨#[]⟩, .string ⟨#[]⟩], .int .i64 3])) W) := by
    intro h W hW
    rw [nameX_no l h] at hr
    obtain ⟨rfl, rfl⟩ := Prod.mk.inj hr
    rw [← hQ]
    exact ⟨rfl, hW⟩
  have HYes : RowKit.Hid (∀ m : Nm, nameO l = some m → ∀ W, Below w.heap.size w W → Q (.returned (.tuple #[NV m, .int .i64 0])) W) := by
    intro m h W hW
    rw [nameX_of l m h] at hr
    obtain ⟨rfl, rfl⟩ := Prod.mk.inj hr
    rw [← hQ]
    exact ⟨rfl, hW⟩
  clear hr hQ
  obtain ⟨W0, hW0⟩ : ∃ W, w.alloc (.cells #[.string ⟨#[]⟩, .string ⟨#[]⟩, .string ⟨#[]⟩] 99) = W := ⟨_, rfl⟩
  have b0 : Below w.heap.size w W0 := by rw [← hW0]; exact (Below.refl _ _).alloc (Nat.le_refl _) _
  have hR0 : W0.heap[w.heap.size]? = some (.cells #[.string ⟨#[]⟩, .string ⟨#[]⟩, .string ⟨#[]⟩] 99 (0, 0)) := by rw [← hW0]; exact heap_alloc_new w _
  have hlt0 : w.heap.size < W0.heap.size := by rw [← hW0]; simp
  have HBox := Lib.hid (fun (W : World) (h : Below W0.heap.size W0 W) => (h.block w.heap.size hlt0).trans hR0)
  have HBel := Lib.hid (fun (W : World) (h : Below W0.heap.size W0 W) => b0.trans (h.mono b0.size))
  have HW0 := Lib.hid hW0
  have HBad : RowKit.Hid (nameO l = none → ∀ W, Below W0.heap.size W0 W → Q (.returned (.tuple #[.agg #[.string ⟨#[]⟩, .string ⟨#[]⟩, .string ⟨#[]⟩], .int .i64 3])) (setN3 W w.heap.size (.string ⟨#[]⟩) (.string ⟨#[]⟩) (.string ⟨#[]⟩)) ∧ (setN3 W w.heap.size (.string ⟨#[]⟩) (.string ⟨#[]⟩) (.string ⟨#[]⟩)).heap[w.heap.size]? = some (.cells #[.string ⟨#[]⟩, .string ⟨#[]⟩, .string ⟨#[]⟩] 99 (0, 0))) := fun h W hW =>
    ⟨HNo.out h _ (nm_below (b0.trans (hW.mono b0.size))), nm_set3 ((hW.block w.heap.size hlt0).trans hR0)⟩
  have HGood : RowKit.Hid (∀ m : Nm, nameO l = some m → ∀ W, Below W0.heap.size W0 W → Q (.returned (.tuple #[NV m, .int .i64 0])) (setN3 W w.heap.size (.string (S m.1)) (.string (S m.2.1)) (.string (S m.2.2))) ∧ (setN3 W w.heap.size (.string (S m.1)) (.string (S m.2.1)) (.string (S m.2.2))).heap[w.heap.size]? = some (.cells #[.string (S m.1), .string (S m.2.1), .string (S m.2.2)] 99 (0, 0))) := fun m h W hW =>
    ⟨HYes.out m h _ (nm_below (b0.trans (hW.mono b0.size))), nm_set3 ((hW.block w.heap.size hlt0).trans hR0)⟩
  unfold setN3 at HBad HGood
  have cV := Lib.hid (refValid_any (S l) (by rw [S_size]; omega) W0)
  rw [S_list] at cV
  have cP := Lib.hid (fun W => refSplit_any cb l (by decide) (by decide) (by omega) W)
  have ecb : S cb = ⟨#[44, 32]⟩ := rfl
  rw [ecb] at cP
  have HInv := Lib.hid (nameO_bad l)
  have HLong := Lib.hid (nameO_long l)
  have HOkN := Lib.hid (nameO_ok l)
  have HVal : RowKit.Hid (validT l = true → ∀ x ∈ splG cb l, ∃ c1, OKs c1 ∧ x = enc c1) := by
    intro h
    obtain ⟨cs, hcs, rfl⟩ := validT_text l h
    exact spl_valid cb cb_ascii _ cs (Nat.le_refl _) hcs
  have HPl := Lib.hid (fun x hx => Nat.le_trans (spl_mem cb l.length l (Nat.le_refl _) x hx) hl)
  have hPn := spl_ne cb l.length l (Nat.le_refl _)
  obtain ⟨P, hP⟩ : ∃ P, splG cb l = P := ⟨_, rfl⟩
  rw [hP] at cP HInv HLong HOkN HVal HPl hPn
  have HPn := Lib.hid hPn
  obtain ⟨vb, hvb⟩ : ∃ b, validT l = b := ⟨_, rfl⟩
  rw [hvb] at cV HInv HOkN HVal
  clear hW0 hR0 hlt0 b0 HNo HYes ecb hP hPn hvb hl
  generalize S l = st at *
  go_enter Tryz.func71, Tryz.ntmps71
  go_upto_region 1 with fail
  rw [HW0.out]
  clear HW0
  go_wp2_with fail
  refine cV.out.mono ?_
  rintro e w1 ⟨rfl, hb1⟩
  have B1 := Lib.hid hb1
  clear hb1 cV
  cases vb with
  | false =>
    have hbad := Lib.hid (HBad.out (HInv.out (.inl rfl)) w1 B1.out)
    obtain ⟨⟨y0, y1, y2⟩, z0, z1, z2⟩ := ncells (HBox.out w1 B1.out)
    clear HBad HGood HInv HLong HOkN HVal cP HBox
    go_wp2
    (try simp only [Exit.inBlock, Exit.then])
    refine bodyPost_ret (results_nm rfl _ _ w.heap.size _ _ _ _ rfl hbad.out.2 Tryz.underlying99 rfl (by kernel_rfl)) rfl ?_
    exact hbad.out.1
  | true =>
  have HVal2 := Lib.hid (HVal.out rfl)
  have HOkN2 := Lib.hid (HOkN.out rfl)
  have HAll := Lib.hid (fun h => HInv.out (.inr h))
  clear HVal HOkN HInv
  go_wp2_with fail
  refine (cP.out w1).mono ?_
  rintro e w2 ⟨v, rfl, hr2, hb2⟩
  have B2 := Lib.hid (B1.out.trans (hb2.mono B1.out.size))
  obtain ⟨gp, cpp, rfl⟩ := sr_form hr2
  have HP := Lib.hid hr2.bl
  clear hb2 hr2 cP B1
  obtain ⟨n, hn⟩ : ∃ n, P.length = n := ⟨_, rfl⟩
  rw [hn] at HLong ⊢
  have HN := Lib.hid hn
  rw [hn] at HP
  clear hn
  by_cases h3 : 3 < n
  · have hbad := Lib.hid (HBad.out (HLong.out h3) w2 B2.out)
    obtain ⟨⟨y0, y1, y2⟩, z0, z1, z2⟩ := ncells (HBox.out w2 B2.out)
    have t3 : decide ((3 : Int) < (n : Int)) = true := decide_eq_true (by omega)
    have t3n : decide (3 < n) = true := decide_eq_true h3
    clear HBad HGood HLong HOkN2 HVal2 HBox HAll h3
    go_wp2
    (try simp only [Exit.inBlock, Exit.then])
    refine bodyPost_ret (results_nm rfl _ _ w.heap.size _ _ _ _ rfl hbad.out.2 Tryz.underlying99 rfl (by kernel_rfl)) rfl ?_
    exact hbad.out.1
  have t3 : decide ((3 : Int) < (n : Int)) = false := decide_eq_false (by omega)
  have t3n : decide (3 < n) = false := decide_eq_false h3
  have hn3 : n ≤ 3 := by omega
  clear h3 HLong
  go_wp2
  go_loopw [5] (fun i wr => ∃ k : Nat, i = .int .i64 (k : Int) ∧ k ≤ n ∧ RowKit.Hid (∀ j, j < k → pieceX (P.getD j []) = true) ∧ RowKit.Hid (Below w2.heap.size w2 wr)) (fun i _ => n - (intOf i).toNat)
  case atStart => exact ⟨0, rfl, Nat.zero_le _, (fun j hj => by omega), Below.refl _ _⟩
  case round =>
    obtain ⟨k, rfl, hk, HJ, HB⟩ := hrel
    by_cases hkn : k < n
    · have i1 : (0 : Int) ≤ (k : Int) := by omega
      have i2 : (k : Int) < (n : Int) := by omega
      have hmem := mem_getD12 P k (by rw [HN.out]; exact hkn)
      have hxl := HPl.out _ hmem
      have cC := Lib.hid (fun W => refCleanS_any (P.getD k []) (HVal2.out _ hmem) (by omega) W)
      have cS := Lib.hid (fun W => refSplit_any [44] (P.getD k []) (by decide) (by decide) (by omega) W)
      have e44 : S [44] = ⟨#[44]⟩ := rfl
      rw [e44] at cS
      have HCell : RowKit.Hid (∀ W, Below wr.heap.size wr W → W.cell? ⟨gp, k, none⟩ = some (.string (S (P.getD k [])))) := by
        intro W hW
        obtain ⟨g2, o2, cap2, he, hg, c0⟩ := ((HP.out.after HB.out).after hW).at12 k (by rw [HN.out]; exact hkn)
        obtain ⟨ha, -, hcp⟩ := Value.slice.inj he
        obtain ⟨rfl, rfl, -⟩ := Addr.mk.inj (Option.some.inj ha)
        rw [Nat.zero_add] at c0
        exact c0
      have HBadP : RowKit.Hid (pieceX (P.getD k []) = false → P.all pieceX = false) := by
        intro h
        rw [Bool.eq_false_iff]
        intro g
        rw [List.all_eq_true] at g
        rw [g _ hmem] at h
        cases h
      have HJ2 : RowKit.Hid (pieceX (P.getD k []) = true → ∀ j, j < k + 1 → pieceX (P.getD j []) = true) := by
        intro h0 j hj
        rcases Nat.lt_or_ge j k with h | h
        · exact HJ.out j h
        · rw [show j = k by omega]; exact h0
      have hpe := piece_eq (P.getD k [])
      have hsf := S_facts (P.getD k [])
      have hq := S_eq12 (cleanX (P.getD k [])) (P.getD k [])
      obtain ⟨x, hx⟩ : ∃ x, P.getD k [] = x := ⟨_, rfl⟩
      rw [hx] at cC cS HCell HBadP HJ2 hpe hsf hq
      obtain ⟨y, hy⟩ : ∃ y, cleanX x = y := ⟨_, rfl⟩
      rw [hy] at cC hpe hq
      obtain ⟨R, hR⟩ : ∃ R, splG [44] x = R := ⟨_, rfl⟩
      rw [hR] at cS hpe
      obtain ⟨q, hqn⟩ : ∃ q, R.length = q := ⟨_, rfl⟩
      rw [hqn] at hpe
      have HQn := Lib.hid hqn
      obtain ⟨qb, hqb⟩ : ∃ b, decide (1 < q) = b := ⟨_, rfl⟩
      have hqbi : decide ((1 : Int) < (q : Int)) = qb := by
        rw [← hqb, decide_eq_decide]
        omega
      rw [hqb] at hpe
      obtain ⟨res, hres⟩ : ∃ r, (decide (x = []) || (!decide (y = x) || qb)) = r := ⟨_, rfl⟩
      rw [hres] at hpe
      have HRes := Lib.hid hres
      have HPe := Lib.hid hpe
      clear hmem hxl e44 hx hy hR hqn hres hpe
      go_upto_region 9 with fail
      go_cut [48] from 23 to 48 (fun r wx => r = .bool res ∧ Below w2.heap.size w2 wx)
      case first =>
        by_cases hx0 : x = []
        · have hr : res = true := by
            have h := HRes.out
            rw [decide_eq_true hx0, Bool.true_or] at h
            exact h.symm
          subst hr
          have HCe := HCell
          subst hx0
          have e0 : S [] = (⟨#[]⟩ : ByteArray) := rfl
          rw [e0] at HCell
          obtain ⟨sx, hsx⟩ : ∃ s, (⟨#[]⟩ : ByteArray) = s := ⟨_, rfl⟩
          have hx1 : sx.toList.isEmpty = true := by rw [← hsx, ByteArray.toList_eq]; rfl
          have hx2 : sx.toList = [] := by rw [← hsx, ByteArray.toList_eq]
          rw [hsx] at HCell
          clear hsx HCe hq hsf cC cS HJ HJ2 HBadP HRes HPe
          apply wp_region_inv (V := [.eq (.slice (some ⟨gp, 0, none⟩) n cpp), .eq (.int .i64 (k : Int)), .eq (.pointer (some ⟨gp, k, none⟩)), .eq (.string sx), .eq (.bool true), .eq (.bool true), .any, .any, .any, .any, .any, .any, .any, .any, .any, .any, .eq (.bool true), .eq (.bool true), .any, .any, .any, .any, .any, .any, .any, .eq (.bool true)])
          case hm => kernel_rfl
          case hd => kernel_rfl
          case hb => kernel_rfl
          case hA =>
            intro vs
            simp only [puts, Act.put, List.setIfInBounds_toArray, List.set_cons_zero, List.set_cons_succ]
            exact rfl
          case hob =>
            refine Obs.cons _ _ _ _ _ _ ?o0 (Obs.cons _ _ _ _ _ _ ?o1 (Obs.cons _ _ _ _ _ _ ?o2 (Obs.cons _ _ _ _ _ _ ?o3 (Obs.cons _ _ _ _ _ _ ?o4 (Obs.cons _ _ _ _ _ _ ?o5 (Obs.cons _ _ _ _ _ _ ?o6 (Obs.cons _ _ _ _ _ _ ?o7 (Obs.cons _ _ _ _ _ _ ?o8 (Obs.cons _ _ _ _ _ _ ?o9 (Obs.cons _ _ _ _ _ _ ?o10 (Obs.cons _ _ _ _ _ _ ?o11 (Obs.cons _ _ _ _ _ _ ?o12 (Obs.cons _ _ _ _ _ _ ?o13 (Obs.cons _ _ _ _ _ _ ?o14 (Obs.cons _ _ _ _ _ _ ?o15 (Obs.cons _ _ _ _ _ _ ?o16 (Obs.cons _ _ _ _ _ _ ?o17 (Obs.cons _ _ _ _ _ _ ?o18 (Obs.cons _ _ _ _ _ _ ?o19 (Obs.cons _ _ _ _ _ _ ?o20 (Obs.cons _ _ _ _ _ _ ?o21 (Obs.cons _ _ _ _ _ _ ?o22 (Obs.cons _ _ _ _ _ _ ?o23 (Obs.cons _ _ _ _ _ _ ?o24 (Obs.cons _ _ _ _ _ _ ?o25 (Obs.nil _ _ _ _ _ _))))))))))))))))))))))))))
            case o0 =>
              intro vs W hw hd K hK
              go_simp
              exact hK.out _ _ rfl (Below.refl _ _)
            case o1 =>
              intro vs W hw hd K hK
              go_simp
              exact hK.out _ _ rfl (Below.refl _ _)
            case o2 =>
              intro vs W hw hd K hK
              have h0 : vs 0 = .slice (some ⟨gp, 0, none⟩) n cpp := hd 0 (by kernel_rfl)
              have h1 : vs 1 = .int .i64 (k : Int) := hd 1 (by kernel_rfl)
              simp only [Nat.reduceAdd, h0, h1] at hK ⊢
              go_simp
              exact hK.out _ _ rfl (Below.refl _ _)
            case o3 =>
              intro vs W hw hd K hK
              have h2 : vs 2 = .pointer (some ⟨gp, k, none⟩) := hd 2 (by kernel_rfl)
              have c0 := HCell.out W hw
              simp only [Nat.reduceAdd, h2] at hK ⊢
              go_simp
              exact hK.out _ _ rfl (Below.refl _ _)
            case o4 =>
              intro vs W hw hd K hK
              have h3 : vs 3 = .string sx := hd 3 (by kernel_rfl)
              simp only [Nat.reduceAdd, h3] at hK ⊢
              go_simp
              exact hK.out _ _ rfl (Below.refl _ _)
            case o5 =>
              intro vs W hw hd K hK
              have h4 : vs 4 = .bool true := hd 4 (by kernel_rfl)
              simp only [Nat.reduceAdd, h4] at hK ⊢
              go_simp
              exact hK.out _ _ rfl (Below.refl _ _)
            case o6 =>
              intro vs W hw hd K hK
              have h5 : vs 5 = .bool true := hd 5 (by kernel_rfl)
              simp only [Nat.reduceAdd, h5] at hK ⊢
              go_simp
              exact hK.out _ _ trivial (Below.refl _ _)
            case o7 =>
              intro vs W hw hd K hK
              have h5 : vs 5 = .bool true := hd 5 (by kernel_rfl)
              simp only [Nat.reduceAdd, h5] at hK ⊢
              go_simp
              exact hK.out _ _ trivial (Below.refl _ _)
            case o8 =>
              intro vs W hw hd K hK
              have h5 : vs 5 = .bool true := hd 5 (by kernel_rfl)
              simp only [Nat.reduceAdd, h5] at hK ⊢
              go_simp
              exact hK.out _ _ trivial (Below.refl _ _)
            case o9 =>
              intro vs W hw hd K hK
              have h5 : vs 5 = .bool true := hd 5 (by kernel_rfl)
              simp only [Nat.reduceAdd, h5] at hK ⊢
              go_simp
              exact hK.out _ _ trivial (Below.refl _ _)
            case o10 =>
              intro vs W hw hd K hK
              have h5 : vs 5 = .bool true := hd 5 (by kernel_rfl)
              simp only [Nat.reduceAdd, h5] at hK ⊢
              go_simp
              exact hK.out _ _ trivial (Below.refl _ _)
            case o11 =>
              intro vs W hw hd K hK
              have h5 : vs 5 = .bool true := hd 5 (by kernel_rfl)
              simp only [Nat.reduceAdd, h5] at hK ⊢
              go_simp
              exact hK.out _ _ trivial (Below.refl _ _)
            case o12 =>
              intro vs W hw hd K hK
              have h5 : vs 5 = .bool true := hd 5 (by kernel_rfl)
              simp only [Nat.reduceAdd, h5] at hK ⊢
              go_simp
              exact hK.out _ _ trivial (Below.refl _ _)
            case o13 =>
              intro vs W hw hd K hK
              have h5 : vs 5 = .bool true := hd 5 (by kernel_rfl)
              simp only [Nat.reduceAdd, h5] at hK ⊢
              go_simp
              exact hK.out _ _ trivial (Below.refl _ _)
            case o14 =>
              intro vs W hw hd K hK
              have h5 : vs 5 = .bool true := hd 5 (by kernel_rfl)
              simp only [Nat.reduceAdd, h5] at hK ⊢
              go_simp
              exact hK.out _ _ trivial (Below.refl _ _)
            case o15 =>
              intro vs W hw hd K hK
              have h5 : vs 5 = .bool true := hd 5 (by kernel_rfl)
              simp only [Nat.reduceAdd, h5] at hK ⊢
              go_simp
              exact hK.out _ _ trivial (Below.refl _ _)
            case o16 =>
              intro vs W hw hd K hK
              have h5 : vs 5 = .bool true := hd 5 (by kernel_rfl)
              simp only [Nat.reduceAdd, h5] at hK ⊢
              go_simp
              exact hK.out _ _ rfl (Below.refl _ _)
            case o17 =>
              intro vs W hw hd K hK
              have h16 : vs 16 = .bool true := hd 16 (by kernel_rfl)
              simp only [Nat.reduceAdd, h16] at hK ⊢
              go_simp
              exact hK.out _ _ rfl (Below.refl _ _)
            case o18 =>
              intro vs W hw hd K hK
              have h17 : vs 17 = .bool true := hd 17 (by kernel_rfl)
              simp only [Nat.reduceAdd, h17] at hK ⊢
              go_simp
              exact hK.out _ _ trivial (Below.refl _ _)
            case o19 =>
              intro vs W hw hd K hK
              have h17 : vs 17 = .bool true := hd 17 (by kernel_rfl)
              simp only [Nat.reduceAdd, h17] at hK ⊢
              go_simp
              exact hK.out _ _ trivial (Below.refl _ _)
            case o20 =>
              intro vs W hw hd K hK
              have h17 : vs 17 = .bool true := hd 17 (by kernel_rfl)
              simp only [Nat.reduceAdd, h17] at hK ⊢
              go_simp
              exact hK.out _ _ trivial (Below.refl _ _)
            case o21 =>
              intro vs W hw hd K hK
              have h17 : vs 17 = .bool true := hd 17 (by kernel_rfl)
              simp only [Nat.reduceAdd, h17] at hK ⊢
              go_simp
              exact hK.out _ _ trivial (Below.refl _ _)
            case o22 =>
              intro vs W hw hd K hK
              have h17 : vs 17 = .bool true := hd 17 (by kernel_rfl)
              simp only [Nat.reduceAdd, h17] at hK ⊢
              go_simp
              exact hK.out _ _ trivial (Below.refl _ _)
            case o23 =>
              intro vs W hw hd K hK
              have h17 : vs 17 = .bool true := hd 17 (by kernel_rfl)
              simp only [Nat.reduceAdd, h17] at hK ⊢
              go_simp
              exact hK.out _ _ trivial (Below.refl _ _)
            case o24 =>
              intro vs W hw hd K hK
              have h17 : vs 17 = .bool true := hd 17 (by kernel_rfl)
              simp only [Nat.reduceAdd, h17] at hK ⊢
              go_simp
              exact hK.out _ _ trivial (Below.refl _ _)
            case o25 =>
              intro vs W hw hd K hK
              have h17 : vs 17 = .bool true := hd 17 (by kernel_rfl)
              simp only [Nat.reduceAdd, h17] at hK ⊢
              go_simp
              exact hK.out _ _ rfl (Below.refl _ _)
          case hfin =>
            intro vs W hw hd
            have h25 : vs 25 = .bool true := hd 25 (by decide)
            simp only [Nat.reduceAdd, h25]
            have hbf := HB.out.trans (hw.mono HB.out.size)
            go_wp2_with fail
            go_meet
            exact ⟨rfl, hbf⟩
        · obtain ⟨s1, s2⟩ := hsf hx0
          have HRes2 : RowKit.Hid ((!decide (y = x) || qb) = res) := by
            have h := HRes.out
            rw [decide_eq_false hx0, Bool.false_or] at h
            exact h
          by_cases hyx : y = x
          · have hr : qb = res := by
              have h := HRes2.out
              rw [decide_eq_true hyx] at h
              exact h
            subst hr
            rw [decide_eq_true hyx] at hq
            generalize S x = sx at *
            generalize S y = sy at *
            clear hx0 hyx HJ HJ2 HBadP HRes HRes2 HPe hsf
            apply wp_region_inv (V := [.eq (.slice (some ⟨gp, 0, none⟩) n cpp), .eq (.int .i64 (k : Int)), .eq (.pointer (some ⟨gp, k, none⟩)), .eq (.string sx), .eq (.bool false), .eq (.bool false), .eq (.slice (some ⟨gp, 0, none⟩) n cpp), .eq (.int .i64 (k : Int)), .eq (.pointer (some ⟨gp, k, none⟩)), .eq (.string sx), .eq (.string sy), .eq (.slice (some ⟨gp, 0, none⟩) n cpp), .eq (.int .i64 (k : Int)), .eq (.pointer (some ⟨gp, k, none⟩)), .eq (.string sx), .eq (.bool false), .eq (.bool false), .eq (.bool false), .eq (.slice (some ⟨gp, 0, none⟩) n cpp), .eq (.int .i64 (k : Int)), .eq (.pointer (some ⟨gp, k, none⟩)), .eq (.string sx), .sl12 q, .eq (.int .i64 (q : Int)), .eq (.bool qb), .eq (.bool qb)])
            case hm => kernel_rfl
            case hd => kernel_rfl
            case hb => kernel_rfl
            case hA =>
              intro vs
              simp only [puts, Act.put, List.setIfInBounds_toArray, List.set_cons_zero, List.set_cons_succ]
              exact rfl
            case hob =>
              refine Obs.cons _ _ _ _ _ _ ?o0 (Obs.cons _ _ _ _ _ _ ?o1 (Obs.cons _ _ _ _ _ _ ?o2 (Obs.cons _ _ _ _ _ _ ?o3 (Obs.cons _ _ _ _ _ _ ?o4 (Obs.cons _ _ _ _ _ _ ?o5 (Obs.cons _ _ _ _ _ _ ?o6 (Obs.cons _ _ _ _ _ _ ?o7 (Obs.cons _ _ _ _ _ _ ?o8 (Obs.cons _ _ _ _ _ _ ?o9 (Obs.cons _ _ _ _ _ _ ?o10 (Obs.cons _ _ _ _ _ _ ?o11 (Obs.cons _ _ _ _ _ _ ?o12 (Obs.cons _ _ _ _ _ _ ?o13 (Obs.cons _ _ _ _ _ _ ?o14 (Obs.cons _ _ _ _ _ _ ?o15 (Obs.cons _ _ _ _ _ _ ?o16 (Obs.cons _ _ _ _ _ _ ?o17 (Obs.cons _ _ _ _ _ _ ?o18 (Obs.cons _ _ _ _ _ _ ?o19 (Obs.cons _ _ _ _ _ _ ?o20 (Obs.cons _ _ _ _ _ _ ?o21 (Obs.cons _ _ _ _ _ _ ?o22 (Obs.cons _ _ _ _ _ _ ?o23 (Obs.cons _ _ _ _ _ _ ?o24 (Obs.cons _ _ _ _ _ _ ?o25 (Obs.nil _ _ _ _ _ _))))))))))))))))))))))))))
              case o0 =>
                intro vs W hw hd K hK
                go_simp
                exact hK.out _ _ rfl (Below.refl _ _)
              case o1 =>
                intro vs W hw hd K hK
                go_simp
                exact hK.out _ _ rfl (Below.refl _ _)
              case o2 =>
                intro vs W hw hd K hK
                have h0 : vs 0 = .slice (some ⟨gp, 0, none⟩) n cpp := hd 0 (by kernel_rfl)
                have h1 : vs 1 = .int .i64 (k : Int) := hd 1 (by kernel_rfl)
                simp only [Nat.reduceAdd, h0, h1] at hK ⊢
                go_simp
                exact hK.out _ _ rfl (Below.refl _ _)
              case o3 =>
                intro vs W hw hd K hK
                have h2 : vs 2 = .pointer (some ⟨gp, k, none⟩) := hd 2 (by kernel_rfl)
                have c0 := HCell.out W hw
                simp only [Nat.reduceAdd, h2] at hK ⊢
                go_simp
                exact hK.out _ _ rfl (Below.refl _ _)
              case o4 =>
                intro vs W hw hd K hK
                have h3 : vs 3 = .string sx := hd 3 (by kernel_rfl)
                simp only [Nat.reduceAdd, h3] at hK ⊢
                go_simp
                exact hK.out _ _ rfl (Below.refl _ _)
              case o5 =>
                intro vs W hw hd K hK
                have h4 : vs 4 = .bool false := hd 4 (by kernel_rfl)
                simp only [Nat.reduceAdd, h4] at hK ⊢
                go_simp
                exact hK.out _ _ rfl (Below.refl _ _)
              case o6 =>
                intro vs W hw hd K hK
                have h5 : vs 5 = .bool false := hd 5 (by kernel_rfl)
                simp only [Nat.reduceAdd, h5] at hK ⊢
                go_simp
                exact hK.out _ _ rfl (Below.refl _ _)
              case o7 =>
                intro vs W hw hd K hK
                have h5 : vs 5 = .bool false := hd 5 (by kernel_rfl)
                simp only [Nat.reduceAdd, h5] at hK ⊢
                go_simp
                exact hK.out _ _ rfl (Below.refl _ _)
              case o8 =>
                intro vs W hw hd K hK
                have h5 : vs 5 = .bool false := hd 5 (by kernel_rfl)
                have h6 : vs 6 = .slice (some ⟨gp, 0, none⟩) n cpp := hd 6 (by kernel_rfl)
                have h7 : vs 7 = .int .i64 (k : Int) := hd 7 (by kernel_rfl)
                simp only [Nat.reduceAdd, h5, h6, h7] at hK ⊢
                go_simp
                exact hK.out _ _ rfl (Below.refl _ _)
              case o9 =>
                intro vs W hw hd K hK
                have h5 : vs 5 = .bool false := hd 5 (by kernel_rfl)
                have h8 : vs 8 = .pointer (some ⟨gp, k, none⟩) := hd 8 (by kernel_rfl)
                have c0 := HCell.out W hw
                simp only [Nat.reduceAdd, h5, h8] at hK ⊢
                go_simp
                exact hK.out _ _ rfl (Below.refl _ _)
              case o10 =>
                intro vs W hw hd K hK
                have h5 : vs 5 = .bool false := hd 5 (by kernel_rfl)
                have h9 : vs 9 = .string sx := hd 9 (by kernel_rfl)
                simp only [Nat.reduceAdd, h5, h9] at hK ⊢
                go_simp
                refine (cC.out W).mono ?_
                rintro e W' ⟨rfl, hb'⟩
                exact hK.out _ _ rfl hb'
              case o11 =>
                intro vs W hw hd K hK
                have h5 : vs 5 = .bool false := hd 5 (by kernel_rfl)
                simp only [Nat.reduceAdd, h5] at hK ⊢
                go_simp
                exact hK.out _ _ rfl (Below.refl _ _)
              case o12 =>
                intro vs W hw hd K hK
                have h5 : vs 5 = .bool false := hd 5 (by kernel_rfl)
                simp only [Nat.reduceAdd, h5] at hK ⊢
                go_simp
                exact hK.out _ _ rfl (Below.refl _ _)
              case o13 =>
                intro vs W hw hd K hK
                have h5 : vs 5 = .bool false := hd 5 (by kernel_rfl)
                have h11 : vs 11 = .slice (some ⟨gp, 0, none⟩) n cpp := hd 11 (by kernel_rfl)
                have h12 : vs 12 = .int .i64 (k : Int) := hd 12 (by kernel_rfl)
                simp only [Nat.reduceAdd, h5, h11, h12] at hK ⊢
                go_simp
                exact hK.out _ _ rfl (Below.refl _ _)
              case o14 =>
                intro vs W hw hd K hK
                have h5 : vs 5 = .bool false := hd 5 (by kernel_rfl)
                have h13 : vs 13 = .pointer (some ⟨gp, k, none⟩) := hd 13 (by kernel_rfl)
                have c0 := HCell.out W hw
                simp only [Nat.reduceAdd, h5, h13] at hK ⊢
                go_simp
                exact hK.out _ _ rfl (Below.refl _ _)
              case o15 =>
                intro vs W hw hd K hK
                have h5 : vs 5 = .bool false := hd 5 (by kernel_rfl)
                have h10 : vs 10 = .string sy := hd 10 (by kernel_rfl)
                have h14 : vs 14 = .string sx := hd 14 (by kernel_rfl)
                simp only [Nat.reduceAdd, h5, h10, h14] at hK ⊢
                go_simp
                exact hK.out _ _ rfl (Below.refl _ _)
              case o16 =>
                intro vs W hw hd K hK
                have h5 : vs 5 = .bool false := hd 5 (by kernel_rfl)
                have h15 : vs 15 = .bool false := hd 15 (by kernel_rfl)
                simp only [Nat.reduceAdd, h5, h15] at hK ⊢
                go_simp
                exact hK.out _ _ rfl (Below.refl _ _)
              case o17 =>
                intro vs W hw hd K hK
                have h16 : vs 16 = .bool false := hd 16 (by kernel_rfl)
                simp only [Nat.reduceAdd, h16] at hK ⊢
                go_simp
                exact hK.out _ _ rfl (Below.refl _ _)
              case o18 =>
                intro vs W hw hd K hK
                have h17 : vs 17 = .bool false := hd 17 (by kernel_rfl)
                simp only [Nat.reduceAdd, h17] at hK ⊢
                go_simp
                exact hK.out _ _ rfl (Below.refl _ _)
              case o19 =>
                intro vs W hw hd K hK
                have h17 : vs 17 = .bool false := hd 17 (by kernel_rfl)
                simp only [Nat.reduceAdd, h17] at hK ⊢
                go_simp
                exact hK.out _ _ rfl (Below.refl _ _)
              case o20 =>
                intro vs W hw hd K hK
                have h17 : vs 17 = .bool false := hd 17 (by kernel_rfl)
                have h18 : vs 18 = .slice (some ⟨gp, 0, none⟩) n cpp := hd 18 (by kernel_rfl)
                have h19 : vs 19 = .int .i64 (k : Int) := hd 19 (by kernel_rfl)
                simp only [Nat.reduceAdd, h17, h18, h19] at hK ⊢
                go_simp
                exact hK.out _ _ rfl (Below.refl _ _)
              case o21 =>
                intro vs W hw hd K hK
                have h17 : vs 17 = .bool false := hd 17 (by kernel_rfl)
                have h20 : vs 20 = .pointer (some ⟨gp, k, none⟩) := hd 20 (by kernel_rfl)
                have c0 := HCell.out W hw
                simp only [Nat.reduceAdd, h17, h20] at hK ⊢
                go_simp
                exact hK.out _ _ rfl (Below.refl _ _)
              case o22 =>
                intro vs W hw hd K hK
                have h17 : vs 17 = .bool false := hd 17 (by kernel_rfl)
                have h21 : vs 21 = .string sx := hd 21 (by kernel_rfl)
                simp only [Nat.reduceAdd, h17, h21] at hK ⊢
                go_simp
                refine (cS.out W).mono ?_
                rintro e W' ⟨v, rfl, hr', hb'⟩
                obtain ⟨g', cp', rfl⟩ := sr_form hr'
                exact hK.out _ _ ⟨g', cp', by rw [HQn.out]⟩ hb'
              case o23 =>
                intro vs W hw hd K hK
                have h17 : vs 17 = .bool false := hd 17 (by kernel_rfl)
                obtain ⟨g', cp', h22⟩ := (show ∃ g cp, vs 22 = .slice (some ⟨g, 0, none⟩) q cp from hd 22 (by kernel_rfl))
                simp only [h22] at hK ⊢
                simp only [Nat.reduceAdd, h17] at hK ⊢
                go_simp
                exact hK.out _ _ rfl (Below.refl _ _)
              case o24 =>
                intro vs W hw hd K hK
                have h17 : vs 17 = .bool false := hd 17 (by kernel_rfl)
                have h23 : vs 23 = .int .i64 (q : Int) := hd 23 (by kernel_rfl)
                simp only [Nat.reduceAdd, h17, h23] at hK ⊢
                go_simp
                exact hK.out _ _ rfl (Below.refl _ _)
              case o25 =>
                intro vs W hw hd K hK
                have h17 : vs 17 = .bool false := hd 17 (by kernel_rfl)
                have h24 : vs 24 = .bool qb := hd 24 (by kernel_rfl)
                simp only [Nat.reduceAdd, h17, h24] at hK ⊢
                go_simp
                exact hK.out _ _ rfl (Below.refl _ _)
            case hfin =>
              intro vs W hw hd
              have h25 : vs 25 = .bool qb := hd 25 (by decide)
              simp only [Nat.reduceAdd, h25]
              have hbf := HB.out.trans (hw.mono HB.out.size)
              go_wp2_with fail
              go_meet
              exact ⟨rfl, hbf⟩
          · have hr : res = true := by
              have h := HRes2.out
              rw [decide_eq_false hyx] at h
              exact h.symm
            subst hr
            rw [decide_eq_false hyx] at hq
            generalize S x = sx at *
            generalize S y = sy at *
            clear hx0 hyx HJ HJ2 HBadP HRes HRes2 HPe hsf cS
            apply wp_region_inv (V := [.eq (.slice (some ⟨gp, 0, none⟩) n cpp), .eq (.int .i64 (k : Int)), .eq (.pointer (some ⟨gp, k, none⟩)), .eq (.string sx), .eq (.bool false), .eq (.bool false), .eq (.slice (some ⟨gp, 0, none⟩) n cpp), .eq (.int .i64 (k : Int)), .eq (.pointer (some ⟨gp, k, none⟩)), .eq (.string sx), .eq (.string sy), .eq (.slice (some ⟨gp, 0, none⟩) n cpp), .eq (.int .i64 (k : Int)), .eq (.pointer (some ⟨gp, k, none⟩)), .eq (.string sx), .eq (.bool true), .eq (.bool true), .eq (.bool true), .any, .any, .any, .any, .any, .any, .any, .eq (.bool true)])
            case hm => kernel_rfl
            case hd => kernel_rfl
            case hb => kernel_rfl
            case hA =>
              intro vs
              simp only [puts, Act.put, List.setIfInBounds_toArray, List.set_cons_zero, List.set_cons_succ]
              exact rfl
            case hob =>
              refine Obs.cons _ _ _ _ _ _ ?o0 (Obs.cons _ _ _ _ _ _ ?o1 (Obs.cons _ _ _ _ _ _ ?o2 (Obs.cons _ _ _ _ _ _ ?o3 (Obs.cons _ _ _ _ _ _ ?o4 (Obs.cons _ _ _ _ _ _ ?o5 (Obs.cons _ _ _ _ _ _ ?o6 (Obs.cons _ _ _ _ _ _ ?o7 (Obs.cons _ _ _ _ _ _ ?o8 (Obs.cons _ _ _ _ _ _ ?o9 (Obs.cons _ _ _ _ _ _ ?o10 (Obs.cons _ _ _ _ _ _ ?o11 (Obs.cons _ _ _ _ _ _ ?o12 (Obs.cons _ _ _ _ _ _ ?o13 (Obs.cons _ _ _ _ _ _ ?o14 (Obs.cons _ _ _ _ _ _ ?o15 (Obs.cons _ _ _ _ _ _ ?o16 (Obs.cons _ _ _ _ _ _ ?o17 (Obs.cons _ _ _ _ _ _ ?o18 (Obs.cons _ _ _ _ _ _ ?o19 (Obs.cons _ _ _ _ _ _ ?o20 (Obs.cons _ _ _ _ _ _ ?o21 (Obs.cons _ _ _ _ _ _ ?o22 (Obs.cons _ _ _ _ _ _ ?o23 (Obs.cons _ _ _ _ _ _ ?o24 (Obs.cons _ _ _ _ _ _ ?o25 (Obs.nil _ _ _ _ _ _))))))))))))))))))))))))))
              case o0 =>
                intro vs W hw hd K hK
                go_simp
                exact hK.out _ _ rfl (Below.refl _ _)
              case o1 =>
                intro vs W hw hd K hK
                go_simp
                exact hK.out _ _ rfl (Below.refl _ _)
              case o2 =>
                intro vs W hw hd K hK
                have h0 : vs 0 = .slice (some ⟨gp, 0, none⟩) n cpp := hd 0 (by kernel_rfl)
                have h1 : vs 1 = .int .i64 (k : Int) := hd 1 (by kernel_rfl)
                simp only [Nat.reduceAdd, h0, h1] at hK ⊢
                go_simp
                exact hK.out _ _ rfl (Below.refl _ _)
              case o3 =>
                intro vs W hw hd K hK
                have h2 : vs 2 = .pointer (some ⟨gp, k, none⟩) := hd 2 (by kernel_rfl)
                have c0 := HCell.out W hw
                simp only [Nat.reduceAdd, h2] at hK ⊢
                go_simp
                exact hK.out _ _ rfl (Below.refl _ _)
              case o4 =>
                intro vs W hw hd K hK
                have h3 : vs 3 = .string sx := hd 3 (by kernel_rfl)
                simp only [Nat.reduceAdd, h3] at hK ⊢
                go_simp
                exact hK.out _ _ rfl (Below.refl _ _)
              case o5 =>
                intro vs W hw hd K hK
                have h4 : vs 4 = .bool false := hd 4 (by kernel_rfl)
                simp only [Nat.reduceAdd, h4] at hK ⊢
                go_simp
                exact hK.out _ _ rfl (Below.refl _ _)
              case o6 =>
                intro vs W hw hd K hK
                have h5 : vs 5 = .bool false := hd 5 (by kernel_rfl)
                simp only [Nat.reduceAdd, h5] at hK ⊢
                go_simp
                exact hK.out _ _ rfl (Below.refl _ _)
              case o7 =>
                intro vs W hw hd K hK
                have h5 : vs 5 = .bool false := hd 5 (by kernel_rfl)
                simp only [Nat.reduceAdd, h5] at hK ⊢
                go_simp
                exact hK.out _ _ rfl (Below.refl _ _)
              case o8 =>
                intro vs W hw hd K hK
                have h5 : vs 5 = .bool false := hd 5 (by kernel_rfl)
                have h6 : vs 6 = .slice (some ⟨gp, 0, none⟩) n cpp := hd 6 (by kernel_rfl)
                have h7 : vs 7 = .int .i64 (k : Int) := hd 7 (by kernel_rfl)
                simp only [Nat.reduceAdd, h5, h6, h7] at hK ⊢
                go_simp
                exact hK.out _ _ rfl (Below.refl _ _)
              case o9 =>
                intro vs W hw hd K hK
                have h5 : vs 5 = .bool false := hd 5 (by kernel_rfl)
                have h8 : vs 8 = .pointer (some ⟨gp, k, none⟩) := hd 8 (by kernel_rfl)
                have c0 := HCell.out W hw
                simp only [Nat.reduceAdd, h5, h8] at hK ⊢
                go_simp
                exact hK.out _ _ rfl (Below.refl _ _)
              case o10 =>
                intro vs W hw hd K hK
                have h5 : vs 5 = .bool false := hd 5 (by kernel_rfl)
                have h9 : vs 9 = .string sx := hd 9 (by kernel_rfl)
                simp only [Nat.reduceAdd, h5, h9] at hK ⊢
                go_simp
                refine (cC.out W).mono ?_
                rintro e W' ⟨rfl, hb'⟩
                exact hK.out _ _ rfl hb'
              case o11 =>
                intro vs W hw hd K hK
                have h5 : vs 5 = .bool false := hd 5 (by kernel_rfl)
                simp only [Nat.reduceAdd, h5] at hK ⊢
                go_simp
                exact hK.out _ _ rfl (Below.refl _ _)
              case o12 =>
                intro vs W hw hd K hK
                have h5 : vs 5 = .bool false := hd 5 (by kernel_rfl)
                simp only [Nat.reduceAdd, h5] at hK ⊢
                go_simp
                exact hK.out _ _ rfl (Below.refl _ _)
              case o13 =>
                intro vs W hw hd K hK
                have h5 : vs 5 = .bool false := hd 5 (by kernel_rfl)
                have h11 : vs 11 = .slice (some ⟨gp, 0, none⟩) n cpp := hd 11 (by kernel_rfl)
                have h12 : vs 12 = .int .i64 (k : Int) := hd 12 (by kernel_rfl)
                simp only [Nat.reduceAdd, h5, h11, h12] at hK ⊢
                go_simp
                exact hK.out _ _ rfl (Below.refl _ _)
              case o14 =>
                intro vs W hw hd K hK
                have h5 : vs 5 = .bool false := hd 5 (by kernel_rfl)
                have h13 : vs 13 = .pointer (some ⟨gp, k, none⟩) := hd 13 (by kernel_rfl)
                have c0 := HCell.out W hw
                simp only [Nat.reduceAdd, h5, h13] at hK ⊢
                go_simp
                exact hK.out _ _ rfl (Below.refl _ _)
              case o15 =>
                intro vs W hw hd K hK
                have h5 : vs 5 = .bool false := hd 5 (by kernel_rfl)
                have h10 : vs 10 = .string sy := hd 10 (by kernel_rfl)
                have h14 : vs 14 = .string sx := hd 14 (by kernel_rfl)
                simp only [Nat.reduceAdd, h5, h10, h14] at hK ⊢
                go_simp
                exact hK.out _ _ rfl (Below.refl _ _)
              case o16 =>
                intro vs W hw hd K hK
                have h5 : vs 5 = .bool false := hd 5 (by kernel_rfl)
                have h15 : vs 15 = .bool true := hd 15 (by kernel_rfl)
                simp only [Nat.reduceAdd, h5, h15] at hK ⊢
                go_simp
                exact hK.out _ _ rfl (Below.refl _ _)
              case o17 =>
                intro vs W hw hd K hK
                have h16 : vs 16 = .bool true := hd 16 (by kernel_rfl)
                simp only [Nat.reduceAdd, h16] at hK ⊢
                go_simp
                exact hK.out _ _ rfl (Below.refl _ _)
              case o18 =>
                intro vs W hw hd K hK
                have h17 : vs 17 = .bool true := hd 17 (by kernel_rfl)
                simp only [Nat.reduceAdd, h17] at hK ⊢
                go_simp
                exact hK.out _ _ trivial (Below.refl _ _)
              case o19 =>
                intro vs W hw hd K hK
                have h17 : vs 17 = .bool true := hd 17 (by kernel_rfl)
                simp only [Nat.reduceAdd, h17] at hK ⊢
                go_simp
                exact hK.out _ _ trivial (Below.refl _ _)
              case o20 =>
                intro vs W hw hd K hK
                have h17 : vs 17 = .bool true := hd 17 (by kernel_rfl)
                simp only [Nat.reduceAdd, h17] at hK ⊢
                go_simp
                exact hK.out _ _ trivial (Below.refl _ _)
              case o21 =>
                intro vs W hw hd K hK
                have h17 : vs 17 = .bool true := hd 17 (by kernel_rfl)
                simp only [Nat.reduceAdd, h17] at hK ⊢
                go_simp
                exact hK.out _ _ trivial (Below.refl _ _)
              case o22 =>
                intro vs W hw hd K hK
                have h17 : vs 17 = .bool true := hd 17 (by kernel_rfl)
                simp only [Nat.reduceAdd, h17] at hK ⊢
                go_simp
                exact hK.out _ _ trivial (Below.refl _ _)
              case o23 =>
                intro vs W hw hd K hK
                have h17 : vs 17 = .bool true := hd 17 (by kernel_rfl)
                simp only [Nat.reduceAdd, h17] at hK ⊢
                go_simp
                exact hK.out _ _ trivial (Below.refl _ _)
              case o24 =>
                intro vs W hw hd K hK
                have h17 : vs 17 = .bool true := hd 17 (by kernel_rfl)
                simp only [Nat.reduceAdd, h17] at hK ⊢
                go_simp
                exact hK.out _ _ trivial (Below.refl _ _)
              case o25 =>
                intro vs W hw hd K hK
                have h17 : vs 17 = .bool true := hd 17 (by kernel_rfl)
                simp only [Nat.reduceAdd, h17] at hK ⊢
                go_simp
                exact hK.out _ _ rfl (Below.refl _ _)
            case hfin =>
              intro vs W hw hd
              have h25 : vs 25 = .bool true := hd 25 (by decide)
              simp only [Nat.reduceAdd, h25]
              have hbf := HB.out.trans (hw.mono HB.out.size)
              go_wp2_with fail
              go_meet
              exact ⟨rfl, hbf⟩
      case rest =>
        obtain ⟨rfl, hwx⟩ := hcut
        have HBx := Lib.hid hwx
        clear hwx hq hsf cC cS HCell HRes hqb hqbi
        cases res with
        | true =>
          have hbad := Lib.hid (HBad.out (HAll.out (HBadP.out (by rw [HPe.out]; rfl))) wc (B2.out.trans (HBx.out.mono B2.out.size)))
          obtain ⟨⟨y0, y1, y2⟩, z0, z1, z2⟩ := ncells (HBox.out wc (B2.out.trans (HBx.out.mono B2.out.size)))
          clear HBad HGood HOkN2 HVal2 HBox HAll HPe HBadP HJ2 HJ
          go_wp2
          (try simp only [Exit.inBlock, Exit.then])
          refine bodyPost_ret (results_nm rfl _ _ w.heap.size _ _ _ _ rfl hbad.out.2 Tryz.underlying99 rfl (by kernel_rfl)) rfl ?_
          exact hbad.out.1
        | false =>
          have HJ3 := Lib.hid (HJ2.out (by rw [HPe.out]; rfl))
          clear HPe HBadP HJ2 HJ
          go_wp2
          go_roundw
          case rel => exact ⟨k + 1, by go_num, by omega, HJ3.out, HBx⟩
          case measure => simp [intOf]; omega
    · obtain rfl : k = n := by omega
      have hall : P.all pieceX = true := by
        rw [List.all_eq_true]
        intro x hx
        obtain ⟨j, hj, rfl⟩ := List.mem_iff_getElem.1 hx
        have := HJ.out j (by rw [← HN.out]; exact hj)
        rw [List.getD_eq_getElem?_getD, List.getElem?_eq_getElem hj] at this
        exact this
      have hO := HOkN2.out hall
      have HPc := Lib.hid (HP.out.after HB.out)
      have HBw := Lib.hid (B2.out.trans (HB.out.mono B2.out.size))
      have HDt := Lib.hid (fun x b (hx : x ∈ P) (hb : datesX x = b) W => refDates_any x (Nat.le_trans (HPl.out x hx) (by decide)) b hb W)
      have HCl : RowKit.Hid (∀ W, Below wr.heap.size wr W → ∀ j, j < k → W.cell? ⟨gp, j, none⟩ = some (.string (S (P.getD j [])))) := by
        intro W hW j hj
        obtain ⟨g2, o2, cap2, he, hg, c0⟩ := (HPc.out.after hW).at12 j (by rw [HN.out]; exact hj)
        obtain ⟨ha, -, hcp⟩ := Value.slice.inj he
        obtain ⟨rfl, rfl, -⟩ := Addr.mk.inj (Option.some.inj ha)
        rw [Nat.zero_add] at c0
        exact c0
      clear HAll HOkN2 HVal2 HPl HJ hall HB HP B2
      have hlen := HN.out
      clear HN
      have HNn := Lib.hid hlen
      match P, HPn, HDt, HCl, HPc, HNn, hO, hlen with
      | [], HPn, HDt, HCl, HPc, HNn, hO, hlen => exact absurd rfl HPn.out
      | [a], HPn, HDt, HCl, HPc, HNn, hO, hlen =>
        obtain rfl : 1 = k := hlen
        have hO1 : nameO l = some (a, [], []) := hO
        clear HDt hO HBad hlen
        have c0 := HCl.out wr (Below.refl _ _) 0 (by decide)
        change wr.cell? _ = some (.string (S a)) at c0
        have hb3 := (Below.refl wr.heap.size wr).alloc (Nat.le_refl _) (.cells #[.string (S a), .string ⟨#[]⟩, .string ⟨#[]⟩] 99)
        have hN3 : (wr.alloc (.cells #[.string (S a), .string ⟨#[]⟩, .string ⟨#[]⟩] 99)).heap[wr.heap.size]? = some (.cells #[.string (S a), .string ⟨#[]⟩, .string ⟨#[]⟩] 99 (0, 0)) := heap_alloc_new wr _
        go_upto_region 12 with fail
        obtain ⟨w3, hw3⟩ : ∃ W, wr.alloc (.cells #[.string (S a), .string ⟨#[]⟩, .string ⟨#[]⟩] 99) = W := ⟨_, rfl⟩
        rw [hw3] at hb3 hN3 ⊢
        clear hw3 c0
        have hle := HBw.out.size
        have hB3 := HBw.out.trans (hb3.mono hle)
        obtain ⟨bn, hbn⟩ : ∃ b, wr.heap.size = b := ⟨_, rfl⟩
        have hgb : gp < bn := by
          obtain ⟨g2, o2, cap2, he, hg, c0⟩ := HPc.out.at12 0 (by rw [HNn.out]; decide)
          obtain ⟨ha, -, hcp⟩ := Value.slice.inj he
          obtain ⟨rfl, rfl, -⟩ := Addr.mk.inj (Option.some.inj ha)
          rw [← hbn]; exact hg
        rw [hbn] at hN3 hle ⊢
        clear hb3 hbn HCl HBw HPc
        have hgood := Lib.hid (HGood.out (a, [], []) hO1 w3 hB3)
        obtain ⟨⟨x0, x1, x2⟩, v0, v1, v2⟩ := ncells hN3
        obtain ⟨⟨y0, y1, y2⟩, z0, z1, z2⟩ := ncells (HBox.out w3 hB3)
        clear HGood HBox
        go_wp2_with fail
        (try simp only [Exit.inBlock, Exit.then])
        refine bodyPost_ret (results_nm rfl _ _ w.heap.size _ _ _ _ rfl hgood.out.2 Tryz.underlying99 rfl (by kernel_rfl)) rfl ?_
        exact hgood.out.1
      | [a, b], HPn, HDt, HCl, HPc, HNn, hO, hlen =>
        obtain rfl : 2 = k := hlen
        have hO1 : nameO l = (if datesX b = true then some (a, [], b) else some (a, b, [])) := hO
        clear hO HBad hlen
        have c0 := HCl.out wr (Below.refl _ _) 0 (by decide)
        change wr.cell? _ = some (.string (S a)) at c0
        have c1 := HCl.out wr (Below.refl _ _) 1 (by decide)
        change wr.cell? _ = some (.string (S b)) at c1
        have hb3 := (Below.refl wr.heap.size wr).alloc (Nat.le_refl _) (.cells #[.string (S a), .string ⟨#[]⟩, .string ⟨#[]⟩] 99)
        have hN3 : (wr.alloc (.cells #[.string (S a), .string ⟨#[]⟩, .string ⟨#[]⟩] 99)).heap[wr.heap.size]? = some (.cells #[.string (S a), .string ⟨#[]⟩, .string ⟨#[]⟩] 99 (0, 0)) := heap_alloc_new wr _
        go_upto_region 12 with fail
        obtain ⟨w3, hw3⟩ : ∃ W, wr.alloc (.cells #[.string (S a), .string ⟨#[]⟩, .string ⟨#[]⟩] 99) = W := ⟨_, rfl⟩
        rw [hw3] at hb3 hN3 ⊢
        clear hw3 c0 c1
        have c1 := HCl.out w3 hb3 1 (by decide)
        change w3.cell? _ = some (.string (S b)) at c1
        have hle := HBw.out.size
        have hB3 := HBw.out.trans (hb3.mono hle)
        obtain ⟨bn, hbn⟩ : ∃ b, wr.heap.size = b := ⟨_, rfl⟩
        have hgb : gp < bn := by
          obtain ⟨g2, o2, cap2, he, hg, c0⟩ := HPc.out.at12 0 (by rw [HNn.out]; decide)
          obtain ⟨ha, -, hcp⟩ := Value.slice.inj he
          obtain ⟨rfl, rfl, -⟩ := Addr.mk.inj (Option.some.inj ha)
          rw [← hbn]; exact hg
        rw [hbn] at hN3 hle ⊢
        clear hb3 hbn HCl HBw HPc
        obtain ⟨db, hdb⟩ : ∃ d, datesX b = d := ⟨_, rfl⟩
        have cD := Lib.hid (HDt.out b db (by simp) hdb w3)
        rw [hdb] at hO1
        clear HDt hdb
        go_upto_region 18 with fail
        go_wp2_with fail
        refine cD.out.mono ?_
        rintro e w4 ⟨rfl, hw4⟩
        rw [hw4]
        clear cD hw4 w4
        cases db with
        | true =>
          have hO2 : nameO l = some (a, [], b) := hO1
          obtain ⟨⟨x0, x1, x2⟩, v0, v1, v2⟩ := ncells hN3
          have hB4 := hB3.setCell (p := ⟨bn, 2, none⟩) hle (.string (S b))
          have hN4 := nm_put2 hN3 (.string (S b))
          go_upto_region 21 with fail
          obtain ⟨w4, hw4⟩ : ∃ W, w3.setCell ⟨bn, 2, none⟩ (.string (S b)) = W := ⟨_, rfl⟩
          rw [hw4] at hB4 hN4 ⊢
          clear hw4 hN3 hB3 x0 x1 x2 v0 v1 v2
          have hgood := Lib.hid (HGood.out (a, [], b) hO2 w4 hB4)
          obtain ⟨⟨x0, x1, x2⟩, v0, v1, v2⟩ := ncells hN4
          obtain ⟨⟨y0, y1, y2⟩, z0, z1, z2⟩ := ncells (HBox.out w4 hB4)
          clear HGood HBox
          go_wp2_with fail
          (try simp only [Exit.inBlock, Exit.then])
          refine bodyPost_ret (results_nm rfl _ _ w.heap.size _ _ _ _ rfl hgood.out.2 Tryz.underlying99 rfl (by kernel_rfl)) rfl ?_
          exact hgood.out.1
        | false =>
          have hO2 : nameO l = some (a, b, []) := hO1
          obtain ⟨⟨x0, x1, x2⟩, v0, v1, v2⟩ := ncells hN3
          have hB4 := hB3.setCell (p := ⟨bn, 1, none⟩) hle (.string (S b))
          have hN4 := nm_put1 hN3 (.string (S b))
          go_upto_region 21 with fail
          obtain ⟨w4, hw4⟩ : ∃ W, w3.setCell ⟨bn, 1, none⟩ (.string (S b)) = W := ⟨_, rfl⟩
          rw [hw4] at hB4 hN4 ⊢
          clear hw4 hN3 hB3 x0 x1 x2 v0 v1 v2
          have hgood := Lib.hid (HGood.out (a, b, []) hO2 w4 hB4)
          obtain ⟨⟨x0, x1, x2⟩, v0, v1, v2⟩ := ncells hN4
          obtain ⟨⟨y0, y1, y2⟩, z0, z1, z2⟩ := ncells (HBox.out w4 hB4)
          clear HGood HBox
          go_wp2_with fail
          (try simp only [Exit.inBlock, Exit.then])
          refine bodyPost_ret (results_nm rfl _ _ w.heap.size _ _ _ _ rfl hgood.out.2 Tryz.underlying99 rfl (by kernel_rfl)) rfl ?_
          exact hgood.out.1
      | [a, b, c], HPn, HDt, HCl, HPc, HNn, hO, hlen =>
        obtain rfl : 3 = k := hlen
        have hO1 : nameO l = (if datesX c = true then some (a, b, c) else none) := hO
        clear hO hlen
        have c0 := HCl.out wr (Below.refl _ _) 0 (by decide)
        change wr.cell? _ = some (.string (S a)) at c0
        have c1 := HCl.out wr (Below.refl _ _) 1 (by decide)
        change wr.cell? _ = some (.string (S b)) at c1
        have c2 := HCl.out wr (Below.refl _ _) 2 (by decide)
        change wr.cell? _ = some (.string (S c)) at c2
        have hb3 := (Below.refl wr.heap.size wr).alloc (Nat.le_refl _) (.cells #[.string (S a), .string ⟨#[]⟩, .string ⟨#[]⟩] 99)
        have hN3 : (wr.alloc (.cells #[.string (S a), .string ⟨#[]⟩, .string ⟨#[]⟩] 99)).heap[wr.heap.size]? = some (.cells #[.string (S a), .string ⟨#[]⟩, .string ⟨#[]⟩] 99 (0, 0)) := heap_alloc_new wr _
        go_upto_region 12 with fail
        obtain ⟨w3, hw3⟩ : ∃ W, wr.alloc (.cells #[.string (S a), .string ⟨#[]⟩, .string ⟨#[]⟩] 99) = W := ⟨_, rfl⟩
        rw [hw3] at hb3 hN3 ⊢
        clear hw3 c0 c1 c2
        have c1 := HCl.out w3 hb3 1 (by decide)
        change w3.cell? _ = some (.string (S b)) at c1
        have c2 := HCl.out w3 hb3 2 (by decide)
        change w3.cell? _ = some (.string (S c)) at c2
        have hle := HBw.out.size
        have hB3 := HBw.out.trans (hb3.mono hle)
        obtain ⟨bn, hbn⟩ : ∃ b, wr.heap.size = b := ⟨_, rfl⟩
        have hgb : gp < bn := by
          obtain ⟨g2, o2, cap2, he, hg, c0⟩ := HPc.out.at12 0 (by rw [HNn.out]; decide)
          obtain ⟨ha, -, hcp⟩ := Value.slice.inj he
          obtain ⟨rfl, rfl, -⟩ := Addr.mk.inj (Option.some.inj ha)
          rw [← hbn]; exact hg
        rw [hbn] at hN3 hle ⊢
        clear hb3 hbn HCl HBw HPc
        obtain ⟨db, hdb⟩ : ∃ d, datesX c = d := ⟨_, rfl⟩
        have cD := Lib.hid (HDt.out c db (by simp) hdb w3)
        rw [hdb] at hO1
        clear HDt hdb
        go_upto_region 13 with fail
        go_wp2_with fail
        refine cD.out.mono ?_
        rintro e w4 ⟨rfl, hw4⟩
        rw [hw4]
        clear cD hw4 w4
        cases db with
        | false =>
          have hO2 : nameO l = none := hO1
          have hbad := Lib.hid (HBad.out hO2 w3 hB3)
          obtain ⟨⟨y0, y1, y2⟩, z0, z1, z2⟩ := ncells (HBox.out w3 hB3)
          clear HBad HGood HBox
          go_wp2_with fail
          (try simp only [Exit.inBlock, Exit.then])
          refine bodyPost_ret (results_nm rfl _ _ w.heap.size _ _ _ _ rfl hbad.out.2 Tryz.underlying99 rfl (by kernel_rfl)) rfl ?_
          exact hbad.out.1
        | true =>
          have hO2 : nameO l = some (a, b, c) := hO1
          obtain ⟨⟨x0, x1, x2⟩, v0, v1, v2⟩ := ncells hN3
          have hB4 := hB3.setCell (p := ⟨bn, 1, none⟩) hle (.string (S b))
          have hN4 := nm_put1 hN3 (.string (S b))
          have c2 := (World.cell?_setCell_far w3 ⟨bn, 1, none⟩ ⟨gp, 2, none⟩ (.string (S b)) (Nat.ne_of_gt hgb)).trans c2
          go_upto_region 16 with fail
          obtain ⟨w4, hw4⟩ : ∃ W, w3.setCell ⟨bn, 1, none⟩ (.string (S b)) = W := ⟨_, rfl⟩
          rw [hw4] at hB4 hN4 c2 ⊢
          clear hw4 hN3 hB3 x0 x1 x2 v0 v1 v2
          obtain ⟨⟨x0, x1, x2⟩, v0, v1, v2⟩ := ncells hN4
          have hB5 := hB4.setCell (p := ⟨bn, 2, none⟩) hle (.string (S c))
          have hN5 := nm_put2 hN4 (.string (S c))
          go_upto_region 21 with fail
          obtain ⟨w5, hw5⟩ : ∃ W, w4.setCell ⟨bn, 2, none⟩ (.string (S c)) = W := ⟨_, rfl⟩
          rw [hw5] at hB5 hN5 ⊢
          clear hw5 hN4 hB4 x0 x1 x2 v0 v1 v2
          have hgood := Lib.hid (HGood.out (a, b, c) hO2 w5 hB5)
          obtain ⟨⟨x0, x1, x2⟩, v0, v1, v2⟩ := ncells hN5
          obtain ⟨⟨y0, y1, y2⟩, z0, z1, z2⟩ := ncells (HBox.out w5 hB5)
          clear HGood HBox
          go_wp2_with fail
          (try simp only [Exit.inBlock, Exit.then])
          refine bodyPost_ret (results_nm rfl _ _ w.heap.size _ _ _ _ rfl hgood.out.2 Tryz.underlying99 rfl (by kernel_rfl)) rfl ?_
          exact hgood.out.1
      | _ :: _ :: _ :: _ :: _, HPn, HDt, HCl, HPc, HNn, hO, hlen => simp at hlen; omega
end

end Go.Proofs.YthjdopnoophigaaGreatDoor
