/- Merged: PF12, PG12, KC14, KL14, KM14. -/
import Derived.Test.YthjdopnoophigaaGreatDoorQ28
import Derived.Test.YthjdopnoophigaaGreatDoorQ29
import Derived.Test.YthjdopnoophigaaGreatDoorQ22
import Derived.Test.YthjdopnoophigaaGreatDoorQ20
import Derived.Test.YthjdopnoophigaaGreatDoorQ17
import Derived.Test.YthjdopnoophigaaGreatDoorQ21
import Derived.Test.YthjdopnoophigaaGreatDoorQ23
namespace Go.Proofs.YthjdopnoophigaaGreatDoor

section
open Go.RowKit Go.PlainAid
def nameR (P : List (List UInt8)) : Nm × Int := match nameL P with
  | some n => (n, 0)
  | none => (nm0, 3)
set_option maxHeartbeats 16000000 in
set_option maxRecDepth 100000 in
theorem named_any (P : List (List UInt8)) (v : Value) (w : World) (hE : Env w) (hv : BL v P w) (h1 : P ≠ []) (h3 : P.length ≤ 3) (hl : ∀ x ∈ P, x.length ≤ 1000000) (nm : Nm) (er : Int) (hr : nameR P = (nm, er)) :
    Calls Tryz.prog 128 #[v] w fun e w' => e = .returned (.tuple #[NV nm, .int .i64 er]) ∧ Below w.heap.size w w' := by
  obtain ⟨Q, hQ⟩ : ∃ Q, (fun (e : Ending) (w' : World) => e = .returned (.tuple #[NV nm, .int .i64 er]) ∧ Below w.heap.size w w') = Q := ⟨_, rfl⟩
  rw [hQ]
  have HNo : RowKit.Hid (nameL P = none → ∀ W, Below w.heap.size w W → Q (.returned (.tuple #[.agg #[.string ⟨#[]⟩, .string ⟨#[]⟩, .string ⟨#[]⟩], .int .i64 3])) W) := by
    intro h W hW
    unfold nameR at hr
    rw [h] at hr
    obtain ⟨rfl, rfl⟩ := Prod.mk.inj hr
    rw [← hQ]
    exact ⟨rfl, hW⟩
  have HYes : RowKit.Hid (∀ m : Nm, nameL P = some m → ∀ W, Below w.heap.size w W → Q (.returned (.tuple #[NV m, .int .i64 0])) W) := by
    intro m h W hW
    unfold nameR at hr
    rw [h] at hr
    obtain ⟨rfl, rfl⟩ := Prod.mk.inj hr
    rw [← hQ]
    exact ⟨rfl, hW⟩
  clear hr hQ
  obtain ⟨W0, hW0⟩ : ∃ W, w.alloc (.cells #[.string ⟨#[]⟩, .string ⟨#[]⟩, .string ⟨#[]⟩] 99) = W := ⟨_, rfl⟩
  have b0 : Below w.heap.size w W0 := by rw [← hW0]; exact (Below.refl _ _).alloc (Nat.le_refl _) _
  have hR0 : W0.heap[w.heap.size]? = some (.cells #[.string ⟨#[]⟩, .string ⟨#[]⟩, .string ⟨#[]⟩] 99 (0, 0)) := by rw [← hW0]; exact heap_alloc_new w _
  have hlt0 : w.heap.size < W0.heap.size := by rw [← hW0]; simp
  have HBox := Lib.hid (fun (W : World) (h : Below W0.heap.size W0 W) => (h.block w.heap.size hlt0).trans hR0)
  have HW0 := Lib.hid hW0
  have HBad : RowKit.Hid (nameL P = none → ∀ W, Below W0.heap.size W0 W → Q (.returned (.tuple #[.agg #[.string ⟨#[]⟩, .string ⟨#[]⟩, .string ⟨#[]⟩], .int .i64 3])) (setN3 W w.heap.size (.string ⟨#[]⟩) (.string ⟨#[]⟩) (.string ⟨#[]⟩)) ∧ (setN3 W w.heap.size (.string ⟨#[]⟩) (.string ⟨#[]⟩) (.string ⟨#[]⟩)).heap[w.heap.size]? = some (.cells #[.string ⟨#[]⟩, .string ⟨#[]⟩, .string ⟨#[]⟩] 99 (0, 0))) := fun h W hW =>
    ⟨HNo.out h _ (nm_below (b0.trans (hW.mono b0.size))), nm_set3 ((hW.block w.heap.size hlt0).trans hR0)⟩
  have HGood : RowKit.Hid (∀ m : Nm, nameL P = some m → ∀ W, Below W0.heap.size W0 W → Q (.returned (.tuple #[NV m, .int .i64 0])) (setN3 W w.heap.size (.string (S m.1)) (.string (S m.2.1)) (.string (S m.2.2))) ∧ (setN3 W w.heap.size (.string (S m.1)) (.string (S m.2.1)) (.string (S m.2.2))).heap[w.heap.size]? = some (.cells #[.string (S m.1), .string (S m.2.1), .string (S m.2.2)] 99 (0, 0))) := fun m h W hW =>
    ⟨HYes.out m h _ (nm_below (b0.trans (hW.mono b0.size))), nm_set3 ((hW.block w.heap.size hlt0).trans hR0)⟩
  unfold setN3 at HBad HGood
  have hv0 := hv.after b0
  obtain ⟨g, o, cap, rfl, hg, -⟩ := hv0.at12 0 (List.length_pos_iff.2 h1)
  have hmx : P.length ≤ cap ∧ cap ≤ maxLen := by
    obtain ⟨a', c', he, h1, h2, _⟩ := hv0
    obtain ⟨-, -, rfl⟩ := Value.slice.inj he
    exact ⟨h1, h2⟩
  have HCl : RowKit.Hid (∀ W, Below W0.heap.size W0 W → ∀ j, j < P.length → W.cell? ⟨g, o + j, none⟩ = some (.string (S (P.getD j [])))) := by
    intro W hW j hj
    obtain ⟨g2, o2, cap2, he, hg, c0⟩ := (hv0.after hW).at12 j hj
    obtain ⟨ha, -, hcp⟩ := Value.slice.inj he
    obtain ⟨rfl, rfl, -⟩ := Addr.mk.inj (Option.some.inj ha)
    exact c0
  have HDt := Lib.hid (fun x b (hx : x ∈ P) (hb : datesX x = b) W (hW : Below W0.heap.size W0 W) => dates_any x (hl x hx) b hb W ((hE.after b0).after hW))
  clear hW0 hR0 hlt0 b0 HNo HYes hv hv0 hE hl
  match P, h1, h3, HBad, HGood, HCl, HDt, hmx with
  | [], h1, h3, HBad, HGood, HCl, HDt, hmx => exact absurd rfl h1
  | [a], h1, h3, HBad, HGood, HCl, HDt, hmx =>
    have c0 := HCl.out W0 (Below.refl _ _) 0 (by simp)
    change W0.cell? _ = some (.string (S a)) at c0
    rw [Nat.add_zero] at c0
    have hm1 : 1 ≤ cap := hmx.1
    change Calls _ _ #[.slice (some ⟨g, o, none⟩) 1 cap] _ _
    have hb3 := (Below.refl W0.heap.size W0).alloc (Nat.le_refl _) (.cells #[.string (S a), .string ⟨#[]⟩, .string ⟨#[]⟩] 99)
    have hN3 : (W0.alloc (.cells #[.string (S a), .string ⟨#[]⟩, .string ⟨#[]⟩] 99)).heap[W0.heap.size]? = some (.cells #[.string (S a), .string ⟨#[]⟩, .string ⟨#[]⟩] 99 (0, 0)) := heap_alloc_new W0 _
    go_enter Tryz.func128, Tryz.ntmps128
    go_upto_region 1 with fail
    rw [HW0.out]
    go_upto_region 2 with fail
    obtain ⟨w3, hw3⟩ : ∃ W, W0.alloc (.cells #[.string (S a), .string ⟨#[]⟩, .string ⟨#[]⟩] 99) = W := ⟨_, rfl⟩
    rw [hw3] at hb3 hN3 ⊢
    clear hw3 c0
    obtain ⟨bn, hbn⟩ : ∃ b, W0.heap.size = b := ⟨_, rfl⟩
    have hgb : g < bn := by rw [← hbn]; exact hg
    have HCl3 := Lib.hid (fun j hj => HCl.out w3 hb3 j hj)
    have HDt3 := Lib.hid (fun x r (hx : x ∈ [a]) (hb : datesX x = r) => HDt.out x r hx hb w3 hb3)
    rw [hbn] at hN3 hb3 HBox HBad HGood HDt ⊢
    have hle : bn ≤ bn := Nat.le_refl _
    clear hbn HCl HDt hg
    have hgood := Lib.hid (HGood.out (a, [], []) rfl w3 hb3)
    obtain ⟨⟨x0, x1, x2⟩, v0, v1, v2⟩ := ncells hN3
    obtain ⟨⟨y0, y1, y2⟩, z0, z1, z2⟩ := ncells (HBox.out w3 hb3)
    clear HGood HBox HBad HDt3
    go_wp2_with fail
    (try simp only [Exit.inBlock, Exit.then])
    refine bodyPost_ret (results_nm rfl _ _ w.heap.size _ _ _ _ rfl hgood.out.2 Tryz.underlying99 rfl (by kernel_rfl)) rfl ?_
    exact hgood.out.1
  | [a, b], h1, h3, HBad, HGood, HCl, HDt, hmx =>
    have c0 := HCl.out W0 (Below.refl _ _) 0 (by simp)
    change W0.cell? _ = some (.string (S a)) at c0
    have c1 := HCl.out W0 (Below.refl _ _) 1 (by simp)
    change W0.cell? _ = some (.string (S b)) at c1
    rw [Nat.add_zero] at c0
    have hm1 : 2 ≤ cap := hmx.1
    change Calls _ _ #[.slice (some ⟨g, o, none⟩) 2 cap] _ _
    have hb3 := (Below.refl W0.heap.size W0).alloc (Nat.le_refl _) (.cells #[.string (S a), .string ⟨#[]⟩, .string ⟨#[]⟩] 99)
    have hN3 : (W0.alloc (.cells #[.string (S a), .string ⟨#[]⟩, .string ⟨#[]⟩] 99)).heap[W0.heap.size]? = some (.cells #[.string (S a), .string ⟨#[]⟩, .string ⟨#[]⟩] 99 (0, 0)) := heap_alloc_new W0 _
    go_enter Tryz.func128, Tryz.ntmps128
    go_upto_region 1 with fail
    rw [HW0.out]
    go_upto_region 2 with fail
    obtain ⟨w3, hw3⟩ : ∃ W, W0.alloc (.cells #[.string (S a), .string ⟨#[]⟩, .string ⟨#[]⟩] 99) = W := ⟨_, rfl⟩
    rw [hw3] at hb3 hN3 ⊢
    clear hw3 c0 c1
    obtain ⟨bn, hbn⟩ : ∃ b, W0.heap.size = b := ⟨_, rfl⟩
    have hgb : g < bn := by rw [← hbn]; exact hg
    have HCl3 := Lib.hid (fun j hj => HCl.out w3 hb3 j hj)
    have HDt3 := Lib.hid (fun x r (hx : x ∈ [a, b]) (hb : datesX x = r) => HDt.out x r hx hb w3 hb3)
    rw [hbn] at hN3 hb3 HBox HBad HGood HDt ⊢
    have hle : bn ≤ bn := Nat.le_refl _
    clear hbn HCl HDt hg
    have c1 := HCl3.out 1 (by simp)
    change w3.cell? _ = some (.string (S b)) at c1
    obtain ⟨db, hdb⟩ : ∃ d, datesX b = d := ⟨_, rfl⟩
    have cD := Lib.hid (HDt3.out b db (by simp) hdb)
    have hO1 : nameL [a, b] = (if db = true then some (a, [], b) else some (a, b, [])) := by rw [← hdb]; rfl
    have HB3 := Lib.hid hb3
    clear HDt3 hdb HBad hb3
    go_upto_region 4 with fail
    go_wp2_with fail
    refine cD.out.mono ?_
    rintro e w4 ⟨rfl, hw4⟩
    have hlt3 : bn < w3.heap.size := (Array.getElem?_eq_some_iff.1 hN3).1
    have hN4 := (hw4.block bn hlt3).trans hN3
    have hb4 := HB3.out.trans (hw4.mono (Nat.le_of_lt hlt3))
    have c1 := (hw4.cell (p := ⟨g, o + 1, none⟩) (by show g < _; omega)).trans c1
    clear cD hw4 hN3 HB3
    cases db with
    | true =>
      have hO2 : nameL [a, b] = some (a, [], b) := hO1
      obtain ⟨⟨x0, x1, x2⟩, v0, v1, v2⟩ := ncells hN4
      have hB5 := hb4.setCell (p := ⟨bn, 2, none⟩) hle (.string (S b))
      have hN5 := nm_put2 hN4 (.string (S b))
      go_upto_region 6 with fail
      obtain ⟨w5, hw5⟩ : ∃ W, w4.setCell ⟨bn, 2, none⟩ (.string (S b)) = W := ⟨_, rfl⟩
      rw [hw5] at hB5 hN5 ⊢
      clear hw5 hN4 x0 x1 x2 v0 v1 v2
      have hgood := Lib.hid (HGood.out (a, [], b) hO2 w5 hB5)
      obtain ⟨⟨x0, x1, x2⟩, v0, v1, v2⟩ := ncells hN5
      obtain ⟨⟨y0, y1, y2⟩, z0, z1, z2⟩ := ncells (HBox.out w5 hB5)
      clear HGood HBox
      go_wp2_with fail
      (try simp only [Exit.inBlock, Exit.then])
      refine bodyPost_ret (results_nm rfl _ _ w.heap.size _ _ _ _ rfl hgood.out.2 Tryz.underlying99 rfl (by kernel_rfl)) rfl ?_
      exact hgood.out.1
    | false =>
      have hO2 : nameL [a, b] = some (a, b, []) := hO1
      obtain ⟨⟨x0, x1, x2⟩, v0, v1, v2⟩ := ncells hN4
      have hB5 := hb4.setCell (p := ⟨bn, 1, none⟩) hle (.string (S b))
      have hN5 := nm_put1 hN4 (.string (S b))
      go_upto_region 9 with fail
      obtain ⟨w5, hw5⟩ : ∃ W, w4.setCell ⟨bn, 1, none⟩ (.string (S b)) = W := ⟨_, rfl⟩
      rw [hw5] at hB5 hN5 ⊢
      clear hw5 hN4 x0 x1 x2 v0 v1 v2
      have hgood := Lib.hid (HGood.out (a, b, []) hO2 w5 hB5)
      obtain ⟨⟨x0, x1, x2⟩, v0, v1, v2⟩ := ncells hN5
      obtain ⟨⟨y0, y1, y2⟩, z0, z1, z2⟩ := ncells (HBox.out w5 hB5)
      clear HGood HBox
      go_wp2_with fail
      (try simp only [Exit.inBlock, Exit.then])
      refine bodyPost_ret (results_nm rfl _ _ w.heap.size _ _ _ _ rfl hgood.out.2 Tryz.underlying99 rfl (by kernel_rfl)) rfl ?_
      exact hgood.out.1
  | [a, b, c], h1, h3, HBad, HGood, HCl, HDt, hmx =>
    have c0 := HCl.out W0 (Below.refl _ _) 0 (by simp)
    change W0.cell? _ = some (.string (S a)) at c0
    have c1 := HCl.out W0 (Below.refl _ _) 1 (by simp)
    change W0.cell? _ = some (.string (S b)) at c1
    have c2 := HCl.out W0 (Below.refl _ _) 2 (by simp)
    change W0.cell? _ = some (.string (S c)) at c2
    rw [Nat.add_zero] at c0
    have hm1 : 3 ≤ cap := hmx.1
    change Calls _ _ #[.slice (some ⟨g, o, none⟩) 3 cap] _ _
    have hb3 := (Below.refl W0.heap.size W0).alloc (Nat.le_refl _) (.cells #[.string (S a), .string ⟨#[]⟩, .string ⟨#[]⟩] 99)
    have hN3 : (W0.alloc (.cells #[.string (S a), .string ⟨#[]⟩, .string ⟨#[]⟩] 99)).heap[W0.heap.size]? = some (.cells #[.string (S a), .string ⟨#[]⟩, .string ⟨#[]⟩] 99 (0, 0)) := heap_alloc_new W0 _
    go_enter Tryz.func128, Tryz.ntmps128
    go_upto_region 1 with fail
    rw [HW0.out]
    go_upto_region 2 with fail
    obtain ⟨w3, hw3⟩ : ∃ W, W0.alloc (.cells #[.string (S a), .string ⟨#[]⟩, .string ⟨#[]⟩] 99) = W := ⟨_, rfl⟩
    rw [hw3] at hb3 hN3 ⊢
    clear hw3 c0 c1 c2
    obtain ⟨bn, hbn⟩ : ∃ b, W0.heap.size = b := ⟨_, rfl⟩
    have hgb : g < bn := by rw [← hbn]; exact hg
    have HCl3 := Lib.hid (fun j hj => HCl.out w3 hb3 j hj)
    have HDt3 := Lib.hid (fun x r (hx : x ∈ [a, b, c]) (hb : datesX x = r) => HDt.out x r hx hb w3 hb3)
    rw [hbn] at hN3 hb3 HBox HBad HGood HDt ⊢
    have hle : bn ≤ bn := Nat.le_refl _
    clear hbn HCl HDt hg
    have c1 := HCl3.out 1 (by simp)
    change w3.cell? _ = some (.string (S b)) at c1
    have c2 := HCl3.out 2 (by simp)
    change w3.cell? _ = some (.string (S c)) at c2
    obtain ⟨db, hdb⟩ : ∃ d, datesX c = d := ⟨_, rfl⟩
    have cD := Lib.hid (HDt3.out c db (by simp) hdb)
    have hO1 : nameL [a, b, c] = (if db = true then some (a, b, c) else none) := by rw [← hdb]; rfl
    have HB3 := Lib.hid hb3
    clear HDt3 hdb hb3
    go_upto_region 10 with fail
    go_wp2_with fail
    refine cD.out.mono ?_
    rintro e w4 ⟨rfl, hw4⟩
    have hlt3 : bn < w3.heap.size := (Array.getElem?_eq_some_iff.1 hN3).1
    have hN4 := (hw4.block bn hlt3).trans hN3
    have hb4 := HB3.out.trans (hw4.mono (Nat.le_of_lt hlt3))
    have c1 := (hw4.cell (p := ⟨g, o + 1, none⟩) (by show g < _; omega)).trans c1
    have c2 := (hw4.cell (p := ⟨g, o + 2, none⟩) (by show g < _; omega)).trans c2
    clear cD hw4 hN3 HB3
    cases db with
    | false =>
      have hO2 : nameL [a, b, c] = none := hO1
      have hbad := Lib.hid (HBad.out hO2 w4 hb4)
      obtain ⟨⟨y0, y1, y2⟩, z0, z1, z2⟩ := ncells (HBox.out w4 hb4)
      clear HGood HBox HBad
      go_wp2_with fail
      (try simp only [Exit.inBlock, Exit.then])
      refine bodyPost_ret (results_nm rfl _ _ w.heap.size _ _ _ _ rfl hbad.out.2 Tryz.underlying99 rfl (by kernel_rfl)) rfl ?_
      exact hbad.out.1
    | true =>
      have hO2 : nameL [a, b, c] = some (a, b, c) := hO1
      obtain ⟨⟨x0, x1, x2⟩, v0, v1, v2⟩ := ncells hN4
      have hB5 := ((hb4.setCell (p := ⟨bn, 1, none⟩) hle (.string (S b))).setCell (p := ⟨bn, 2, none⟩) hle (.string (S c))).drew
      have hN5 := nm_put2 (nm_put1 hN4 (.string (S b))) (.string (S c))
      have hne : ¬ g = bn := by omega
      have HB5 := Lib.hid hB5
      have HN5 := Lib.hid hN5
      clear HBad hb4
      go_upto_region 11 with fail
      go_cut [] from 43 to 50 (fun wx => wx.heap[bn]? = some (.cells #[.string (S a), .string (S b), .string (S c)] 99 (0, 0)) ∧ Below bn W0 wx)
      case first =>
        go_region
        go_wp2_with fail
        go_meet
        exact ⟨HN5.out, HB5.out⟩
      case rest =>
        obtain ⟨hN6, hB6⟩ := hcut
        have hgood := Lib.hid (HGood.out (a, b, c) hO2 wc hB6)
        clear x0 x1 x2 v0 v1 v2 hN4
        obtain ⟨⟨x0, x1, x2⟩, v0, v1, v2⟩ := ncells hN6
        obtain ⟨⟨y0, y1, y2⟩, z0, z1, z2⟩ := ncells (HBox.out wc hB6)
        clear HGood HBox
        go_wp2_with fail
        (try simp only [Exit.inBlock, Exit.then])
        refine bodyPost_ret (results_nm rfl _ _ w.heap.size _ _ _ _ rfl hgood.out.2 Tryz.underlying99 rfl (by kernel_rfl)) rfl ?_
        exact hgood.out.1
  | _ :: _ :: _ :: _ :: _, h1, h3, HBad, HGood, HCl, HDt, hmx => simp at h3
end

section
open Go.RowKit Go.PlainAid
theorem nameX_bad (l : List UInt8) (h : (splG cb l).all okP = false) : nameX l = (nm0, 3) := by
  refine nameX_no l ?_
  rw [nameO_prog, if_neg (by rw [h]; decide)]
theorem nameX_ok (l : List UInt8) (h : (splG cb l).all okP = true) : nameX l = nameR (splG cb l) := by
  unfold nameX nameR
  rw [nameO_prog, if_pos h]
  cases nameL (splG cb l) <;> rfl
theorem okP_true (x : List UInt8) : okP x = true → x ≠ [] := by
  intro h e
  subst e
  unfold okP at h
  rw [decide_eq_true rfl] at h
  cases h
set_option maxHeartbeats 16000000 in
set_option maxRecDepth 100000 in
theorem name_any (l : List UInt8) (hl : l.length ≤ 100000) (nm : Nm) (er : Int) (hr : nameX l = (nm, er)) (w : World) (_hE : Env w) :
    Calls Tryz.prog 92 #[.string (S l)] w fun e w' => e = .returned (.tuple #[NV nm, .int .i64 er]) ∧ Below w.heap.size w w' := by
  obtain ⟨Q, hQ⟩ : ∃ Q, (fun (e : Ending) (w' : World) => e = .returned (.tuple #[NV nm, .int .i64 er]) ∧ Below w.heap.size w w') = Q := ⟨_, rfl⟩
  rw [hQ]
  have HNo : RowKit.Hid (nameX l = (nm0, 3) → ∀ W, Below w.heap.size w W → Q (.returned (.tuple #[.agg #[.string ⟨#[]⟩, .string ⟨#[]⟩, .string ⟨#[]⟩], .int .i64 3])) W) := by
    intro h W hW
    rw [h] at hr
    obtain ⟨rfl, rfl⟩ := Prod.mk.inj hr
    rw [← hQ]
    exact ⟨rfl, hW⟩
  have HYes : RowKit.Hid (∀ (m : Nm) (z : Int), nameX l = (m, z) → ∀ W, Below w.heap.size w W → Q (.returned (.tuple #[NV m, .int .i64 z])) W) := by
    intro m z h W hW
    rw [h] at hr
    obtain ⟨rfl, rfl⟩ := Prod.mk.inj hr
    rw [← hQ]
    exact ⟨rfl, hW⟩
  clear hr hQ
  obtain ⟨W0, hW0⟩ : ∃ W, w.alloc (.cells #[.string ⟨#[]⟩, .string ⟨#[]⟩, .string ⟨#[]⟩] 99) = W := ⟨_, rfl⟩
  have b0 : Below w.heap.size w W0 := by rw [← hW0]; exact (Below.refl _ _).alloc (Nat.le_refl _) _
  have hR0 : W0.heap[w.heap.size]? = some (.cells #[.string ⟨#[]⟩, .string ⟨#[]⟩, .string ⟨#[]⟩] 99 (0, 0)) := by rw [← hW0]; exact heap_alloc_new w _
  have hlt0 : w.heap.size < W0.heap.size := by rw [← hW0]; simp
  have HBox := Lib.hid (fun (W : World) (h : Below W0.heap.size W0 W) => (h.block w.heap.size hlt0).trans hR0)
  have HW0 := Lib.hid hW0
  have HBad : RowKit.Hid (nameX l = (nm0, 3) → ∀ W, Below W0.heap.size W0 W → Q (.returned (.tuple #[.agg #[.string ⟨#[]⟩, .string ⟨#[]⟩, .string ⟨#[]⟩], .int .i64 3])) (setN3 W w.heap.size (.string ⟨#[]⟩) (.string ⟨#[]⟩) (.string ⟨#[]⟩)) ∧ (setN3 W w.heap.size (.string ⟨#[]⟩) (.string ⟨#[]⟩) (.string ⟨#[]⟩)).heap[w.heap.size]? = some (.cells #[.string ⟨#[]⟩, .string ⟨#[]⟩, .string ⟨#[]⟩] 99 (0, 0))) := fun h W hW =>
    ⟨HNo.out h _ (nm_below (b0.trans (hW.mono b0.size))), nm_set3 ((hW.block w.heap.size hlt0).trans hR0)⟩
  have HGood : RowKit.Hid (∀ (m : Nm) (z : Int), nameX l = (m, z) → ∀ W, Below W0.heap.size W0 W → Q (.returned (.tuple #[NV m, .int .i64 z])) (setN3 W w.heap.size (.string (S m.1)) (.string (S m.2.1)) (.string (S m.2.2))) ∧ (setN3 W w.heap.size (.string (S m.1)) (.string (S m.2.1)) (.string (S m.2.2))).heap[w.heap.size]? = some (.cells #[.string (S m.1), .string (S m.2.1), .string (S m.2.2)] 99 (0, 0))) := fun m z h W hW =>
    ⟨HYes.out m z h _ (nm_below (b0.trans (hW.mono b0.size))), nm_set3 ((hW.block w.heap.size hlt0).trans hR0)⟩
  unfold setN3 at HBad HGood
  have HE := Lib.hid (fun (W : World) (hb : Below W0.heap.size W0 W) => (_hE.after b0).after hb)
  have cP := Lib.hid (cSplitN l cb 4 (by decide) (by decide) (by decide) (by omega) W0 (_hE.after b0))
  have ecb : S cb = ⟨#[44, 32]⟩ := rfl
  rw [ecb] at cP
  have HLong := Lib.hid (fun h => nameX_no l (nameO_long l h))
  have HBadA := Lib.hid (nameX_bad l)
  have HOkA := Lib.hid (nameX_ok l)
  have HPl := Lib.hid (fun x hx => Nat.le_trans (spl_mem cb l.length l (Nat.le_refl _) x hx) hl)
  have hPn := spl_ne cb l.length l (Nat.le_refl _)
  obtain ⟨P0, hP⟩ : ∃ P, splG cb l = P := ⟨_, rfl⟩
  rw [hP] at cP HLong HBadA HOkA HPl hPn
  have HPn := Lib.hid hPn
  clear hW0 hR0 hlt0 b0 HNo HYes ecb hP hPn hl _hE
  generalize S l = st at *
  go_enter Tryz.func92, Tryz.ntmps92
  go_upto_region 1 with fail
  rw [HW0.out]
  clear HW0
  go_wp2_with fail
  refine cP.out.mono ?_
  rintro e w1 ⟨P, gp, cpp, rfl, hr1, hb1, hs1, hs2⟩
  have B1 := Lib.hid hb1
  obtain ⟨n, hn⟩ : ∃ n, P.length = n := ⟨_, rfl⟩
  have hcase : (3 < n ∧ 3 < P0.length) ∨ (n ≤ 3 ∧ P = P0) := by
    by_cases h : P0.length ≤ 4
    · have e := hs1 h
      rw [← e, hn]
      by_cases h3 : 3 < n
      · exact .inl ⟨h3, h3⟩
      · exact .inr ⟨by omega, rfl⟩
    · have e := hs2 (by omega)
      exact .inl ⟨by omega, by omega⟩
  have HP := Lib.hid hr1
  have HN := Lib.hid hn
  rw [hn] at HP ⊢
  clear hr1 hb1 hs1 hs2 cP hn
  rcases hcase with ⟨h3, h4⟩ | ⟨h3, rfl⟩
  · have hbad := Lib.hid (HBad.out (HLong.out h4) w1 B1.out)
    obtain ⟨⟨y0, y1, y2⟩, z0, z1, z2⟩ := ncells (HBox.out w1 B1.out)
    have t3 : decide ((3 : Int) < (n : Int)) = true := decide_eq_true (by omega)
    have t3n : decide (3 < n) = true := decide_eq_true h3
    clear HBad HGood HLong HBox h3 h4 HE
    go_wp2
    (try simp only [Exit.inBlock, Exit.then])
    refine bodyPost_ret (results_nm rfl _ _ w.heap.size _ _ _ _ rfl hbad.out.2 Tryz.underlying99 rfl (by kernel_rfl)) rfl ?_
    exact hbad.out.1
  have t3 : decide ((3 : Int) < (n : Int)) = false := decide_eq_false (by omega)
  have t3n : decide (3 < n) = false := decide_eq_false (by omega)
  clear HLong
  go_wp2
  go_loopw [15] (fun i wr => ∃ k : Nat, i = .int .i64 (k : Int) ∧ k ≤ n ∧ RowKit.Hid (∀ j, j < k → okP (P.getD j []) = true) ∧ RowKit.Hid (Below w1.heap.size w1 wr)) (fun i _ => n - (intOf i).toNat)
  case atStart => exact ⟨0, rfl, Nat.zero_le _, (fun j hj => by omega), Below.refl _ _⟩
  case round =>
    obtain ⟨k, rfl, hk, HJ, HB⟩ := hrel
    by_cases hkn : k < n
    · have i1 : (0 : Int) ≤ (k : Int) := by omega
      have i2 : (k : Int) < (n : Int) := by omega
      have hmem := mem_getD12 P k (by rw [HN.out]; exact hkn)
      have hxl := HPl.out _ hmem
      have BW := Lib.hid (B1.out.trans (HB.out.mono B1.out.size))
      obtain ⟨g2, o2, cap2, he, hg, c0⟩ := (HP.out.after HB.out).at12 k (by rw [HN.out]; exact hkn)
      obtain ⟨ha, -, hcp⟩ := Value.slice.inj he
      obtain ⟨rfl, rfl, -⟩ := Addr.mk.inj (Option.some.inj ha)
      subst hcp
      rw [Nat.zero_add] at c0
      clear he ha
      have HBadP : RowKit.Hid (okP (P.getD k []) = false → P.all okP = false) := by
        intro h
        rw [Bool.eq_false_iff]
        intro g
        rw [List.all_eq_true] at g
        rw [g _ hmem] at h
        cases h
      have HJ2 : RowKit.Hid (okP (P.getD k []) = true → ∀ j, j < k + 1 → okP (P.getD j []) = true) := by
        intro h0 j hj
        rcases Nat.lt_or_ge j k with h | h
        · exact HJ.out j h
        · rw [show j = k by omega]; exact h0
      have hsf := S_facts (P.getD k [])
      obtain ⟨x, hx⟩ : ∃ x, P.getD k [] = x := ⟨_, rfl⟩
      rw [hx] at c0 HBadP HJ2 hsf hxl
      obtain ⟨cb1, hcb⟩ : ∃ b, cleanB x = b := ⟨_, rfl⟩
      obtain ⟨pb1, hpb⟩ : ∃ b, (!decide ((splG [44] x).length ≤ 1)) = b := ⟨_, rfl⟩
      have hok : okP x = !(decide (x = []) || (!cb1 || pb1)) := by rw [← hcb, ← hpb]; rfl
      have cC := Lib.hid (clean12_any x (by omega) cb1 hcb wr (HE.out wr BW.out))
      have cS := Lib.hid (fun W hW => cContains x [44] (by decide) (by omega) W hW)
      have e44 : S [44] = ⟨#[44]⟩ := rfl
      rw [e44, hpb] at cS
      have HOk := Lib.hid hok
      clear hmem hxl e44 hx hcb hpb hok
      by_cases hx0 : x = []
      · subst hx0
        have e0 : S [] = (⟨#[]⟩ : ByteArray) := rfl
        rw [e0] at c0
        have hbad := Lib.hid (HBad.out (HBadA.out (HBadP.out rfl)) wr BW.out)
        obtain ⟨⟨y0, y1, y2⟩, z0, z1, z2⟩ := ncells (HBox.out wr BW.out)
        clear HBad HGood HBox HBadA HBadP HOkA HJ2 HJ HOk cC cS hsf HE
        go_wp2
        (try simp only [Exit.inBlock, Exit.then])
        refine bodyPost_ret (results_nm rfl _ _ w.heap.size _ _ _ _ rfl hbad.out.2 Tryz.underlying99 rfl (by kernel_rfl)) rfl ?_
        exact hbad.out.1
      · obtain ⟨s1, s2⟩ := hsf hx0
        have hok := HOk.out
        rw [decide_eq_false hx0, Bool.false_or] at hok
        have HOk2 := Lib.hid hok
        clear hok HOk hsf hx0
        generalize S x = sx at *
        go_wp2_with fail
        refine cC.out.mono ?_
        rintro e w2 ⟨rfl, hb2⟩
        have B2 := Lib.hid (BW.out.trans (hb2.mono BW.out.size))
        have HB2 := Lib.hid (HB.out.trans (hb2.mono HB.out.size))
        clear hb2 cC c0
        cases cb1 with
        | false =>
          have hbad := Lib.hid (HBad.out (HBadA.out (HBadP.out HOk2.out)) w2 B2.out)
          obtain ⟨⟨y0, y1, y2⟩, z0, z1, z2⟩ := ncells (HBox.out w2 B2.out)
          clear HBad HGood HBox HBadA HBadP HOkA HJ2 HJ HOk2 cS HE
          go_wp2
          (try simp only [Exit.inBlock, Exit.then])
          refine bodyPost_ret (results_nm rfl _ _ w.heap.size _ _ _ _ rfl hbad.out.2 Tryz.underlying99 rfl (by kernel_rfl)) rfl ?_
          exact hbad.out.1
        | true =>
          have cS2 := Lib.hid (cS.out w2 (HE.out w2 B2.out))
          clear cS
          go_wp2_with fail
          refine cS2.out.mono ?_
          rintro e w3 ⟨rfl, hw3⟩
          rw [hw3]
          clear hw3 cS2 w3
          cases pb1 with
          | true =>
            have hbad := Lib.hid (HBad.out (HBadA.out (HBadP.out HOk2.out)) w2 B2.out)
            obtain ⟨⟨y0, y1, y2⟩, z0, z1, z2⟩ := ncells (HBox.out w2 B2.out)
            clear HBad HGood HBox HBadA HBadP HOkA HJ2 HJ HOk2 HE
            go_wp2
            (try simp only [Exit.inBlock, Exit.then])
            refine bodyPost_ret (results_nm rfl _ _ w.heap.size _ _ _ _ rfl hbad.out.2 Tryz.underlying99 rfl (by kernel_rfl)) rfl ?_
            exact hbad.out.1
          | false =>
            have HJ3 := Lib.hid (HJ2.out HOk2.out)
            clear HBadP HJ2 HJ HOk2
            go_wp2
            go_roundw
            case rel => exact ⟨k + 1, by go_num, by omega, HJ3.out, HB2.out⟩
            case measure => simp [intOf]; omega
    · obtain rfl : k = n := by omega
      have hall : P.all okP = true := by
        rw [List.all_eq_true]
        intro x hx
        obtain ⟨j, hj, rfl⟩ := List.mem_iff_getElem.1 hx
        have := HJ.out j (by rw [← HN.out]; exact hj)
        rw [List.getD_eq_getElem?_getD, List.getElem?_eq_getElem hj] at this
        exact this
      have hO := HOkA.out hall
      have BW := Lib.hid (B1.out.trans (HB.out.mono B1.out.size))
      obtain ⟨m, z, hmz⟩ : ∃ m z, nameR P = (m, z) := ⟨_, _, rfl⟩
      have hbl := HP.out.after HB.out
      have cN := Lib.hid (named_any P _ wr (HE.out wr BW.out) hbl HPn.out (by rw [HN.out]; omega) (fun x hx => Nat.le_trans (HPl.out x hx) (by decide)) m z hmz)
      rw [hmz] at hO
      have HO := Lib.hid hO
      clear hall hO hmz hbl HJ HBadA HOkA HPl HBad
      go_wp2_with fail
      refine cN.out.mono ?_
      rintro e w2 ⟨rfl, hb2⟩
      have B2 := Lib.hid (BW.out.trans (hb2.mono BW.out.size))
      have hgood := Lib.hid (HGood.out m z HO.out w2 B2.out)
      obtain ⟨⟨y0, y1, y2⟩, z0, z1, z2⟩ := ncells (HBox.out w2 B2.out)
      clear hb2 cN HGood HBox HE
      unfold NV
      go_wp2_with fail
      (try simp only [Exit.inBlock, Exit.then])
      refine bodyPost_ret (results_nm rfl _ _ w.heap.size _ _ _ _ rfl hgood.out.2 Tryz.underlying99 rfl (by kernel_rfl)) rfl ?_
      exact hgood.out.1
theorem pName12_any (l : List UInt8) (hl : l.length ≤ 10000) (nm : Nm) (er : Int) (hr : nameX l = (nm, er)) (w : World) (_hE : Env w) :
    Calls Tryz.prog 92 #[.string (S l)] w fun e w' => e = .returned (.tuple #[NV nm, .int .i64 er]) ∧ Below w.heap.size w w' :=
  name_any l (by omega) nm er hr w _hE
end

section
open Go.RowKit Go.PlainAid
theorem name_len (h : List UInt8) : (nameX h).1.1.length ≤ h.length ∧ (nameX h).1.2.1.length ≤ h.length ∧ (nameX h).1.2.2.length ≤ h.length := by
  obtain ⟨n, er, hn⟩ : ∃ n er, nameX h = (n, er) := ⟨_, _, rfl⟩
  rw [hn]
  by_cases h0 : er = 0
  · subst h0
    have ht := name_text h n (name_some h n hn)
    have hl := congrArg List.length ht
    unfold textN at hl
    rw [List.length_append, List.length_append] at hl
    refine ⟨by show n.1.length ≤ _; omega, ?_, ?_⟩
    · by_cases hy : n.2.1 = []
      · rw [hy]; exact Nat.zero_le _
      · rw [if_neg hy, List.length_append] at hl
        show n.2.1.length ≤ _
        omega
    · by_cases hz : n.2.2 = []
      · rw [hz]; exact Nat.zero_le _
      · rw [if_neg hz, List.length_append] at hl
        show n.2.2.length ≤ _
        omega
  · rw [name_no h n er hn h0]
    exact ⟨Nat.zero_le _, Nat.zero_le _, Nat.zero_le _⟩
theorem hcodes_any (kd : Int) (w : World) :
    Calls Tryz.prog 31 #[.int .i64 kd] w fun e w' => e = .returned (.string (S (codesU kd))) ∧ w' = w := by
  unfold codesU
  by_cases h1 : kd = 1
  · subst h1
    go_enter Tryz.func31, Tryz.ntmps31
    go_wp2
    go_ret
    exact ⟨rfl, rfl⟩
  · rw [if_neg h1]
    by_cases h3 : kd = 3
    · subst h3
      go_enter Tryz.func31, Tryz.ntmps31
      go_wp2
      go_ret
      exact ⟨rfl, rfl⟩
    · rw [if_neg h3]
      go_enter Tryz.func31, Tryz.ntmps31
      go_wp2
      go_ret
      exact ⟨rfl, rfl⟩

set_option maxHeartbeats 8000000 in
set_option maxRecDepth 100000 in
theorem personSubs_any (h : List UInt8) (hl : h.length ≤ 10000) (w : World) (hE : Env w) :
    Calls Tryz.prog 66 #[.string (S h)] w fun e w' => ∃ v, e = .returned v ∧ SB w.heap.size v (subsU 1 h) w' ∧ Below w.heap.size w w' := by
  obtain ⟨Q, hQ⟩ : ∃ Q, (fun (e : Ending) (w' : World) => ∃ v, e = .returned v ∧ SB w.heap.size v (subsU 1 h) w' ∧ Below w.heap.size w w') = Q := ⟨_, rfl⟩
  rw [hQ]
  obtain ⟨⟨x, y, z⟩, er, hn⟩ : ∃ nm er, nameX h = (nm, er) := ⟨_, _, rfl⟩
  have cN := Lib.hid (name_any h (by omega) (x, y, z) er hn w hE)
  have HOne : RowKit.Hid (er ≠ 0 ∨ z = [] → ∀ W bw, bw = W.heap.size → Below w.heap.size w W → Q (.returned (.slice (some ⟨bw, 0, none⟩) 1 1)) (W.alloc (.cells #[.int .u8 97, .string (S h)] 48))) := by
    rintro hz W bw rfl hW
    rw [← hQ]
    refine ⟨_, rfl, ?_, hW.alloc hW.size _⟩
    have e : subsU 1 h = [(97, h)] := by
      unfold subsU
      rw [hn, if_neg (fun g => hz.elim (fun k => k g.2.1) (fun k => g.2.2 k)), if_neg (by decide)]
    rw [e]
    exact (SB.one W 97 h).base hW.size
  have HTwo : RowKit.Hid (er = 0 → z ≠ [] → ∀ (s : ByteArray) W bw, bw = W.heap.size → s = S (x ++ if y = [] then [] else cb ++ y) → Below w.heap.size w W → Q (.returned (.slice (some ⟨bw, 0, none⟩) 2 2)) (W.alloc (.cells #[.int .u8 97, .string s, .int .u8 100, .string (S z)] 48))) := by
    rintro h0 hz s W bw rfl hs hW
    rw [← hQ]
    refine ⟨_, rfl, ?_, hW.alloc hW.size _⟩
    have e : subsU 1 h = [(97, x ++ if y = [] then [] else cb ++ y), (100, z)] := by
      unfold subsU
      rw [hn, if_pos ⟨rfl, h0, hz⟩]
    rw [e, hs]
    exact (SB.two W 97 100 _ z).base hW.size
  have hl3 := name_len h
  rw [hn] at hl3
  clear hQ hn hE
  have hs1 := S_size x
  have hs2 := S_size y
  unfold NV at cN
  dsimp only at cN hl3
  go_enter Tryz.func66, Tryz.ntmps66
  go_wp2_with fail
  refine cN.out.mono ?_
  rintro e w1 ⟨rfl, hb1⟩
  have b2 := hb1.alloc hb1.size (.cells #[.string (S x), .string (S y), .string (S z)] 99)
  have HB := Lib.hid b2
  clear hb1 b2 cN
  by_cases h0 : er = 0
  · subst h0
    by_cases hz : z = []
    · have ho := Lib.hid (HOne.out (.inr hz) _ (w1.heap.size + 1) (by simp) HB.out)
      subst hz
      have ee : (S []).toList.isEmpty = true ∧ (S []).toList = [] := by rw [ByteArray.toList_eq]; exact ⟨rfl, rfl⟩
      obtain ⟨e1, e2⟩ := ee
      clear HOne HTwo
      generalize S [] = sz at *
      go_wp2
      exact ho.out
    · obtain ⟨z1, z2⟩ := S_facts z hz
      have HT := Lib.hid (HTwo.out rfl hz)
      clear HOne HTwo hz
      by_cases hy : y = []
      · subst hy
        have ho := Lib.hid (HT.out (S x) _ (w1.heap.size + 1) (by simp) (by rw [if_pos rfl, List.append_nil]) HB.out)
        have ee : (S []).toList.isEmpty = true ∧ (S []).toList = [] := by rw [ByteArray.toList_eq]; exact ⟨rfl, rfl⟩
        obtain ⟨e1, e2⟩ := ee
        clear HT
        generalize S [] = sy at *
        generalize S x = sx at *
        generalize S z = sz at *
        go_wp2
        exact ho.out
      · obtain ⟨y1, y2⟩ := S_facts y hy
        have ho := Lib.hid (HT.out (S x ++ (⟨#[44, 32]⟩ ++ S y)) _ (w1.heap.size + 1) (by simp) (by rw [if_neg hy, ← S_append, ← S_append]; rfl) HB.out)
        clear HT hy
        generalize S y = sy at *
        generalize S x = sx at *
        generalize S z = sz at *
        go_wp2
        exact ho.out
  · have ho := Lib.hid (HOne.out (.inl h0) _ (w1.heap.size + 1) (by simp) HB.out)
    have t0 : (er != 0) = true := by simpa using h0
    clear HOne HTwo h0
    generalize S y = sy at *
    generalize S x = sx at *
    generalize S z = sz at *
    go_wp2
    exact ho.out
end

section
open Go.RowKit Go.PlainAid
theorem parts_num (l : List UInt8) : (partsX l).length ≤ l.length + 1 := by
  have h1 := nonE_le ((splG dd l).map cleanX)
  have h2 := spl_len dd l.length l (Nat.le_refl _)
  unfold partsX
  rw [List.length_map] at h1
  omega
/-- The subfields of the parts of a subject, the first one with the code c. -/
def codedL (c : UInt8) (P : List (List UInt8)) : List Sub := P.zipIdx.map fun p => ((if p.2 = 0 then c else 120), p.1)
def codeK (k : Nat) : UInt8 := if k = 0 then 97 else 120
theorem coded_take (P : List (List UInt8)) (k : Nat) (hk : k < P.length) : codedL 97 (P.take (k + 1)) = codedL 97 (P.take k) ++ [(codeK k, P.getD k [])] := by
  unfold codedL
  rw [List.take_succ_eq_append_getElem hk, List.zipIdx_append, List.map_append]
  congr 1
  rw [List.length_take, Nat.min_eq_left (by omega), Nat.zero_add]
  simp [codeK, List.getD_eq_getElem?_getD, List.getElem?_eq_getElem hk]
theorem coded_len (P : List (List UInt8)) : (codedL 97 P).length = P.length := by simp [codedL]
theorem subs3 (h : List UInt8) : subsU 3 h = codedL 97 (partsX h) := by
  unfold subsU codedL
  rw [if_neg (by rintro ⟨h, _⟩; cases h), if_pos rfl]

set_option maxHeartbeats 8000000 in
set_option maxRecDepth 100000 in
theorem subjectSubs_any (h : List UInt8) (hv : validT h = true) (hl : h.length ≤ 10000) (w : World) (hE : Env w) :
    Calls Tryz.prog 67 #[.string (S h)] w fun e w' => ∃ v, e = .returned v ∧ SB w.heap.size v (subsU 3 h) w' ∧ Below w.heap.size w w' := by
  obtain ⟨Q, hQ⟩ : ∃ Q, (fun (e : Ending) (w' : World) => ∃ v, e = .returned v ∧ SB w.heap.size v (subsU 3 h) w' ∧ Below w.heap.size w w') = Q := ⟨_, rfl⟩
  rw [hQ]
  have cP := Lib.hid (parts_any h hv (by omega) w hE)
  obtain ⟨P, hP⟩ : ∃ P, partsX h = P := ⟨_, rfl⟩
  have hpl : P.length ≤ h.length + 1 := by rw [← hP]; exact parts_num h
  have HQ : RowKit.Hid (∀ v W, SB w.heap.size v (codedL 97 P) W → Below w.heap.size w W → Q (.returned v) W) := by
    rw [← hQ]
    intro v W h1 h2
    exact ⟨v, rfl, by rw [subs3, hP]; exact h1, h2⟩
  rw [hP] at cP
  clear hQ hE
  go_enter Tryz.func67, Tryz.ntmps67
  go_wp2_with fail
  refine cP.out.mono ?_
  rintro e w1 ⟨v, rfl, hbl, hb1⟩
  have HV := Lib.hid hbl
  have HB1 := Lib.hid hb1
  obtain ⟨a, cap, rfl, hcap, hmax, -, -⟩ := hbl
  unfold maxLen at hmax
  obtain ⟨n, hn⟩ : ∃ n, P.length = n := ⟨_, rfl⟩
  have HN := Lib.hid hn
  rw [hn] at hcap hpl HV ⊢
  clear hn hb1 cP hP
  have c0 : codedL 97 (P.take 0) = [] := rfl
  go_wp2
  go_loopw [3, 4, 10] (fun s3 s4 s10 wr => ∃ k : Nat, s10 = .int .i64 (k : Int) ∧ k ≤ n ∧ s4 = .int .u8 ((codeK k).toNat : Int) ∧ RowKit.Hid (SB w1.heap.size s3 (codedL 97 (P.take k)) wr) ∧ RowKit.Hid (Below w1.heap.size w1 wr)) (fun _ _ s10 _ => n - (intOf s10).toNat)
  case atStart => exact ⟨0, rfl, Nat.zero_le _, rfl, SB.nil _ _, Below.refl _ _⟩
  case round =>
    obtain ⟨k, rfl, hk, rfl, HS, HBr⟩ := hrel
    by_cases hkn : k < n
    · have i1 : (0 : Int) ≤ (k : Int) := by omega
      have i2 : (k : Int) < (n : Int) := by omega
      obtain ⟨g, o, cap', he, hg, c1⟩ := (HV.out.after HBr.out).at12 k (by rw [HN.out]; exact hkn)
      obtain ⟨rfl, -, hcp⟩ := Value.slice.inj he
      subst hcp
      have hct := coded_take P k (by rw [HN.out]; exact hkn)
      have hlen : (codedL 97 (P.take k)).length ≤ 100000 := by rw [coded_len, List.length_take]; omega
      have HCT := Lib.hid hct
      have HLen := Lib.hid hlen
      have HBw := Lib.hid (HB1.out.trans (HBr.out.mono HB1.out.size))
      clear he hg hct hlen
      obtain ⟨M, hM⟩ : ∃ M, codedL 97 (P.take k) = M := ⟨_, rfl⟩
      rw [hM] at HS HCT HLen
      obtain ⟨y, hy⟩ : ∃ y, P.getD k [] = y := ⟨_, rfl⟩
      rw [hy] at c1 HCT
      clear hM hy
      go_wp2_with (at_builtin; refine append_sb _ rfl _ _ rfl w1.heap.size u3 M (codeK k) y rfl HS.out rfl (by have := HLen.out; omega) HBr.out.size w1.heap.size w1 (Nat.le_refl _) HBr.out ?_; intro v' w' hs' hb' hB')
      have HS2 : RowKit.Hid (SB w1.heap.size v' (codedL 97 (P.take (k + 1))) w') := by rw [HCT.out]; exact hs'
      have HB2 := Lib.hid hb'
      clear hs' hb' hB' HS HBr HBw HCT c1
      go_wp2
      go_roundw
      case rel => exact ⟨k + 1, by go_num, by omega, rfl, HS2.out, HB2.out⟩
      case measure => simp [intOf]; omega
    · obtain rfl : k = n := by omega
      have hT : P.take k = P := by rw [← HN.out, List.take_length]
      rw [hT] at HS
      have HG := Lib.hid (HQ.out _ wr (HS.out.base HB1.out.size) (HB1.out.trans (HBr.out.mono HB1.out.size)))
      clear HS HBr HQ
      go_wp2
      exact HG.out
end

section
open Go.RowKit Go.PlainAid
set_option maxHeartbeats 8000000 in
set_option maxRecDepth 100000 in
theorem headingSubs_any (kd : Int) (h : List UInt8) (hv : validT h = true) (hl : h.length ≤ 10000) (w : World) (hE : Env w) :
    Calls Tryz.prog 32 #[.int .i64 kd, .string (S h)] w fun e w' => ∃ v, e = .returned v ∧ SB w.heap.size v (subsU kd h) w' ∧ Below w.heap.size w w' := by
  by_cases h1 : kd = 1
  · subst h1
    have c1 := Lib.hid (personSubs_any h hl w hE)
    go_enter Tryz.func32, Tryz.ntmps32
    go_wp2_with fail
    refine c1.out.mono ?_
    rintro e w1 ⟨v, rfl, hs, hb⟩
    obtain ⟨ao, cp, rfl⟩ := hs.form
    have HS := Lib.hid hs
    have HB := Lib.hid hb
    clear hs hb c1
    generalize (subsU 1 h).length = n at *
    go_wp2
    go_ret
    exact ⟨_, rfl, HS.out, HB.out⟩
  by_cases h3 : kd = 3
  · subst h3
    have c1 := Lib.hid (subjectSubs_any h hv hl w hE)
    clear h1
    go_enter Tryz.func32, Tryz.ntmps32
    go_wp2_with fail
    refine c1.out.mono ?_
    rintro e w1 ⟨v, rfl, hs, hb⟩
    obtain ⟨ao, cp, rfl⟩ := hs.form
    have HS := Lib.hid hs
    have HB := Lib.hid hb
    clear hs hb c1
    generalize (subsU 3 h).length = n at *
    go_wp2
    go_ret
    exact ⟨_, rfl, HS.out, HB.out⟩
  · have t1 : (kd == 1) = false := by simpa using h1
    have t3 : (kd == 3) = false := by simpa using h3
    have e : subsU kd h = [(97, h)] := by
      unfold subsU
      rw [if_neg (fun g => h1 g.1), if_neg h3]
    rw [e]
    have HS := Lib.hid (SB.one w 97 h)
    have HB := Lib.hid ((Below.refl w.heap.size w).alloc (Nat.le_refl _) (.cells #[.int .u8 ((97 : UInt8).toNat : Int), .string (S h)] 48))
    clear e
    go_enter Tryz.func32, Tryz.ntmps32
    go_wp2
    go_ret
    exact ⟨_, rfl, HS.out, HB.out⟩
end

end Go.Proofs.YthjdopnoophigaaGreatDoor
