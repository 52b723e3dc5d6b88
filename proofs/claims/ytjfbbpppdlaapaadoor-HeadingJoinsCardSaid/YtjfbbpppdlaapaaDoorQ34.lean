/- Merged: EnvTab, LA12. -/
import Derived.Test.YtjfbbpppdlaapaaDoorRows
import Derived.Test.YtjfbbpppdlaapaaDoorQ21
import Derived.Test.YtjfbbpppdlaapaaDoorQ32
import Derived.Test.YtjfbbpppdlaapaaDoorQ33
import Derived.Shelf.Vars
import Derived.Lib.LaidU8T
import Derived.Lib.LaidU8
import Derived.PinnedBridge
import Derived.LaidMore
import Derived.LaidLaws
import Derived.Test.YtjfbbpppdlaapaaDoorQ31
namespace Go.Proofs.YtjfbbpppdlaapaaDoor

section
open Go.RowKit Go.Lib
/-- What every row of this seat lists. -/
def laid3 : List (String × DataW Unit) := [("unicode/utf8.acceptRanges", Rows.laid_unicode_utf8_acceptRanges), ("library/text.accents", Rows.laid_library_text_accents), ("unicode/utf8.first", Rows.laid_unicode_utf8_first)]
/-- The listed table of folded forms is the chapter's. -/
theorem accents_eq : Rows.laid_library_text_accents (H := Unit) = .agg (accL.map fun x => .lit (.string (enc x))) := by kernel_rfl
theorem accents_type : (Tryd.prog.globals[0]?).map (·.type) = some 68 := by kernel_rfl

theorem acc_of {W : World} (h : laidMet Tryd.prog laid3 W) : Acc W := by
  have h2 := Lib.laidMet.reads h (.tail _ (.head _))
  rw [accents_eq] at h2
  have hcells : ∀ i, i < 64 → W.cell? ⟨0, i, none⟩ = some (.string (T (accL.getD i []))) := by
    intro i hi
    obtain ⟨g, t, cs, fuel, p, hg, hty, hvar, hd⟩ := h2
    obtain rfl : g = 0 := Option.some.inj (hg.symm.trans (show _ = some 0 by kernel_rfl))
    obtain rfl := Option.some.inj (accents_type.symm.trans hty)
    obtain ⟨fuel', d, q, hdi, he⟩ := array_elem Tryd.underlying68 hd i hi
    rw [cells_string] at he
    have hl : i < accL.length := hi
    rw [List.getElem?_map, List.getElem?_eq_getElem hl] at hdi
    simp only [Option.map_some, Option.some.injEq] at hdi
    obtain ⟨s, e1, e2, _⟩ := DataW.trod_string Tryd.underlying9 he
    rw [← hdi] at e2
    simp only [Prod.mk.injEq, DataW.lit.injEq, Lit.string.injEq] at e2
    have es : s = T accL[i] := eq_T e2.1.symm
    have e0 := congrArg (·[0]?) e1
    simp only [List.getElem?_take, List.getElem?_drop] at e0
    rw [World.var?_cell hg hvar i, ← Array.getElem?_toList]
    simp only [Nat.mul_one, Nat.add_zero] at e0
    rw [show accL.getD i [] = accL[i] by simp [List.getD, hl]]
    rw [← es]
    simpa using e0
  refine ⟨?_, hcells⟩
  have hc := hcells 0 (by decide)
  rcases Nat.lt_or_ge 0 W.heap.size with hh | hh
  · exact hh
  · simp [World.cell?, Array.getElem?_eq_none hh] at hc
theorem accept_eq : Rows.laid_unicode_utf8_acceptRanges (H := Unit) = acceptData := by kernel_rfl
theorem first_eq : Rows.laid_unicode_utf8_first = firstData := Pinned.utf8First_eq
theorem key_lt {W : World} {b o : Nat} {v : Value} (hv : W.cell? ⟨b, o, none⟩ = some v) : b < W.heap.size := by
  rcases Nat.lt_or_ge b W.heap.size with hh | hh
  · exact hh
  · simp [World.cell?, Array.getElem?_eq_none hh] at hv
theorem env_of {W : World} (h : laidMet Tryd.prog laid3 W) (hs : W.ShapedOpen Tryd.prog) : Env W := by
  have r4 := Lib.laidMet.reads h (.head _)
  have r7 := Lib.laidMet.reads h (.tail _ (.tail _ (.head _)))
  rw [accept_eq] at r4
  rw [first_eq] at r7
  have htab : Lib.Utf8Tabs 1 2 W :=
    utf8Tabs_of_readsT (U8Types.of196 Tryd.lays196) ⟨by kernel_rfl, by kernel_rfl, by kernel_rfl, by kernel_rfl, by kernel_rfl, by kernel_rfl, by kernel_rfl⟩ r7 r4
  exact ⟨⟨⟨key_lt (htab.1 0 (by decide)), key_lt (htab.2 0 (by decide)).1⟩, htab⟩, acc_of h,
    cell_of_shapedOpen_int (P := Tryd.prog) (g := 3) (t := 3) (zero := #[.int .i64 0]) hs (of_decide_eq_true (by kernel_rfl)) (by kernel_rfl) rfl (by kernel_rfl) (by kernel_rfl) Tryd.underlying3⟩
theorem env_ofH {W : World} (h : laidMetH Tryd.prog laid3 W) (hs : W.ShapedOpen Tryd.prog) : Env W := by
  rw [MakeChecks.laidMetH_plain _ _ _ (by kernel_rfl)] at h
  exact env_of h hs
end

section
open Go.RowKit Go.PlainAid
set_option maxHeartbeats 16000000 in
set_option maxRecDepth 100000 in
theorem lawNorms_any (a b : List UInt8) (w : World) (hE : Env w) :
    Calls Tryd.prog 4 #[.string (S a), .string (S b)] w fun e w' => e = .returned (.bool true) ∧ Below w.heap.size w w' := by
  obtain ⟨Q, hQ⟩ : ∃ Q, (fun (e : Ending) (w' : World) => e = .returned (.bool true) ∧ Below w.heap.size w w') = Q := ⟨_, rfl⟩
  rw [hQ]
  have HQ : RowKit.Hid (∀ e w', (e = .returned (.bool true) ∧ Below w.heap.size w w') → Q e w') := by rw [← hQ]; exact fun _ _ h => h
  clear hQ
  have HE := Lib.hid hE
  have B0 := Lib.hid (Below.refl w.heap.size w)
  have cA := Lib.hid (fun W hW => lalive12_any W hW)
  have cT := Lib.hid (fun W => ltext12_any a W)
  have cU := Lib.hid (fun W => ltext12_any b W)
  have cN := Lib.hid (fun (h : okT a = true) W hW => pNorm12_any a (okT_out a h).2 (Nat.le_trans (okT_out a h).1 (by decide)) W hW)
  have cM := Lib.hid (fun (h : okT a = true) W => refNorm_any a (okT_out a h).2 (Nat.le_trans (okT_out a h).1 (by decide)) W)
  have cS := Lib.hid (fun (h : okT a = true) (h2 : okT b = true) W hW => pSame12_any a b (okT_out a h).2 (Nat.le_trans (okT_out a h).1 (by decide)) (okT_out b h2).2 (Nat.le_trans (okT_out b h2).1 (by decide)) W hW)
  have cR := Lib.hid (fun (h : okT a = true) (h2 : okT b = true) W => refSame12_any a b (okT_out a h).2 (Nat.le_trans (okT_out a h).1 (by decide)) (okT_out b h2).2 (Nat.le_trans (okT_out b h2).1 (by decide)) W)
  obtain ⟨ka, hka⟩ : ∃ k, okT a = k := ⟨_, rfl⟩
  obtain ⟨kb, hkb⟩ : ∃ k, okT b = k := ⟨_, rfl⟩
  rw [hka] at cT cN cM cS cR
  rw [hkb] at cU cS cR
  clear hka hkb hE
  generalize S (normX a) = na at *
  generalize sameX a b = sab at *
  generalize S a = sa at *
  generalize S b = sb at *
  go_enter Tryd.func4, Tryd.ntmps4
  go_wp2_with fail
  refine (cA.out w HE.out).mono ?_
  rintro e w1 ⟨rfl, hb1⟩
  have B1 := Lib.hid (B0.out.trans (hb1.mono B0.out.size))
  clear hb1
  go_wp2_with fail
  refine (cT.out w1).mono ?_
  rintro e w2 ⟨rfl, hb2⟩
  have B2 := Lib.hid (B1.out.trans (hb2.mono B1.out.size))
  clear hb2
  cases ka with
  | false =>
    go_wp2
    first | exact HQ.out _ _ ⟨rfl, B2.out⟩ | (go_ret; exact HQ.out _ _ ⟨rfl, B2.out⟩)
  | true =>
    go_wp2_with fail
    refine (cU.out w2).mono ?_
    rintro e w3 ⟨rfl, hb3⟩
    have B3 := Lib.hid (B2.out.trans (hb3.mono B2.out.size))
    clear hb3
    cases kb with
    | false =>
      go_wp2
      first | exact HQ.out _ _ ⟨rfl, B3.out⟩ | (go_ret; exact HQ.out _ _ ⟨rfl, B3.out⟩)
    | true =>
      have hn := cN.out (by simp)
      have hm := cM.out (by simp)
      have hs := cS.out (by simp) (by simp)
      have hr := cR.out (by simp) (by simp)
      replace hn := Lib.hid hn
      replace hm := Lib.hid hm
      replace hs := Lib.hid hs
      replace hr := Lib.hid hr
      go_wp2_with fail
      refine (hn.out w3 (HE.out.after B3.out)).mono ?_
      rintro e w4 ⟨rfl, hb4⟩
      have B4 := Lib.hid (B3.out.trans (hb4.mono B3.out.size))
      clear hb4
      go_wp2_with fail
      refine (hm.out w4).mono ?_
      rintro e w5 ⟨rfl, hb5⟩
      have B5 := Lib.hid (B4.out.trans (hb5.mono B4.out.size))
      clear hb5
      go_wp2_with fail
      refine (hs.out w5 (HE.out.after B5.out)).mono ?_
      rintro e w6 ⟨rfl, hb6⟩
      have B6 := Lib.hid (B5.out.trans (hb6.mono B5.out.size))
      clear hb6
      go_wp2_with fail
      refine (hr.out w6).mono ?_
      rintro e w7 ⟨rfl, hb7⟩
      have B7 := Lib.hid (B6.out.trans (hb7.mono B6.out.size))
      clear hb7
      go_wp2
      first | exact HQ.out _ _ ⟨rfl, B7.out⟩ | (go_ret; exact HQ.out _ _ ⟨rfl, B7.out⟩)
set_option maxHeartbeats 16000000 in
set_option maxRecDepth 100000 in
theorem lawTexts_any (n : Nm) (w : World) (hE : Env w) :
    Calls Tryd.prog 8 #[NV n] w fun e w' => e = .returned (.bool true) ∧ Below w.heap.size w w' := by
  obtain ⟨Q, hQ⟩ : ∃ Q, (fun (e : Ending) (w' : World) => e = .returned (.bool true) ∧ Below w.heap.size w w') = Q := ⟨_, rfl⟩
  rw [hQ]
  have HQ : RowKit.Hid (∀ e w', (e = .returned (.bool true) ∧ Below w.heap.size w w') → Q e w') := by rw [← hQ]; exact fun _ _ h => h
  clear hQ
  have HE := Lib.hid hE
  have B0 := Lib.hid (Below.refl w.heap.size w)
  have cA := Lib.hid (fun W hW => lalive12_any W hW)
  obtain ⟨s, er, hr⟩ : ∃ s e, textX12 n = (s, e) := ⟨_, _, rfl⟩
  have HH : RowKit.Hid (n.1.length ≤ 300 → n.2.1.length ≤ 300 → n.2.2.length ≤ 300 → ∀ W, (Env W → Calls Tryd.prog 27 #[NV n] W fun e w' => e = .returned (.tuple #[.string (S s), .int .i64 er]) ∧ Below W.heap.size W w') ∧ (Calls Tryd.prog 28 #[NV n] W fun e w' => e = .returned (.tuple #[.string (S s), .int .i64 er]) ∧ Below W.heap.size W w')) := fun a b c W =>
    ⟨fun hW => pText12_any n (Nat.le_trans a (by decide)) (Nat.le_trans b (by decide)) (Nat.le_trans c (by decide)) s er hr W hW, refText12_any n (Nat.le_trans a (by decide)) (Nat.le_trans b (by decide)) (Nat.le_trans c (by decide)) s er hr W⟩
  have hz0 := S_size n.1
  have hz1 := S_size n.2.1
  have hz2 := S_size n.2.2
  obtain ⟨W0, hW0⟩ : ∃ W, w.alloc (.cells #[.string (S n.1), .string (S n.2.1), .string (S n.2.2)] 34) = W := ⟨_, rfl⟩
  have b0 : Below w.heap.size w W0 := by rw [← hW0]; exact (Below.refl _ _).alloc (Nat.le_refl _) _
  have hR0 : W0.heap[w.heap.size]? = some (.cells #[.string (S n.1), .string (S n.2.1), .string (S n.2.2)] 34 (0, 0)) := by rw [← hW0]; exact heap_alloc_new w _
  have hlt0 : w.heap.size < W0.heap.size := by rw [← hW0]; simp
  have HBox := Lib.hid (fun (W : World) (h : Below W0.heap.size W0 W) => (h.block w.heap.size hlt0).trans hR0)
  replace B0 := Lib.hid (Below.refl W0.heap.size W0)
  replace HE := Lib.hid (hE.after b0)
  replace HQ : RowKit.Hid (∀ e w', (e = .returned (.bool true) ∧ Below W0.heap.size W0 w') → Q e w') := fun e w' h => HQ.out e w' ⟨h.1, b0.trans (h.2.mono b0.size)⟩
  have HW0 := Lib.hid hW0
  clear hW0 hR0 hlt0 b0 hE hr
  unfold NV at HH ⊢
  generalize n.1.length = l0 at *
  generalize n.2.1.length = l1 at *
  generalize n.2.2.length = l2 at *
  generalize S n.1 = sx at *
  generalize S n.2.1 = sy at *
  generalize S n.2.2 = sz at *
  generalize S s = st at *
  clear cA
  have cA := Lib.hid (fun W hW => lalive12_any W hW)
  go_enter Tryd.func8, Tryd.ntmps8
  go_upto_region 1 with fail
  rw [HW0.out]
  clear HW0
  go_wp2_with fail
  refine (cA.out W0 HE.out).mono ?_
  rintro e w1 ⟨rfl, hb1⟩
  have B1 := Lib.hid (B0.out.trans (hb1.mono B0.out.size))
  clear hb1
  obtain ⟨⟨x0, x1, x2⟩, -⟩ := ncells (HBox.out w1 B1.out)
  by_cases e0 : l0 ≤ 300
  · have t0 : decide ((300 : Int) < (sx.size : Int)) = false := decide_eq_false (by omega)
    by_cases e1 : l1 ≤ 300
    · have t1 : decide ((300 : Int) < (sy.size : Int)) = false := decide_eq_false (by omega)
      by_cases e2 : l2 ≤ 300
      · have t2 : decide ((300 : Int) < (sz.size : Int)) = false := decide_eq_false (by omega)
        have cH := Lib.hid (HH.out e0 e1 e2)
        clear HH
        go_wp2_with fail
        refine ((cH.out w1).1 (HE.out.after B1.out)).mono ?_
        rintro e w2 ⟨rfl, hb2⟩
        have B2 := Lib.hid (B1.out.trans (hb2.mono B1.out.size))
        clear hb2
        clear x0 x1 x2
        obtain ⟨⟨x0, x1, x2⟩, -⟩ := ncells (HBox.out w2 B2.out)
        go_wp2_with fail
        refine ((cH.out w2).2).mono ?_
        rintro e w3 ⟨rfl, hb3⟩
        have B3 := Lib.hid (B2.out.trans (hb3.mono B2.out.size))
        clear hb3
        go_wp2
        first | exact HQ.out _ _ ⟨rfl, B3.out⟩ | (go_ret; exact HQ.out _ _ ⟨rfl, B3.out⟩)
      · have t2 : decide ((300 : Int) < (sz.size : Int)) = true := decide_eq_true (by omega)
        clear HH
        go_wp2
        first | exact HQ.out _ _ ⟨rfl, B1.out⟩ | (go_ret; exact HQ.out _ _ ⟨rfl, B1.out⟩)
    · have t1 : decide ((300 : Int) < (sy.size : Int)) = true := decide_eq_true (by omega)
      clear HH
      go_wp2
      first | exact HQ.out _ _ ⟨rfl, B1.out⟩ | (go_ret; exact HQ.out _ _ ⟨rfl, B1.out⟩)
  · have t0 : decide ((300 : Int) < (sx.size : Int)) = true := decide_eq_true (by omega)
    clear HH
    go_wp2
    first | exact HQ.out _ _ ⟨rfl, B1.out⟩ | (go_ret; exact HQ.out _ _ ⟨rfl, B1.out⟩)
end

end Go.Proofs.YtjfbbpppdlaapaaDoor
