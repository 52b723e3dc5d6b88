/- Merged: LJ10, ShapedAnd, EnvTab. -/
import Derived.Test.YtiledacfdaenbaaGreatDoorQ30
import Derived.Test.YtiledacfdaenbaaGreatDoorQ31
import Derived.Test.YtiledacfdaenbaaGreatDoorQ34
import Derived.Test.YtiledacfdaenbaaGreatDoorProg
import Derived.Handed
import Derived.Test.YtiledacfdaenbaaGreatDoorRows
import Derived.Test.YtiledacfdaenbaaGreatDoorQ13
import Derived.Test.YtiledacfdaenbaaGreatDoorQ32
import Derived.Shelf.Vars
import Derived.Stop.LaidErr
import Derived.Lib.LaidU8T
import Derived.PinnedBridge
import Derived.LaidMore
import Derived.LaidLaws
namespace Go.Proofs.YtiledacfdaenbaaGreatDoor

section
open Go.RowKit Go.PlainAid
set_option maxHeartbeats 16000000 in
set_option maxRecDepth 100000 in
theorem lawImports_any (l : List UInt8) (w : World) (hE : Env w) :
    Calls Tryz.prog 3 #[.string (S l)] w fun e w' => e = .returned (.bool true) ∧ Below w.heap.size w w' := by
  obtain ⟨Q, hQ⟩ : ∃ Q, (fun (e : Ending) (w' : World) => e = .returned (.bool true) ∧ Below w.heap.size w w') = Q := ⟨_, rfl⟩
  rw [hQ]
  have HQ : RowKit.Hid (∀ e w', (e = .returned (.bool true) ∧ Below w.heap.size w w') → Q e w') := by rw [← hQ]; exact fun _ _ h => h
  clear hQ
  have cA := Lib.hid (lalive_any w hE)
  have HE := Lib.hid hE
  have hsz := S_size l
  obtain ⟨z, hz⟩ : ∃ z, l.length = z := ⟨_, rfl⟩
  rw [hz] at hsz
  obtain ⟨P, se, hp⟩ : ∃ P se, splR l = (P, se) := ⟨_, _, rfl⟩
  obtain ⟨L, k0, er, hi⟩ : ∃ L k0 er, impR l = (L, k0, er) := ⟨_, _, _, rfl⟩
  have HS := Lib.hid (fun (h : z ≤ 4000) W => pSplit_any l (by omega) P se hp W)
  have HT := Lib.hid (fun (h : z ≤ 4000) W => refSplit_any l (by omega) P se hp W)
  have HI := Lib.hid (fun (h : z ≤ 4000) W hW => pImport_any l (by omega) L k0 er hi W hW)
  have HJ := Lib.hid (fun (h : z ≤ 4000) W hW => refImport_any l (by omega) L k0 er hi W hW)
  have cT := Lib.hid (fun x y W hx hy => refTexts_any P P x y W hx hy true (decide_eq_true rfl))
  have cM := Lib.hid (fun x y W hx hy => lsame_eq L x y W hx hy (fun r => (sameRB_iff r r).2 rfl))
  clear hp hz hE hi
  generalize S l = s at *
  go_enter Tryz.func3, Tryz.ntmps3
  go_wp2_with fail
  refine cA.out.mono ?_
  rintro e w1 ⟨rfl, hb1⟩
  have B1 := Lib.hid hb1
  clear hb1 cA
  by_cases h4 : 4000 < z
  · have t1 : decide ((4000 : Int) < (z : Int)) = true := decide_eq_true (by omega)
    have t1' : decide (4000 < z) = true := decide_eq_true h4
    clear h4
    go_wp2
    first | exact HQ.out _ _ ⟨rfl, B1.out⟩ | (go_ret; exact HQ.out _ _ ⟨rfl, B1.out⟩)
  have t1 : decide ((4000 : Int) < (z : Int)) = false := decide_eq_false (by omega)
  have t1' : decide (4000 < z) = false := decide_eq_false h4
  have c1 := Lib.hid (HS.out (by omega) w1)
  have c2 := Lib.hid (fun W => HT.out (by omega) W)
  have c3 := Lib.hid (fun W hW => HI.out (by omega) W hW)
  have c4 := Lib.hid (fun W hW => HJ.out (by omega) W hW)
  clear h4 HS HT HI HJ
  go_wp2_with fail
  refine c1.out.mono ?_
  rintro e w2 ⟨v2, rfl, hn2, hb2⟩
  have B2 := Lib.hid (B1.out.trans (hb2.mono B1.out.size))
  have H2 := Lib.hid hn2.here
  obtain ⟨a2, d2, rfl, -, -⟩ := hn2.here.length
  clear hn2 hb2 c1
  go_wp2_with fail
  refine (c2.out w2).mono ?_
  rintro e w3 ⟨v3, rfl, hn3, hb3⟩
  have B3 := Lib.hid (B2.out.trans (hb3.mono B2.out.size))
  have H3 := Lib.hid hn3.here
  have H23 := Lib.hid (H2.out.after hb3)
  obtain ⟨a3, d3, rfl, -, -⟩ := hn3.here.length
  clear hn3 hb3 c2 H2
  go_wp2_with fail
  refine (cT.out _ _ w3 H23.out H3.out).mono ?_
  rintro e w4 ⟨rfl, hb4⟩
  have B4 := Lib.hid (B3.out.trans (hb4.mono B3.out.size))
  clear hb4 H23 H3 cT
  go_wp2_with fail
  refine (c3.out w4 (HE.out.after B4.out)).mono ?_
  rintro e w5 ⟨v5, rfl, hn5, hb5⟩
  have B5 := Lib.hid (B4.out.trans (hb5.mono B4.out.size))
  have H5 := Lib.hid hn5.here
  obtain ⟨a5, d5, rfl, -, -⟩ := hn5.here.length
  clear hn5 hb5 c3
  go_wp2_with fail
  refine (c4.out w5 (HE.out.after B5.out)).mono ?_
  rintro e w6 ⟨v6, rfl, hn6, hb6⟩
  have B6 := Lib.hid (B5.out.trans (hb6.mono B5.out.size))
  have H6 := Lib.hid hn6.here
  have H56 := Lib.hid (H5.out.after hb6)
  obtain ⟨a6, d6, rfl, -, -⟩ := hn6.here.length
  clear hn6 hb6 c4 H5
  go_wp2_with fail
  refine (cM.out _ _ w6 H56.out H6.out).mono ?_
  rintro e w7 ⟨rfl, hb7⟩
  have BF := Lib.hid (B6.out.trans (hb7.mono B6.out.size))
  clear hb7 cM
  go_wp2
  first | exact HQ.out _ _ ⟨rfl, BF.out⟩ | (go_ret; exact HQ.out _ _ ⟨rfl, BF.out⟩)
end

section
theorem lift_shaped {H : Type} {enc : TypeId × Value → H} {a : Assume} {C : Checked} {os : Os} {f : FuncId} {fn : Func} {s : ChangeSpec} {apart fresh handsOn again : Bool} {X : World → Array Value → Prop}
    (hX : ∀ (w w' : World) (args : Array Value), w.heap = w'.heap → X w args → X w' args)
    (own : ownKnob C.prog.godebug = none) (started : os.Started) (noInit : C.prog.inits.idxOf? f = none) (hfn : C.prog.funcs[f]? = some fn)
    (witness : ∃ (w : World) (tape : Tape) (i : Input), w.os = os ∧ (w.forCall tape i).Shaped C.prog ∧ i.vars = [] ∧ Input.okWide C.prog (w.forCall tape i) .any w.heap.size f i ∧
      ((s.pre enc C.prog fn [] apart (w.forCall tape i).memory i.args ∧ X (w.forCall tape i).memory i.args) ∧ sizedMet enc C.prog fn (OpenSpec.ofChange s) apart (w.forCall tape i).memory i.args) ∧ a.holds C.prog (lone (Frame.enter C.prog f i.args .normal) [] (w.forCall tape i)))
    (contract : ∀ (W : World) (base : Nat) (args : Array Value) (ds gs : List (DataW H)) (before : List MemPlace),
      (∀ (j : Nat) t v, fn.params[j]? = some t → args[j]? = some v → Value.okWide C.prog W .any base t v) →
      DataW.Whole enc C.prog fn.params.toList s.vars apart W args.toList ds gs before → X W args → W.ShapedOpen C.prog →
      Calls C.prog f args W fun e W' => ∃ v, e = .returned v ∧ s.post enc C.prog fn apart fresh handsOn again W args v W') :
    ReturnsInHanded a C os f .any (fun w args => (s.pre enc C.prog fn [] apart w args ∧ X w args) ∧ sizedMet enc C.prog fn (OpenSpec.ofChange s) apart w args) (s.post enc C.prog fn apart fresh handsOn again) := by
  refine returnsInHanded_of_calls own started noInit witness ?_
  intro w tape i _ hsh _ hok hpre _
  obtain ⟨_, _, _, fn2, hfn2, _, _, _, _, hval⟩ := hok
  obtain rfl : fn2 = fn := Option.some.inj (hfn2.symm.trans hfn)
  obtain ⟨⟨⟨ds, gs, before, hw, _⟩, hx⟩, _⟩ := hpre
  refine (contract (w.forCall tape i) w.heap.size i.args ds gs before hval (DataW.Whole.of_heap (by rfl) hw) (hX _ _ _ (by rfl) hx) hsh).mono fun e W' hh => ?_
  obtain ⟨v, rfl, hp⟩ := hh
  exact ChangeSpec.post_blind hp
end

section
open Go.RowKit Go.Lib
/-- What every row of this seat lists. -/
def laid3 : List (String × DataW Unit) := Rows.exchangeImportsRow.laid
theorem accept_eq : Rows.laid_unicode_utf8_acceptRanges (H := Unit) = acceptData := by kernel_rfl
theorem first_eq : Rows.laid_unicode_utf8_first = firstData := Pinned.utf8First_eq
theorem pows_eq : Rows.laid_internal_strconv_uint64pow10 (H := Unit) = tabData .u64 pow10Tab := by kernel_rfl
theorem key_lt {W : World} {b o : Nat} {v : Value} (hv : W.cell? ⟨b, o, none⟩ = some v) : b < W.heap.size := by
  rcases Nat.lt_or_ge b W.heap.size with hh | hh
  · exact hh
  · simp [World.cell?, Array.getElem?_eq_none hh] at hv
theorem env_of {W : World} (h : laidMet Tryz.prog laid3 W) (hs : W.ShapedOpen Tryz.prog) : Env W := by
  have h3 : laidMet Tryz.prog (("internal/strconv.uint64pow10", Rows.laid_internal_strconv_uint64pow10) :: _) W := laidMet.tail (laidMet.tail h)
  have h4 : laidMet Tryz.prog (("unicode/utf8.acceptRanges", Rows.laid_unicode_utf8_acceptRanges) :: _) W := laidMet.tail h3
  have h7 : laidMet Tryz.prog (("unicode/utf8.first", Rows.laid_unicode_utf8_first) :: _) W := laidMet.tail h4
  have r4 := Lib.laidMet.reads h4 (.head _)
  have r7 := Lib.laidMet.reads h7 (.head _)
  rw [pows_eq] at h3
  rw [accept_eq] at r4
  rw [first_eq] at r7
  have htab : Lib.Utf8Tabs 1 2 W :=
    utf8Tabs_of_readsT (U8Types.of196 Tryz.lays196) ⟨by kernel_rfl, by kernel_rfl, by kernel_rfl, by kernel_rfl, by kernel_rfl, by kernel_rfl, by kernel_rfl⟩ r7 r4
  exact ⟨⟨⟨key_lt (htab.1 0 (by decide)), key_lt (htab.2 0 (by decide)).1⟩, htab⟩,
    cell_of_shapedOpen_int (P := Tryz.prog) (g := 0) (t := 3) (zero := #[.int .i64 0]) hs (of_decide_eq_true (by kernel_rfl)) (by kernel_rfl) rfl (by kernel_rfl) (by kernel_rfl) Tryz.underlying3,
    tabIs_of_head (g := 3) (t := 125) (e := 102) (n := 20) (by kernel_rfl) (by kernel_rfl) Tryz.underlying125 Tryz.underlying102 (by kernel_rfl) (by kernel_rfl) h3⟩
theorem env_ofH {W : World} (h : laidMetH Tryz.prog laid3 W) (hs : W.ShapedOpen Tryz.prog) : Env W := by
  rw [MakeChecks.laidMetH_plain _ _ _ (by kernel_rfl)] at h
  exact env_of h hs
end

end Go.Proofs.YtiledacfdaenbaaGreatDoor
