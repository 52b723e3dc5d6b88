/- Merged: ShapedAnd, EnvTab, LE11. -/
import Derived.Test.YtnfallkeicehiaaDoorProg
import Derived.Handed
import Derived.Test.YtnfallkeicehiaaDoorRows
import Derived.Test.YtnfallkeicehiaaDoorQ21
import Derived.Test.YtnfallkeicehiaaDoorQ32
import Derived.Shelf.Vars
import Derived.Stop.LaidErr
import Derived.Lib.LaidU8T
import Derived.PinnedBridge
import Derived.LaidMore
import Derived.LaidLaws
import Derived.Test.YtnfallkeicehiaaDoorQ31
namespace Go.Proofs.YtnfallkeicehiaaDoor

section
theorem lift_shaped {H : Type} {enc : TypeId × Value → H} {a : Assume} {C : Checked} {os : Os} {f : FuncId} {fn : Func} {s : ChangeSpec} {apart fresh handsOn again : Bool} {X : World → Array Value → Prop}
    (hX : ∀ (w w' : World) (args : Array Value), w.heap = w'.heap → X w args → X w' args)
    (own : ownKnob C.prog.godebug = none) (started : os.Started) (noInit : C.prog.inits.idxOf? f = none) (hfn : C.prog.funcs[f]? = some fn)
    (witness : ∃ (w : World) (tape : Tape) (i : Input), w.os = os ∧ (w.forCall tape i).Shaped C.prog ∧ i.vars = [] ∧ Input.okWide C.prog (w.forCall tape i) .any w.heap.size f i ∧
      ((s.pre enc C.prog fn [] apart (w.forCall tape i).memory i.args ∧ X (w.forCall tape i).memory i.args) ∧ sizedMet enc C.prog fn (OpenSpec.ofChange s) apart (w.forCall tape i).memory i.args) ∧ a.holds C.prog (lone (Frame.enter C.prog f i.args .normal) [] (w.forCall tape i)))
    (contract : ∀ (W : World) (base : Nat) (args : Array Value) (ds gs : List (DataW H)) (before : List MemPlace),
      (∀ (j : Nat) t v, fn.params[j]? = some t → args[j]? = some v → Value.okWide C.prog W .any base t v) →
      DataW.Whole enc C.prog fn.params.toList s.vars apart W args.toList ds gs before → X W args → W.ShapedOpen C.prog →
      Calls C.prog f args W fun e W' => ∃ v, e = .returned v ∧ s.post enc C.prog fn apart fresh handsOn again W args v W') :
    ReturnsInHanded a C os f .any (fun w args => (s.pre enc C.prog fn [] apart w args ∧ X w args) ∧ sizedMet enc C.prog fn (OpenSpec.ofChange s) apart w args) (s.post enc C.prog fn apart fresh handsOn again) := by
  refine returnsInHanded_of_calls own started noInit witness ?_
  intro w tape i _ hsh _ hok hpre _
  obtain ⟨_, _, _, fn2, hfn2, _, _, _, _, hval⟩ := hok
  obtain rfl : fn2 = fn := Option.some.inj (hfn2.symm.trans hfn)
  obtain ⟨⟨⟨ds, gs, before, hw, _⟩, hx⟩, _⟩ := hpre
  refine (contract (w.forCall tape i) w.heap.size i.args ds gs before hval (DataW.Whole.of_heap (by rfl) hw) (hX _ _ _ (by rfl) hx) hsh).mono fun e W' hh => ?_
  obtain ⟨v, rfl, hp⟩ := hh
  exact ChangeSpec.post_blind hp
end

section
open Go.RowKit Go.Lib
/-- What every row of this seat lists. -/
def laid3 : List (String × DataW Unit) := Rows.linesRestoresRow.laid
theorem accept_eq : Rows.laid_unicode_utf8_acceptRanges (H := Unit) = acceptData := by kernel_rfl
theorem first_eq : Rows.laid_unicode_utf8_first = firstData := Pinned.utf8First_eq
theorem pows_eq : Rows.laid_internal_strconv_uint64pow10 (H := Unit) = tabData .u64 pow10Tab := by kernel_rfl
theorem star_eq : "*" ++ "errors.errorString" = "*errors.errorString" := by decide
theorem row_err (u : TypeId) (h : Tryd.prog.typeName? 3 u = some "*errors.errorString") : u = 138 :=
  typeName_ptr_named (nm := "errors.errorString") (by rw [star_eq]; kernel_rfl) (by kernel_rfl) (by decide) u (by rw [star_eq]; exact h)
theorem key_lt {W : World} {b o : Nat} {v : Value} (hv : W.cell? ⟨b, o, none⟩ = some v) : b < W.heap.size := by
  rcases Nat.lt_or_ge b W.heap.size with hh | hh
  · exact hh
  · simp [World.cell?, Array.getElem?_eq_none hh] at hv
theorem kt_of {W : World} (r : Lib.VarReads Tryd.prog W "library/lines.kinds" Rows.laid_library_lines_kinds) : KT W := by
  obtain ⟨g, t, cs, fuel, p, hg, ht, hv, hd⟩ := r
  obtain rfl : g = 0 := Option.some.inj (hg.symm.trans (show _ = some 0 by kernel_rfl))
  obtain rfl : t = 68 := Option.some.inj (ht.symm.trans (show _ = some 68 by kernel_rfl))
  obtain ⟨xs, m, _, hx, hlen, hxl, hel⟩ := DataW.trod_array Tryd.underlying68 hd
  have hx1 : xs.map (·.1) = kindsL.map fun l => .lit (.string l) := by
    have := congrArg Prod.fst hx
    simpa [Rows.laid_library_lines_kinds, kindsL] using this.symm
  have key : ∀ i, i < 4 → cs[i]? = some (.string (S (kindsL.getD i []))) := by
    intro i hi
    have h := hel i hi
    rw [cells_string, Nat.mul_one] at h
    obtain ⟨y, hy⟩ : ∃ y, xs[i]? = some y := ⟨xs[i]'(by omega), List.getElem?_eq_getElem (by omega)⟩
    rw [hy] at h
    obtain ⟨s, e1, e2, _⟩ := DataW.trod_string Tryd.underlying9 h
    have e3 : cs[i]? = some (.string s) := by
      have := congrArg (·[0]?) e1
      simpa [List.getElem?_take, List.getElem?_drop] using this
    have e4 : (xs.map (·.1))[i]? = some (.lit (.string s.data.toList)) := by rw [List.getElem?_map, hy, e2]; rfl
    rw [hx1, List.getElem?_map] at e4
    have hk : kindsL[i]? = some (kindsL.getD i []) := by
      rw [List.getD_eq_getElem?_getD, List.getElem?_eq_getElem (show i < kindsL.length from hi)]
      rfl
    rw [hk] at e4
    have e5 : s = S s.data.toList := rfl
    have e6 : s.data.toList = kindsL.getD i [] := by simpa using e4.symm
    rw [e3, e5, e6]
  have cell : ∀ i, i < 4 → W.cell? ⟨0, i, none⟩ = some (.string (S (kindsL.getD i []))) := fun i hi => (World.var?_cell (g := 0) (by kernel_rfl) hv i).trans (key i hi)
  exact ⟨key_lt (cell 0 (by decide)), cell⟩
theorem env_of {W : World} (h : laidMet Tryd.prog laid3 W) (hs : W.ShapedOpen Tryd.prog) : Env W := by
  have h3 : laidMet Tryd.prog (("internal/strconv.uint64pow10", Rows.laid_internal_strconv_uint64pow10) :: _) W := laidMet.tail (laidMet.tail h)
  have h4 : laidMet Tryd.prog (("unicode/utf8.acceptRanges", Rows.laid_unicode_utf8_acceptRanges) :: _) W := laidMet.tail h3
  have h5 : laidMet Tryd.prog (("strconv.ErrRange", Rows.laid_strconv_ErrRange) :: _) W := laidMet.tail h4
  have h6 : laidMet Tryd.prog (("strconv.ErrSyntax", Rows.laid_strconv_ErrSyntax) :: _) W := laidMet.tail h5
  have h8 : laidMet Tryd.prog (("library/lines.kinds", Rows.laid_library_lines_kinds) :: _) W := laidMet.tail h6
  have h7 : laidMet Tryd.prog (("unicode/utf8.first", Rows.laid_unicode_utf8_first) :: _) W := laidMet.tail h8
  have r8 := Lib.laidMet.reads h8 (.head _)
  have r4 := Lib.laidMet.reads h4 (.head _)
  have r7 := Lib.laidMet.reads h7 (.head _)
  rw [pows_eq] at h3
  rw [accept_eq] at r4
  rw [first_eq] at r7
  have htab : Lib.Utf8Tabs 2 3 W :=
    utf8Tabs_of_readsT (U8Types.of196 Tryd.lays196) ⟨by kernel_rfl, by kernel_rfl, by kernel_rfl, by kernel_rfl, by kernel_rfl, by kernel_rfl, by kernel_rfl⟩ r7 r4
  obtain ⟨a1, s1, v1, _⟩ := laid_sentinel (g := 6) (ti := 52) (tp := 138) (te := 140) (ts := 9) h5 (by kernel_rfl) (by kernel_rfl) Tryd.underlying52 row_err Tryd.underlying138 Tryd.underlying140 rfl rfl Tryd.underlying9 (by kernel_rfl) (by kernel_rfl)
  obtain ⟨a2, s2, v2, _⟩ := laid_sentinel (g := 5) (ti := 52) (tp := 138) (te := 140) (ts := 9) h6 (by kernel_rfl) (by kernel_rfl) Tryd.underlying52 row_err Tryd.underlying138 Tryd.underlying140 rfl rfl Tryd.underlying9 (by kernel_rfl) (by kernel_rfl)
  have c1 := World.var?_cell (g := 6) (by kernel_rfl) v1 0
  have c2 := World.var?_cell (g := 5) (by kernel_rfl) v2 0
  exact ⟨⟨⟨key_lt (htab.1 0 (by decide)), key_lt (htab.2 0 (by decide)).1⟩, htab⟩,
    tabIs_of_head (g := 4) (t := 122) (e := 100) (n := 20) (by kernel_rfl) (by kernel_rfl) Tryd.underlying122 Tryd.underlying100 (by kernel_rfl) (by kernel_rfl) h3,
    cell_of_shapedOpen_int (P := Tryd.prog) (g := 1) (t := 3) (zero := #[.int .i64 0]) hs (of_decide_eq_true (by kernel_rfl)) (by kernel_rfl) rfl (by kernel_rfl) (by kernel_rfl) Tryd.underlying3,
    ⟨_, c2, .inr ⟨_, _, rfl⟩⟩, ⟨_, c1, .inr ⟨_, _, rfl⟩⟩, kt_of r8⟩
theorem env_ofH {W : World} (h : laidMetH Tryd.prog laid3 W) (hs : W.ShapedOpen Tryd.prog) : Env W := by
  rw [MakeChecks.laidMetH_plain _ _ _ (by kernel_rfl)] at h
  exact env_of h hs
end

section
open Go.RowKit Go.PlainAid
theorem right11_hz {r : Rec} (h : rightRI r = 0) : r.lang.length ≤ maxLen ∧ okZ r := by
  obtain ⟨-, -, -, -, -, -, a6, -, hf⟩ := right_rec r h
  refine ⟨by rw [lang_len _ a6]; decide, fun i hi j hj => ?_⟩
  have hm : r.fields.getD i fd0 ∈ r.fields := by
    rw [List.getD_eq_getElem?_getD, List.getElem?_eq_getElem hi]
    exact List.getElem_mem _
  obtain ⟨_, _, _, _, hs, _⟩ := right_facts _ (hf _ hm)
  exact Nat.le_trans (subE_zero _ (hs j hj)).2.2.2 (by decide)
set_option maxHeartbeats 16000000 in
set_option maxRecDepth 100000 in
theorem lawUnique_any (l : List UInt8) (w : World) (hE : Env w) :
    Calls Tryd.prog 4 #[.string (S l)] w fun e w' => e = .returned (.bool true) ∧ Below w.heap.size w w' := by
  obtain ⟨Q, hQ⟩ : ∃ Q, (fun (e : Ending) (w' : World) => e = .returned (.bool true) ∧ Below w.heap.size w w') = Q := ⟨_, rfl⟩
  rw [hQ]
  have HQ : RowKit.Hid (∀ e w', (e = .returned (.bool true) ∧ Below w.heap.size w w') → Q e w') := by rw [← hQ]; exact fun _ _ h => h
  clear hQ
  have cA := Lib.hid (fun W hW => lalive11_any W hW)
  have HE := Lib.hid hE
  have hsz := S_size l
  obtain ⟨z, hz⟩ : ∃ z, l.length = z := ⟨_, rfl⟩
  rw [hz] at hsz
  obtain ⟨q, m, er, hp⟩ : ∃ q m er, parX l = (q, m, er) := ⟨_, _, _, rfl⟩
  have HP := Lib.hid (fun (h : z ≤ 70000) W hW => pParse11_any l (by omega) q m er hp W hW)
  have HOne : RowKit.Hid (er = 0 → ∀ u W, Env W → FL u q.fields W → Calls Tryd.prog 8 #[RV q u] W fun e w' => e = .returned (.tuple #[.string (S l), .int .i64 0]) ∧ Below W.heap.size W w') := by
    intro h0 u W hW hu
    subst h0
    obtain ⟨_, h1, h2⟩ := par_sound l q m hp
    have hr := right11_hz h1
    have c := pPrint11_any q u W hW hu hr.1 hr.2 (textX q) 0 (prn_of q h1)
    rw [h2] at c
    exact c
  have HM0 : RowKit.Hid (er = 0 → m = 0) := by
    intro h0
    subst h0
    exact (par_sound l q m hp).1
  have HBd : RowKit.Hid (er ≠ 0 → 1 ≤ m ∧ q.fields.length = 0) := by
    intro h0
    refine ⟨par_num l q m er hp h0, ?_⟩
    rw [par_bad l q m er hp h0]
    rfl
  obtain ⟨L, k, er2, hp2⟩ : ∃ L k er2, parA l = (L, k, er2) := ⟨_, _, _, rfl⟩
  have HA := Lib.hid (fun (h : z ≤ 70000) W hW => pParseAll_any l (by omega) L k er2 hp2 W hW)
  have HPr : RowKit.Hid (er2 = 0 → ∀ v W, Env W → RL v L W → Calls Tryd.prog 12 #[v] W fun e w' => e = .returned (.tuple #[.string (S l), .int .i64 0]) ∧ Below W.heap.size W w') := by
    intro h0 v W hW hv
    subst h0
    obtain ⟨_, h1⟩ := parA_sound l L k hp2
    obtain ⟨_, h2, _, _⟩ := prnA_ok L l h1
    exact pPrintAll_any L v W hW hv (fun r hr => right11_hz (h2 r hr)) l 0 h1
  have HN0 : RowKit.Hid (er2 = 0 → k = 0) := by
    intro h0
    subst h0
    exact (parA_sound l L k hp2).1
  have HL0 : RowKit.Hid (er2 ≠ 0 → L.length = 0) := by
    intro h0
    rw [parA_no l L k er2 hp2 h0]
    rfl
  have B0 := Lib.hid (Below.refl w.heap.size w)
  clear hp hz hE hp2
  generalize S l = s at *
  go_enter Tryd.func4, Tryd.ntmps4
  by_cases h7 : 70000 < z
  · have t1 : decide ((70000 : Int) < (z : Int)) = true := decide_eq_true (by omega)
    have t1' : decide (70000 < z) = true := decide_eq_true h7
    clear h7 HP HOne HM0 HBd HA HPr HN0 HL0
    go_wp2_with fail
    refine (cA.out w (HE.out)).mono ?_
    rintro e wz ⟨rfl, hbz⟩
    have BF := Lib.hid (B0.out.trans (hbz.mono B0.out.size))
    clear hbz cA
    go_wp2
    first | exact HQ.out _ _ ⟨rfl, BF.out⟩ | (go_ret; exact HQ.out _ _ ⟨rfl, BF.out⟩)
  have t1 : decide ((70000 : Int) < (z : Int)) = false := decide_eq_false (by omega)
  have t1' : decide (70000 < z) = false := decide_eq_false h7
  have c1 := Lib.hid (HP.out (by omega) w HE.out)
  replace HA := Lib.hid (HA.out (by omega))
  clear h7 HP B0
  go_wp2_with fail
  refine c1.out.mono ?_
  rintro e w2 ⟨u, rfl, hn, hb2⟩
  obtain ⟨ua, uc, rfl, -, -⟩ := hn.here.length
  obtain ⟨ul, hul⟩ : ∃ m, q.fields.length = m := ⟨_, rfl⟩
  rw [hul] at hn ⊢
  unfold RV
  have hA := (Below.refl w2.heap.size w2).alloc (Nat.le_refl _) (.cells #[.int .i64 q.id, .int .i64 q.ver, .int .i64 q.kind, .string (S q.lang), .slice ua ul uc] 24)
  have hbx := heap_alloc_new w2 (.cells #[.int .i64 q.id, .int .i64 q.ver, .int .i64 q.kind, .string (S q.lang), .slice ua ul uc] 24)
  have hF := hn.here.after hA
  obtain ⟨V2, hV⟩ : ∃ W, w2.alloc (.cells #[.int .i64 q.id, .int .i64 q.ver, .int .i64 q.kind, .string (S q.lang), .slice ua ul uc] 24) = W := ⟨_, rfl⟩
  rw [hV] at hA hbx hF
  obtain ⟨b2, hbb⟩ : ∃ b, w2.heap.size = b := ⟨_, rfl⟩
  rw [hbb] at hbx
  have hlt2 : b2 < V2.heap.size := (Array.getElem?_eq_some_iff.1 hbx).1
  have HBx2 := Lib.hid hbx
  have HF2 := Lib.hid hF
  have HVe2 := Lib.hid hV
  have HBe2 := Lib.hid hbb
  have B2 := Lib.hid (hb2.trans (hA.mono hb2.size))
  clear hn hb2 hA hbx hF hV hbb c1
  obtain ⟨⟨x0, x1, x2, x3, x4⟩, -⟩ := rcells HBx2.out
  go_upto_region 4 with fail
  rw [HVe2.out, HBe2.out]
  clear HVe2 HBe2
  by_cases h0 : er = 0
  · have c2 := HOne.out h0 _ V2 (HE.out.after B2.out) (by rw [← hul] at HF2; exact HF2.out)
    rw [hul] at c2
    unfold RV at c2
    have C2 := Lib.hid c2
    obtain rfl := HM0.out h0
    subst h0
    clear HOne HM0 HBd HF2 c2 hul
    go_wp2_with fail
    refine C2.out.mono ?_
    rintro e w3 ⟨rfl, hb3⟩
    have B3 := Lib.hid (B2.out.trans (hb3.mono B2.out.size))
    clear hb3 C2 HBx2 x0 x1 x2 x3 x4
    have c3 := Lib.hid (HA.out w3 (HE.out.after B3.out))
    clear HA
    go_wp2_with fail
    refine c3.out.mono ?_
    rintro e w4 ⟨v, rfl, hn, hb4⟩
    have B4 := Lib.hid (B3.out.trans (hb4.mono B3.out.size))
    have H4 := Lib.hid hn.here
    obtain ⟨va, vc, rfl, -, -⟩ := hn.here.length
    clear hn hb4 c3
    by_cases g0 : er2 = 0
    · have c4 := Lib.hid (HPr.out g0 _ w4 (HE.out.after B4.out) H4.out)
      obtain rfl := HN0.out g0
      subst g0
      clear HPr HN0 H4
      go_wp2_with fail
      refine c4.out.mono ?_
      rintro e w5 ⟨rfl, hb5⟩
      have B5 := Lib.hid (B4.out.trans (hb5.mono B4.out.size))
      clear hb5 c4
      go_wp2_with fail
      refine (cA.out w5 (HE.out.after B5.out)).mono ?_
      rintro e wz ⟨rfl, hbz⟩
      have BF := Lib.hid (B5.out.trans (hbz.mono B5.out.size))
      clear hbz cA
      go_wp2
      first | exact HQ.out _ _ ⟨rfl, BF.out⟩ | (go_ret; exact HQ.out _ _ ⟨rfl, BF.out⟩)
    · have hl0 := HL0.out g0
      rw [hl0]
      have t9 : (er2 == 0) = false := by simpa using g0
      have t9' : decide (er2 = 0) = false := decide_eq_false g0
      clear g0 HPr HN0 H4 hl0
      go_wp2_with fail
      refine (cA.out w4 (HE.out.after B4.out)).mono ?_
      rintro e wz ⟨rfl, hbz⟩
      have BF := Lib.hid (B4.out.trans (hbz.mono B4.out.size))
      clear hbz cA
      go_wp2
      first | exact HQ.out _ _ ⟨rfl, BF.out⟩ | (go_ret; exact HQ.out _ _ ⟨rfl, BF.out⟩)
  · obtain ⟨h1, h2⟩ := HBd.out h0
    rw [hul] at h2
    subst h2
    have t3 : (er == 0) = false := by simpa using h0
    have t3' : decide (er = 0) = false := decide_eq_false h0
    have t4 : decide (m < 1) = false := decide_eq_false (by omega)
    clear h0 h1 HOne HM0 HBd HF2 hul
    have c3 := Lib.hid (HA.out V2 (HE.out.after B2.out))
    clear HA
    go_wp2_with fail
    refine c3.out.mono ?_
    rintro e w4 ⟨v, rfl, hn, hb4⟩
    have B4 := Lib.hid (B2.out.trans (hb4.mono B2.out.size))
    have H4 := Lib.hid hn.here
    obtain ⟨va, vc, rfl, -, -⟩ := hn.here.length
    clear hn hb4 c3
    by_cases g0 : er2 = 0
    · have c4 := Lib.hid (HPr.out g0 _ w4 (HE.out.after B4.out) H4.out)
      obtain rfl := HN0.out g0
      subst g0
      clear HPr HN0 H4
      go_wp2_with fail
      refine c4.out.mono ?_
      rintro e w5 ⟨rfl, hb5⟩
      have B5 := Lib.hid (B4.out.trans (hb5.mono B4.out.size))
      clear hb5 c4
      go_wp2_with fail
      refine (cA.out w5 (HE.out.after B5.out)).mono ?_
      rintro e wz ⟨rfl, hbz⟩
      have BF := Lib.hid (B5.out.trans (hbz.mono B5.out.size))
      clear hbz cA
      go_wp2
      first | exact HQ.out _ _ ⟨rfl, BF.out⟩ | (go_ret; exact HQ.out _ _ ⟨rfl, BF.out⟩)
    · have hl0 := HL0.out g0
      rw [hl0]
      have t9 : (er2 == 0) = false := by simpa using g0
      have t9' : decide (er2 = 0) = false := decide_eq_false g0
      clear g0 HPr HN0 H4 hl0
      go_wp2_with fail
      refine (cA.out w4 (HE.out.after B4.out)).mono ?_
      rintro e wz ⟨rfl, hbz⟩
      have BF := Lib.hid (B4.out.trans (hbz.mono B4.out.size))
      clear hbz cA
      go_wp2
      first | exact HQ.out _ _ ⟨rfl, BF.out⟩ | (go_ret; exact HQ.out _ _ ⟨rfl, BF.out⟩)
end

end Go.Proofs.YtnfallkeicehiaaDoor
