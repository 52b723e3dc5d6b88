/- Merged: Am10, LD10, ShapedAnd. -/
import Derived.Test.YtiledacfdaenbaaDoorQ33
import Derived.Test.YtiledacfdaenbaaDoorProg
import Derived.Handed
namespace Go.Proofs.YtiledacfdaenbaaDoor

section
open Go.RowKit Go.PlainAid
set_option maxHeartbeats 16000000 in
set_option maxRecDepth 100000 in
theorem lalive_any (w : World) (hE : Env w) :
    Calls Tryd.prog 8 #[] w fun e w' => e = .returned (.bool true) ∧ Below w.heap.size w w' := by
  obtain ⟨Q, hQ⟩ : ∃ Q, (fun (e : Ending) (w' : World) => e = .returned (.bool true) ∧ Below w.heap.size w w') = Q := ⟨_, rfl⟩
  rw [hQ]
  have HQ : RowKit.Hid (∀ e w', (e = .returned (.bool true) ∧ Below w.heap.size w w') → Q e w') := by rw [← hQ]; exact fun _ _ h => h
  clear hQ
  obtain ⟨N, hN⟩ : ∃ N, w.heap.size = N := ⟨_, rfl⟩
  obtain ⟨Wa, hWa⟩ : ∃ W, w.alloc (.cells #[.int .u8 97, .string ⟨#[68, 111, 103, 115]⟩] 46) = W := ⟨_, rfl⟩
  obtain ⟨Wb, hWb⟩ : ∃ W, Wa.alloc (.cells #[.string ⟨#[50, 52, 53]⟩, .string ⟨#[49, 48]⟩, .slice (some ⟨w.heap.size, 0, none⟩) 1 1, .int .i64 0] 49) = W := ⟨_, rfl⟩
  obtain ⟨W0, hW0⟩ : ∃ W, Wb.alloc (.cells #[.int .i64 7, .int .i64 3, .int .i64 1, .string ⟨#[101, 110, 103]⟩, .slice (some ⟨w.heap.size + 1, 0, none⟩) 1 1] 24) = W := ⟨_, rfl⟩
  have hsa : Wa.heap.size = w.heap.size + 1 := by rw [← hWa]; simp
  have hsb : Wb.heap.size = w.heap.size + 2 := by rw [← hWb]; simp [hsa]
  have ba : Below w.heap.size w Wa := by rw [← hWa]; exact (Below.refl _ _).alloc (Nat.le_refl _) _
  have bb : Below Wa.heap.size Wa Wb := by rw [← hWb]; exact (Below.refl _ _).alloc (Nat.le_refl _) _
  have b0 : Below Wb.heap.size Wb W0 := by rw [← hW0]; exact (Below.refl _ _).alloc (Nat.le_refl _) _
  have h1 : Wa.heap[w.heap.size]? = some (.cells #[.int .u8 97, .string ⟨#[68, 111, 103, 115]⟩] 46 (0, 0)) := by rw [← hWa]; exact heap_alloc_new w _
  have h2 : Wb.heap[w.heap.size + 1]? = some (.cells #[.string ⟨#[50, 52, 53]⟩, .string ⟨#[49, 48]⟩, .slice (some ⟨w.heap.size, 0, none⟩) 1 1, .int .i64 0] 49 (0, 0)) := by
    rw [← hWb, ← hsa]; exact heap_alloc_new Wa _
  have h3 : W0.heap[w.heap.size + 1 + 1]? = some (.cells #[.int .i64 7, .int .i64 3, .int .i64 1, .string ⟨#[101, 110, 103]⟩, .slice (some ⟨w.heap.size + 1, 0, none⟩) 1 1] 24 (0, 0)) := by
    rw [← hW0, show w.heap.size + 1 + 1 = Wb.heap.size by omega]; exact heap_alloc_new Wb _
  have hq : QL (.slice (some ⟨w.heap.size, 0, none⟩) 1 1) [(97, [68, 111, 103, 115])] Wa := by
    refine ⟨_, 1, rfl, Nat.le_refl _, by unfold maxLen; omega, (fun h => by cases h), fun i hi => ?_⟩
    have : i = 0 := by simp at hi; omega
    subst this
    exact ⟨w.heap.size, 0, rfl, by omega, by rw [Lib.cell_of_heap h1]; rfl, by rw [Lib.cell_of_heap h1]; rfl⟩
  have hqb := (hq.after bb).after b0
  have h2b := (b0.block _ (by omega)).trans h2
  have hf : FL (.slice (some ⟨w.heap.size + 1, 0, none⟩) 1 1) ex1.fields W0 := by
    refine ⟨_, 1, rfl, Nat.le_refl _, by unfold maxLen; omega, (fun h => by cases h), fun i hi => ?_⟩
    have : i = 0 := by
      have : i < 1 := hi
      omega
    subst this
    exact ⟨w.heap.size + 1, 0, .slice (some ⟨w.heap.size, 0, none⟩) 1 1, rfl, by have := b0.size; omega, by rw [Lib.cell_of_heap h2b]; rfl, by rw [Lib.cell_of_heap h2b]; rfl, by rw [Lib.cell_of_heap h2b]; rfl, by rw [Lib.cell_of_heap h2b]; rfl, hqb⟩
  have B0 := Lib.hid (ba.trans ((bb.trans (b0.mono bb.size)).mono ba.size))
  have cE1 : RowKit.Hid (Calls Tryd.prog 10 #[.agg #[.int .i64 7, .int .i64 3, .int .i64 1, .string ⟨#[101, 110, 103]⟩, .slice (some ⟨w.heap.size + 1, 0, none⟩) 1 1]] W0 fun e w' => e = .returned (.tuple #[.string ⟨#[48, 48, 48, 53, 49, 110, 98, 51, 101, 110, 103, 48, 48, 48, 51, 55, 48, 48, 48, 55, 52, 53, 48, 48, 50, 52, 53, 48, 48, 49, 51, 48, 48, 48, 48, 48, 30, 49, 48, 48, 48, 48, 48, 31, 97, 68, 111, 103, 115, 30, 29]⟩, .int .i64 0]) ∧ Below W0.heap.size W0 w') := by
    have c := pEncode_any ex1 _ W0 (hE.after B0.out) hf (by decide) (fun i hi j hj => by
      have h : i = 0 := by have : i < 1 := hi; omega
      subst h
      have h : j = 0 := by have : j < 1 := hj; omega
      subst h
      decide)
    rw [ex1_enc] at c
    exact c
  obtain ⟨s2, hs2, hl2⟩ := ex2_enc
  have cE2 : RowKit.Hid (∀ W, Env W → Calls Tryd.prog 10 #[.agg #[.int .i64 0, .int .i64 3, .int .i64 1, .string ⟨#[101, 110, 103]⟩, .slice none 0 0]] W fun e w' => e = .returned (.tuple #[.string (S s2), .int .i64 0]) ∧ Below W.heap.size W w') := by
    intro W hW
    have c := pEncode_any ex2 (.slice none 0 0) W hW ⟨none, 0, rfl, Nat.le_refl _, Nat.zero_le _, fun _ => rfl, fun i hi => by cases hi⟩ (by decide) (fun i hi => by cases hi)
    rw [hs2] at c
    exact c
  have cI : RowKit.Hid (∀ W, Env W → Calls Tryd.prog 19 #[.string ⟨#[]⟩] W fun e w' => ∃ v, e = .returned (.tuple #[v, .int .i64 (-1), .int .i64 0]) ∧ New W.heap.size (RL v []) w' ∧ Below W.heap.size W w') := fun W hW => pImport_any [] (by decide) [] (-1) 0 imp_nil W hW
  have cS : RowKit.Hid (∀ W, Calls Tryd.prog 18 #[.string ⟨#[48, 48, 48, 50, 53]⟩] W fun e w' => ∃ v, e = .returned (.tuple #[v, .int .i64 3]) ∧ New W.heap.size (BL v []) w' ∧ Below W.heap.size W w') := fun W => pSplit_any [48, 48, 48, 50, 53] (by decide) [] 3 spl_bad W
  have hz2 := S_size s2
  rw [hl2] at hz2
  have HW : RowKit.Hid (((w.alloc (.cells #[.int .u8 97, .string ⟨#[68, 111, 103, 115]⟩] 46)).alloc (.cells #[.string ⟨#[50, 52, 53]⟩, .string ⟨#[49, 48]⟩, .slice (some ⟨w.heap.size, 0, none⟩) 1 1, .int .i64 0] 49)).alloc (.cells #[.int .i64 7, .int .i64 3, .int .i64 1, .string ⟨#[101, 110, 103]⟩, .slice (some ⟨w.heap.size + 1, 0, none⟩) 1 1] 24) = W0) := by
    unfold RowKit.Hid
    rw [hWa, hWb, hW0]
  have H3 := Lib.hid h3
  have hlt : w.heap.size + 1 + 1 < W0.heap.size := (Array.getElem?_eq_some_iff.1 h3).1
  have HE := Lib.hid hE
  clear hWa hWb hW0 hsa hsb ba bb b0 h1 h2 h3 hq hqb h2b hf hE hN N
  go_enter Tryd.func8, Tryd.ntmps8
  obtain ⟨⟨r0, r1, r2, r3, r4⟩, -⟩ := rcells H3.out
  clear hs2 hl2
  go_upto_region 2 with fail
  rw [HW.out]
  clear HW
  go_wp2_with fail
  refine cE1.out.mono ?_
  rintro e w1 ⟨rfl, hb1⟩
  have h3b := (hb1.block _ hlt).trans H3.out
  have B1 := Lib.hid (B0.out.trans (hb1.mono B0.out.size))
  clear hb1 r0 r1 r2 r3 r4 cE1
  obtain ⟨⟨r0, r1, r2, r3, r4⟩, f0, f1, f2, f3, f4⟩ := rcells h3b
  have h4 := rset4 (rset0 h3b (.int .i64 0)) (.slice none 0 0)
  have B2 := Lib.hid ((B1.out.setCell (p := ⟨w.heap.size + 1 + 1, 0, none⟩) (by show w.heap.size ≤ w.heap.size + 1 + 1; omega) (.int .i64 0)).setCell (p := ⟨w.heap.size + 1 + 1, 4, none⟩) (by show w.heap.size ≤ w.heap.size + 1 + 1; omega) (.slice none 0 0))
  obtain ⟨W3, hW3⟩ : ∃ W, (w1.setCell ⟨w.heap.size + 1 + 1, 0, none⟩ (.int .i64 0)).setCell ⟨w.heap.size + 1 + 1, 4, none⟩ (.slice none 0 0) = W := ⟨_, rfl⟩
  rw [hW3] at h4 B2
  have H4 := Lib.hid h4
  have HW3 := Lib.hid hW3
  clear h3b h4 hW3
  go_upto_region 7 with fail
  rw [HW3.out]
  clear r0 r1 r2 r3 r4 f0 f1 f2 f3 f4 HW3
  obtain ⟨⟨r0, r1, r2, r3, r4⟩, -⟩ := rcells H4.out
  go_wp2_with fail
  refine (cE2.out W3 (HE.out.after B2.out)).mono ?_
  rintro e w4 ⟨rfl, hb4⟩
  have B4 := Lib.hid (B2.out.trans (hb4.mono B2.out.size))
  clear hb4 r0 r1 r2 r3 r4 cE2
  go_wp2_with fail
  refine (cI.out w4 (HE.out.after B4.out)).mono ?_
  rintro e w5 ⟨v5, rfl, hn5, hb5⟩
  obtain ⟨a5, c5, rfl, -, -⟩ := hn5.here.length
  have B5 := Lib.hid (B4.out.trans (hb5.mono B4.out.size))
  clear hb5 hn5 cI
  go_wp2_with fail
  refine (cS.out w5).mono ?_
  rintro e w6 ⟨v6, rfl, hn6, hb6⟩
  have B6 := Lib.hid (B5.out.trans (hb6.mono B5.out.size))
  clear hb6 hn6 cS
  go_wp2
  exact HQ.out _ _ ⟨rfl, B6.out⟩
end

section
open Go.RowKit Go.PlainAid
theorem smallV_hz {r : Rec} (h : smallV r) : r.lang.length ≤ maxLen ∧ ∀ i, i < r.fields.length → ∀ j, j < (r.fields.getD i fd0).subs.length → ((r.fields.getD i fd0).subs.getD j sub0).2.length ≤ 1000000 :=
  ⟨Nat.le_trans h.2.1 (by unfold maxLen; omega), fun i hi j hj => Nat.le_trans ((h.2.2 i hi).2 j hj) (by decide)⟩
set_option maxHeartbeats 16000000 in
set_option maxRecDepth 100000 in
theorem lawEncodes_any (r : Rec) (u : Value) (w : World) (hE : Env w) (hu : FL u r.fields w) :
    Calls Tryd.prog 3 #[RV r u] w fun e w' => e = .returned (.bool true) ∧ Below w.heap.size w w' := by
  obtain ⟨Q, hQ⟩ : ∃ Q, (fun (e : Ending) (w' : World) => e = .returned (.bool true) ∧ Below w.heap.size w w') = Q := ⟨_, rfl⟩
  rw [hQ]
  have HQ : RowKit.Hid (∀ e w', (e = .returned (.bool true) ∧ Below w.heap.size w w') → Q e w') := by rw [← hQ]; exact fun _ _ h => h
  clear hQ
  have cA := Lib.hid (fun W hW => lalive_any W hW)
  have cS := fun W hW => lsmall_any r u W hW
  have cE := fun (h : smallV r) W hE hW => pEncode_any r u W hE hW (smallV_hz h).1 (smallV_hz h).2
  have cR := fun (h : smallV r) W hW => refEncode_any r u W hW (smallV_hz h).2
  obtain ⟨s, er, hs⟩ : ∃ s er, encX r = (s, er) := ⟨_, _, rfl⟩
  rw [hs] at cE cR
  simp only at cE cR
  have HU := Lib.hid hu
  obtain ⟨ua, uc, hue, -, -⟩ := hu.length
  subst hue
  obtain ⟨un, hun⟩ : ∃ n, r.fields.length = n := ⟨_, rfl⟩
  rw [hun] at HU cS cE cR ⊢
  unfold RV at cS cE cR ⊢
  obtain ⟨W0, hW0⟩ : ∃ W0, w.alloc (.cells #[.int .i64 r.id, .int .i64 r.ver, .int .i64 r.kind, .string (S r.lang), .slice ua un uc] 24) = W0 := ⟨_, rfl⟩
  have b0 : Below w.heap.size w W0 := by rw [← hW0]; exact (Below.refl w.heap.size w).alloc (Nat.le_refl _) _
  have hR0 : W0.heap[w.heap.size]? = some (.cells #[.int .i64 r.id, .int .i64 r.ver, .int .i64 r.kind, .string (S r.lang), .slice ua un uc] 24 (0, 0)) := by rw [← hW0]; exact heap_alloc_new w _
  have hlt0 : w.heap.size < W0.heap.size := by rw [← hW0]; simp
  have HR := Lib.hid (fun (W : World) (h : Below W0.heap.size W0 W) => rcells ((h.block w.heap.size hlt0).trans hR0))
  have HUw := Lib.hid (fun (W : World) (h : Below W0.heap.size W0 W) => (HU.out.after b0).after h)
  have HEw := Lib.hid (fun (W : World) (h : Below W0.heap.size W0 W) => (hE.after b0).after (h.mono (Nat.le_refl _)))
  have B0 := Lib.hid b0
  have HW0 := Lib.hid hW0
  replace cS := Lib.hid cS
  replace cE := Lib.hid cE
  replace cR := Lib.hid cR
  clear hW0 hR0 b0 hlt0 HU hu hun hE hs
  generalize S s = st at *
  go_enter Tryd.func3, Tryd.ntmps3
  go_upto_region 1 with fail
  rw [HW0.out]
  go_wp2_with fail
  refine (cA.out W0 (HEw.out W0 (Below.refl _ _))).mono ?_
  rintro e w1 ⟨rfl, hb1⟩
  have B1 := Lib.hid hb1
  clear hb1 HW0
  obtain ⟨⟨r0, r1, r2, r3, r4⟩, -⟩ := HR.out w1 B1.out
  go_wp2_with fail
  refine (cS.out w1 (HUw.out w1 B1.out)).mono ?_
  rintro e w2 ⟨b, rfl, hb2, hsm⟩
  have B2 := Lib.hid (B1.out.trans (hb2.mono B1.out.size))
  have HSm := Lib.hid hsm
  clear hb2 hsm r0 r1 r2 r3 r4 B1
  cases b with
  | false =>
    have BF := Lib.hid (B0.out.trans (B2.out.mono B0.out.size))
    clear HSm
    go_wp2
    first | exact HQ.out _ _ ⟨rfl, BF.out⟩ | (go_ret; exact HQ.out _ _ ⟨rfl, BF.out⟩)
  | true =>
    have hv := HSm.out rfl
    have c1 := Lib.hid (cE.out hv w2 (HEw.out w2 B2.out) (HUw.out w2 B2.out))
    have c2 := Lib.hid (fun W h => cR.out hv W h)
    clear HSm hv
    obtain ⟨⟨r0, r1, r2, r3, r4⟩, -⟩ := HR.out w2 B2.out
    go_wp2_with fail
    refine c1.out.mono ?_
    rintro e w3 ⟨rfl, hb3⟩
    have B3 := Lib.hid (B2.out.trans (hb3.mono B2.out.size))
    clear hb3 r0 r1 r2 r3 r4 c1
    obtain ⟨⟨r0, r1, r2, r3, r4⟩, -⟩ := HR.out w3 B3.out
    go_wp2_with fail
    refine (c2.out w3 (HUw.out w3 B3.out)).mono ?_
    rintro e w4 ⟨rfl, hb4⟩
    have BF := Lib.hid (B0.out.trans ((B3.out.trans (hb4.mono B3.out.size)).mono B0.out.size))
    clear hb4 r0 r1 r2 r3 r4 c2
    go_wp2
    first | exact HQ.out _ _ ⟨rfl, BF.out⟩ | (go_ret; exact HQ.out _ _ ⟨rfl, BF.out⟩)
end

section
theorem lift_shaped {H : Type} {enc : TypeId × Value → H} {a : Assume} {C : Checked} {os : Os} {f : FuncId} {fn : Func} {s : ChangeSpec} {apart fresh handsOn again : Bool} {X : World → Array Value → Prop}
    (hX : ∀ (w w' : World) (args : Array Value), w.heap = w'.heap → X w args → X w' args)
    (own : ownKnob C.prog.godebug = none) (started : os.Started) (noInit : C.prog.inits.idxOf? f = none) (hfn : C.prog.funcs[f]? = some fn)
    (witness : ∃ (w : World) (tape : Tape) (i : Input), w.os = os ∧ (w.forCall tape i).Shaped C.prog ∧ i.vars = [] ∧ Input.okWide C.prog (w.forCall tape i) .any w.heap.size f i ∧
      ((s.pre enc C.prog fn [] apart (w.forCall tape i).memory i.args ∧ X (w.forCall tape i).memory i.args) ∧ sizedMet enc C.prog fn (OpenSpec.ofChange s) apart (w.forCall tape i).memory i.args) ∧ a.holds C.prog (lone (Frame.enter C.prog f i.args .normal) [] (w.forCall tape i)))
    (contract : ∀ (W : World) (base : Nat) (args : Array Value) (ds gs : List (DataW H)) (before : List MemPlace),
      (∀ (j : Nat) t v, fn.params[j]? = some t → args[j]? = some v → Value.okWide C.prog W .any base t v) →
      DataW.Whole enc C.prog fn.params.toList s.vars apart W args.toList ds gs before → X W args → W.ShapedOpen C.prog →
      Calls C.prog f args W fun e W' => ∃ v, e = .returned v ∧ s.post enc C.prog fn apart fresh handsOn again W args v W') :
    ReturnsInHanded a C os f .any (fun w args => (s.pre enc C.prog fn [] apart w args ∧ X w args) ∧ sizedMet enc C.prog fn (OpenSpec.ofChange s) apart w args) (s.post enc C.prog fn apart fresh handsOn again) := by
  refine returnsInHanded_of_calls own started noInit witness ?_
  intro w tape i _ hsh _ hok hpre _
  obtain ⟨_, _, _, fn2, hfn2, _, _, _, _, hval⟩ := hok
  obtain rfl : fn2 = fn := Option.some.inj (hfn2.symm.trans hfn)
  obtain ⟨⟨⟨ds, gs, before, hw, _⟩, hx⟩, _⟩ := hpre
  refine (contract (w.forCall tape i) w.heap.size i.args ds gs before hval (DataW.Whole.of_heap (by rfl) hw) (hX _ _ _ (by rfl) hx) hsh).mono fun e W' hh => ?_
  obtain ⟨v, rfl, hp⟩ := hh
  exact ChangeSpec.post_blind hp
end

end Go.Proofs.YtiledacfdaenbaaDoor
