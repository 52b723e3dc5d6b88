/- Merged: AL16. -/
import Derived.Test.YtceneblmllpdnaaDoorQ25
import Derived.Test.YtceneblmllpdnaaDoorQ26
import Derived.Test.YtceneblmllpdnaaDoorQ30
import Derived.Test.YtceneblmllpdnaaDoorQ22
namespace Go.Proofs.YtceneblmllpdnaaDoor

section
open Go.RowKit Go.PlainAid
theorem tupA_inj {R : Rec} {P : Prt} {mv fv tv mv' fv' tv' : Value} (h : tupA R P mv fv tv = tupA R P mv' fv' tv') : mv' = mv ∧ fv' = fv ∧ tv' = tv := by
  unfold tupA RV PgV at h
  simp only [Value.tuple.injEq, Array.mk.injEq, List.cons.injEq, Value.agg.injEq, and_true, true_and] at h
  exact ⟨h.1.symm, h.2.1.symm, h.2.2.symm⟩
theorem dp0 {d : Nat → Bool} {i : Nat} (hi : dpA i = []) : ∀ k ∈ dpA i, d k = true := fun k hk => by rw [hi] at hk; cases hk
theorem dp3 {d : Nat → Bool} {i : Nat} (hi : dpA i = [3]) (h : d 3 = true) : ∀ k ∈ dpA i, d k = true := fun k hk => by
  rw [hi] at hk
  have e : k = 3 := by simpa using hk
  rw [e]; exact h
theorem dp38 {d : Nat → Bool} (h3 : d 3 = true) (h8 : d 8 = true) : ∀ k ∈ dpA 10, d k = true := fun k hk => by
  have e : k = 3 ∨ k = 8 := by simpa [dpA] using hk
  rcases e with rfl | rfl
  · exact h3
  · exact h8
theorem dp39 {d : Nat → Bool} (h3 : d 3 = true) (h9 : d 9 = true) : ∀ k ∈ dpA 11, d k = true := fun k hk => by
  have e : k = 3 ∨ k = 9 := by simpa [dpA] using hk
  rcases e with rfl | rfl
  · exact h3
  · exact h9
theorem ptr_inj16 {b b' : Nat} (h : Value.pointer (some ⟨b, 0, none⟩) = .pointer (some ⟨b', 0, none⟩)) : b = b' := by
  injection h with h1
  injection Option.some.inj h1
def exR16 : Rec := { into16 with fields := into16.fields ++ [one16 [54, 53, 48] [80, 101, 116, 115]] }
def exP16 : Prt := ⟨1, from16, [2]⟩
theorem exR16_eq : mrgR into16 from16 stdK = exR16 := by
  unfold mrgR
  rw [if_pos ex16_err, ex16_fields]
  rfl
theorem exP16_eq : mrgP into16 from16 stdK = exP16 := by
  unfold mrgP
  rw [if_pos ex16_err, ex16_taken]
  rfl
theorem bnd_into : BndR into16 := ⟨by decide, by decide, by decide, by decide⟩
theorem bnd_from : BndR from16 := ⟨by decide, by decide, by decide, by decide⟩
theorem bnd_exR : BndR exR16 := ⟨by decide, by decide, by decide, by decide⟩


theorem cOne1 (w : World) : Calls Tryd.prog 23 #[.string ⟨#[50, 52, 53]⟩, .string ⟨#[68, 111, 103, 115]⟩] w fun e w' => ∃ u, e = .returned (.agg #[.string ⟨#[50, 52, 53]⟩, .string ⟨#[32, 32]⟩, u, .int .i64 0]) ∧ SB w.heap.size u [(97, [68, 111, 103, 115])] w' ∧ Below w.heap.size w w' := lone16_any [50, 52, 53] [68, 111, 103, 115] w
theorem cOne2 (w : World) : Calls Tryd.prog 23 #[.string ⟨#[54, 53, 48]⟩, .string ⟨#[68, 111, 103, 115]⟩] w fun e w' => ∃ u, e = .returned (.agg #[.string ⟨#[54, 53, 48]⟩, .string ⟨#[32, 32]⟩, u, .int .i64 0]) ∧ SB w.heap.size u [(97, [68, 111, 103, 115])] w' ∧ Below w.heap.size w w' := lone16_any [54, 53, 48] [68, 111, 103, 115] w
theorem cOne3 (w : World) : Calls Tryd.prog 23 #[.string ⟨#[50, 52, 53]⟩, .string ⟨#[65, 108, 108, 32, 100, 111, 103, 115]⟩] w fun e w' => ∃ u, e = .returned (.agg #[.string ⟨#[50, 52, 53]⟩, .string ⟨#[32, 32]⟩, u, .int .i64 0]) ∧ SB w.heap.size u [(97, [65, 108, 108, 32, 100, 111, 103, 115])] w' ∧ Below w.heap.size w w' := lone16_any [50, 52, 53] [65, 108, 108, 32, 100, 111, 103, 115] w
theorem cOne4 (w : World) : Calls Tryd.prog 23 #[.string ⟨#[54, 53, 48]⟩, .string ⟨#[80, 101, 116, 115]⟩] w fun e w' => ∃ u, e = .returned (.agg #[.string ⟨#[54, 53, 48]⟩, .string ⟨#[32, 32]⟩, u, .int .i64 0]) ∧ SB w.heap.size u [(97, [80, 101, 116, 115])] w' ∧ Below w.heap.size w w' := lone16_any [54, 53, 48] [80, 101, 116, 115] w
theorem cOne5 (w : World) : Calls Tryd.prog 23 #[.string ⟨#[53, 48, 48]⟩, .string ⟨#[71, 111, 111, 100]⟩] w fun e w' => ∃ u, e = .returned (.agg #[.string ⟨#[53, 48, 48]⟩, .string ⟨#[32, 32]⟩, u, .int .i64 0]) ∧ SB w.heap.size u [(97, [71, 111, 111, 100])] w' ∧ Below w.heap.size w w' := lone16_any [53, 48, 48] [71, 111, 111, 100] w
theorem cMrgA (W : World) (hE : Env W) (ia fa : Option Addr) (ic fc : Nat) (hi : FL (.slice ia 2 ic) into16.fields W) (hf : FL (.slice fa 3 fc) from16.fields W) (kv : Value) (hk : KpL kv stdK W) :
    Calls Tryd.prog 13 #[.agg #[.int .i64 1, .int .i64 3, .int .i64 1, .string ⟨#[101, 110, 103]⟩, .slice ia 2 ic], .agg #[.int .i64 2, .int .i64 3, .int .i64 1, .string ⟨#[101, 110, 103]⟩, .slice fa 3 fc], kv] W fun e W' => ∃ mv fv tv, e = .returned (tupA exR16 exP16 mv fv tv) ∧ FT W.heap.size mv exR16.fields W' ∧ FT W.heap.size fv exP16.frm.fields W' ∧ TR W.heap.size tv exP16.taken W' ∧ Below W.heap.size W W' := by
  refine (pMerge_any into16 from16 stdK (.slice ia 2 ic) (.slice fa 3 fc) kv W hE hi hf hk bnd_into bnd_from).mono ?_
  rintro e W' ⟨mv, fv, tv, h1, h2, h3, h4, h5⟩
  rw [exR16_eq, exP16_eq, ex16_err] at h1
  rw [exR16_eq] at h2
  rw [exP16_eq] at h3 h4
  exact ⟨mv, fv, tv, h1, h2, h3, h4, h5⟩

theorem heap_after16 {W W' : World} {b : Nat} {o : Obj} (h : W.heap[b]? = some o) (hb : Below W.heap.size W W') : W'.heap[b]? = some o := (hb.block b (Array.getElem?_eq_some_iff.1 h).1).trans h
theorem ex16_right : rightP 1 from16 [2] = 0 := by decide +kernel
theorem ex16_whole : (backF from16.fields [2] exR16.fields).2 = true := by decide +kernel
theorem cWholeA (W : World) (hE : Env W) (ma : Option Addr) (mc : Nat) (fa : Option Addr) (fc : Nat) (ta : Option Addr) (tc : Nat) (hm : FL (.slice ma 3 mc) exR16.fields W) (hf : FL (.slice fa 3 fc) from16.fields W) (ht : TL (.slice ta 1 tc) [2] W) :
    Calls Tryd.prog 20 #[.agg #[.int .i64 1, .int .i64 3, .int .i64 1, .string ⟨#[101, 110, 103]⟩, .slice ma 3 mc], .agg #[.int .i64 1, .int .i64 2, .int .i64 3, .int .i64 1, .string ⟨#[101, 110, 103]⟩, .slice fa 3 fc, .slice ta 1 tc]] W fun e w' => e = .returned (.bool true) ∧ Below W.heap.size W w' := by
  have := pWhole_any exR16 (.slice ma 3 mc) exP16 (.slice fa 3 fc) (.slice ta 1 tc) W hE hm hf ht bnd_exR bnd_from (by decide) ex16_right rfl
  rw [show (backF exP16.frm.fields exP16.taken exR16.fields).2 = true from ex16_whole] at this
  exact this
theorem cRightA (W : World) (hE : Env W) (fa : Option Addr) (fc : Nat) (ta : Option Addr) (tc : Nat) (hf : FL (.slice fa 3 fc) from16.fields W) (ht : TL (.slice ta 1 tc) [2] W) :
    Calls Tryd.prog 24 #[.agg #[.int .i64 1, .int .i64 2, .int .i64 3, .int .i64 1, .string ⟨#[101, 110, 103]⟩, .slice fa 3 fc, .slice ta 1 tc]] W fun e w' => e = .returned (.int .i64 0) ∧ Below W.heap.size W w' :=
  pRightP_any exP16 (.slice fa 3 fc) (.slice ta 1 tc) W hE hf ht bnd_from (by decide) ex16_right

def good16 : Fld := one16 [53, 48, 48] [71, 111, 111, 100]
def exG16 : Rec := { exR16 with fields := exR16.fields ++ [good16] }
theorem bnd_exG : BndR exG16 := ⟨by decide, by decide, by decide, by decide⟩
theorem ex16_back : (backF from16.fields [2] exG16.fields).1 = into16.fields ++ [good16] := by kernel_rfl
theorem cSplitA (W : World) (hE : Env W) (ma : Option Addr) (mc : Nat) (fa : Option Addr) (fc : Nat) (ta : Option Addr) (tc : Nat) (hm : FL (.slice ma 4 mc) exG16.fields W) (hf : FL (.slice fa 3 fc) from16.fields W) (ht : TL (.slice ta 1 tc) [2] W) :
    Calls Tryd.prog 19 #[.agg #[.int .i64 1, .int .i64 3, .int .i64 1, .string ⟨#[101, 110, 103]⟩, .slice ma 4 mc], .agg #[.int .i64 1, .int .i64 2, .int .i64 3, .int .i64 1, .string ⟨#[101, 110, 103]⟩, .slice fa 3 fc, .slice ta 1 tc]] W fun e w' => ∃ ra rc ga gc, e = .returned (.tuple #[.agg #[.int .i64 1, .int .i64 3, .int .i64 1, .string ⟨#[101, 110, 103]⟩, .slice ra 3 rc], .agg #[.int .i64 2, .int .i64 3, .int .i64 1, .string ⟨#[101, 110, 103]⟩, .slice ga 3 gc], .int .i64 0]) ∧
      New W.heap.size (fun X => FL (.slice ra 3 rc) (into16.fields ++ [good16]) X) w' ∧ Below W.heap.size W w' := by
  refine (pSplit_any exG16 (.slice ma 4 mc) exP16 (.slice fa 3 fc) (.slice ta 1 tc) W hE hm hf ht bnd_exG bnd_from (by decide) ex16_right rfl).mono ?_
  rintro e W' ⟨rv, gv, h1, h2, h3⟩
  rw [show (backF exP16.frm.fields exP16.taken exG16.fields).1 = into16.fields ++ [good16] from ex16_back] at h2
  obtain ⟨ra, rc, hra, -, -⟩ := h2.here.1.length
  obtain ⟨ga, gc, hga, -, -⟩ := h2.here.2.length
  have e1 : rv = .slice ra 3 rc := hra
  have e2 : gv = .slice ga 3 gc := hga
  subst e1 e2
  exact ⟨ra, rc, ga, gc, h1, fun X hs hb => (h2 X hs hb).1, h3⟩
theorem cMrgB (W : World) (hE : Env W) (ia : Option Addr) (ic : Nat) (hi : FL (.slice ia 2 ic) into16.fields W) :
    Calls Tryd.prog 13 #[.agg #[.int .i64 1, .int .i64 3, .int .i64 1, .string ⟨#[101, 110, 103]⟩, .slice ia 2 ic], .agg #[.int .i64 1, .int .i64 3, .int .i64 1, .string ⟨#[101, 110, 103]⟩, .slice ia 2 ic], .slice none 0 0] W fun e W' => ∃ ma mc fa fc ta tc, e = .returned (.tuple #[.agg #[.int .i64 0, .int .i64 0, .int .i64 0, .string ⟨#[]⟩, .slice ma 0 mc], .agg #[.int .i64 0, .int .i64 0, .int .i64 0, .int .i64 0, .string ⟨#[]⟩, .slice fa 0 fc, .slice ta 0 tc], .int .i64 1]) ∧ Below W.heap.size W W' := by
  refine (pMerge_any into16 into16 [] (.slice ia 2 ic) (.slice ia 2 ic) (.slice none 0 0) W hE hi hi ⟨none, 0, rfl, Nat.le_refl _, Nat.zero_le _, fun _ => rfl, fun i hi => by cases hi⟩ bnd_into bnd_into).mono ?_
  rintro e W' ⟨mv, fv, tv, h1, h2, h3, h4, h5⟩
  have hz : ¬ errM into16 into16 [] = 0 := by rw [ex16_same]; decide
  have e1 : mrgR into16 into16 [] = rec0 := by unfold mrgR; rw [if_neg hz]
  have e2 : mrgP into16 into16 [] = prt0 := by unfold mrgP; rw [if_neg hz]
  rw [e1, e2, ex16_same] at h1
  rw [e1] at h2
  rw [e2] at h3 h4
  obtain ⟨ma, mc, rfl⟩ : ∃ a c, mv = .slice a 0 c := h2.form
  obtain ⟨fa, fc, rfl⟩ : ∃ a c, fv = .slice a 0 c := h3.form
  obtain ⟨ta, tc, rfl⟩ : ∃ a c, tv = .slice a 0 c := h4.form
  exact ⟨ma, mc, fa, fc, ta, tc, h1, h5⟩

set_option maxHeartbeats 64000000 in
set_option maxRecDepth 100000 in
theorem lalive16_any (w : World) (hE : Env w) : Calls Tryd.prog 7 #[] w fun e w' => e = .returned (.bool true) ∧ Below w.heap.size w w' := by
  have HE := Lib.hid hE
  have hE0 := Lib.hid hE
  clear hE
  go_enter Tryd.func7, Tryd.ntmps7
  go_wp2_with fail
  refine (cOne1 _).mono ?_
  rintro e w1 ⟨u1, rfl, hs1, hb1⟩
  obtain ⟨a1, c1, rfl⟩ : ∃ a c, u1 = .slice a 1 c := hs1.form
  go_wp2_with fail
  refine (cOne2 _).mono ?_
  rintro e w2 ⟨u2, rfl, hs2, hb2⟩
  obtain ⟨a2, c2, rfl⟩ : ∃ a c, u2 = .slice a 1 c := hs2.form
  have hB2 := hb1.trans (hb2.mono hb1.size)
  have hI0 : FT w.heap.size (.slice (some ⟨w2.heap.size, 0, none⟩) 2 2) into16.fields (w2.alloc (.cells #[.string ⟨#[50, 52, 53]⟩, .string ⟨#[32, 32]⟩, .slice a1 1 c1, .int .i64 0, .string ⟨#[54, 53, 48]⟩, .string ⟨#[32, 32]⟩, .slice a2 1 c2, .int .i64 0] 45)) :=
    FT.made w2 into16.fields [.slice a1 1 c1, .slice a2 1 c2] rfl hB2.size (by decide) (fun i hi => by
      match i, hi with
      | 0, _ => exact hs1.after hb2
      | 1, _ => exact hs2.base hb1.size)
  obtain ⟨W1, hW1⟩ : ∃ X, (w2.alloc (.cells #[.string ⟨#[50, 52, 53]⟩, .string ⟨#[32, 32]⟩, .slice a1 1 c1, .int .i64 0, .string ⟨#[54, 53, 48]⟩, .string ⟨#[32, 32]⟩, .slice a2 1 c2, .int .i64 0] 45)).alloc (.cells #[.int .i64 1, .int .i64 3, .int .i64 1, .string ⟨#[101, 110, 103]⟩, .slice (some ⟨w2.heap.size, 0, none⟩) 2 2] 31) = X := ⟨_, rfl⟩
  have hBW1 : Below w.heap.size w W1 := by rw [← hW1]; exact (hB2.alloc hB2.size _).alloc (by have := hB2.size; simp; omega) _
  have hI1 : FT w.heap.size (.slice (some ⟨w2.heap.size, 0, none⟩) 2 2) into16.fields W1 := by rw [← hW1]; exact hI0.after ((Below.refl _ _).alloc (Nat.le_refl _) _)
  have hX1 : W1.heap[w2.heap.size + 1]? = some (.cells #[.int .i64 1, .int .i64 3, .int .i64 1, .string ⟨#[101, 110, 103]⟩, .slice (some ⟨w2.heap.size, 0, none⟩) 2 2] 31 (0, 0)) := by
    rw [← hW1]
    have := heap_alloc_new (w2.alloc (.cells #[.string ⟨#[50, 52, 53]⟩, .string ⟨#[32, 32]⟩, .slice a1 1 c1, .int .i64 0, .string ⟨#[54, 53, 48]⟩, .string ⟨#[32, 32]⟩, .slice a2 1 c2, .int .i64 0] 45)) (.cells #[.int .i64 1, .int .i64 3, .int .i64 1, .string ⟨#[101, 110, 103]⟩, .slice (some ⟨w2.heap.size, 0, none⟩) 2 2] 31)
    simpa using this
  go_upto_region 2 with fail
  (try rw [hW1])
  obtain ⟨gI, hgI⟩ : ∃ x, w2.heap.size = x := ⟨_, rfl⟩
  (try rw [hgI])
  rw [hgI] at hI1 hX1
  have HB1 := Lib.hid hBW1
  have HI1 := Lib.hid hI1
  have HX1 := Lib.hid hX1
  clear hs1 hs2 hb1 hb2 hB2 hI0 hW1 hBW1 hI1 hX1 hgI
  go_wp2_with fail
  refine (cOne3 _).mono ?_
  rintro e w3 ⟨u3, rfl, hs1, hb1⟩
  obtain ⟨a3, c3, rfl⟩ : ∃ a c, u3 = .slice a 1 c := hs1.form
  go_wp2_with fail
  refine (cOne2 _).mono ?_
  rintro e w4 ⟨u4, rfl, hs2, hb2⟩
  obtain ⟨a4, c4, rfl⟩ : ∃ a c, u4 = .slice a 1 c := hs2.form
  go_wp2_with fail
  refine (cOne4 _).mono ?_
  rintro e w5 ⟨u5, rfl, hs3, hb3⟩
  obtain ⟨a5, c5, rfl⟩ : ∃ a c, u5 = .slice a 1 c := hs3.form
  have hB3 := HB1.out.trans (hb1.mono HB1.out.size)
  have hB4 := hB3.trans (hb2.mono hB3.size)
  have hB5 := hB4.trans (hb3.mono hB4.size)
  have hF0 : FT w.heap.size (.slice (some ⟨w5.heap.size, 0, none⟩) 3 3) from16.fields (w5.alloc (.cells #[.string ⟨#[50, 52, 53]⟩, .string ⟨#[32, 32]⟩, .slice a3 1 c3, .int .i64 0, .string ⟨#[54, 53, 48]⟩, .string ⟨#[32, 32]⟩, .slice a4 1 c4, .int .i64 0, .string ⟨#[54, 53, 48]⟩, .string ⟨#[32, 32]⟩, .slice a5 1 c5, .int .i64 0] 45)) :=
    FT.made w5 from16.fields [.slice a3 1 c3, .slice a4 1 c4, .slice a5 1 c5] rfl hB5.size (by decide) (fun i hi => by
      match i, hi with
      | 0, _ => exact ((hs1.after hb2).after hb3).base HB1.out.size
      | 1, _ => exact (hs2.after hb3).base hB3.size
      | 2, _ => exact hs3.base hB4.size)
  obtain ⟨wq, hwq⟩ : ∃ X, (w5.alloc (.cells #[.string ⟨#[50, 52, 53]⟩, .string ⟨#[32, 32]⟩, .slice a3 1 c3, .int .i64 0, .string ⟨#[54, 53, 48]⟩, .string ⟨#[32, 32]⟩, .slice a4 1 c4, .int .i64 0, .string ⟨#[54, 53, 48]⟩, .string ⟨#[32, 32]⟩, .slice a5 1 c5, .int .i64 0] 45)).alloc (.cells #[.int .i64 2, .int .i64 3, .int .i64 1, .string ⟨#[101, 110, 103]⟩, .slice (some ⟨w5.heap.size, 0, none⟩) 3 3] 31) = X := ⟨_, rfl⟩
  have hbq : Below w5.heap.size w5 wq := by rw [← hwq]; exact ((Below.refl _ w5).alloc (Nat.le_refl _) _).alloc (by simp) _
  have hBq : Below w.heap.size w wq := hB5.trans (hbq.mono hB5.size)
  have hF1 : FT w.heap.size (.slice (some ⟨w5.heap.size, 0, none⟩) 3 3) from16.fields wq := by rw [← hwq]; exact hF0.after ((Below.refl _ _).alloc (Nat.le_refl _) _)
  have hXF : wq.heap[w5.heap.size + 1]? = some (.cells #[.int .i64 2, .int .i64 3, .int .i64 1, .string ⟨#[101, 110, 103]⟩, .slice (some ⟨w5.heap.size, 0, none⟩) 3 3] 31 (0, 0)) := by
    rw [← hwq]
    have := heap_alloc_new (w5.alloc (.cells #[.string ⟨#[50, 52, 53]⟩, .string ⟨#[32, 32]⟩, .slice a3 1 c3, .int .i64 0, .string ⟨#[54, 53, 48]⟩, .string ⟨#[32, 32]⟩, .slice a4 1 c4, .int .i64 0, .string ⟨#[54, 53, 48]⟩, .string ⟨#[32, 32]⟩, .slice a5 1 c5, .int .i64 0] 45)) (.cells #[.int .i64 2, .int .i64 3, .int .i64 1, .string ⟨#[101, 110, 103]⟩, .slice (some ⟨w5.heap.size, 0, none⟩) 3 3] 31)
    simpa using this
  have hb15 : Below W1.heap.size W1 wq := hb1.trans ((hb2.trans ((hb3.trans (hbq.mono hb3.size)).mono hb2.size)).mono hb1.size)
  go_upto_region 3 with fail
  (try rw [hwq])
  obtain ⟨gF, hgF⟩ : ∃ x, w5.heap.size = x := ⟨_, rfl⟩
  (try rw [hgF])
  rw [hgF] at hF1 hXF
  have hXI := (hb15.block (gI + 1) (Array.getElem?_eq_some_iff.1 HX1.out).1).trans HX1.out
  have hlI := (Array.getElem?_eq_some_iff.1 hXI).1
  have hlF := (Array.getElem?_eq_some_iff.1 hXF).1
  have HI := Lib.hid (fun (W : World) (h : Below wq.heap.size wq W) => (h.block (gI + 1) hlI).trans hXI)
  have HF := Lib.hid (fun (W : World) (h : Below wq.heap.size wq W) => (h.block (gF + 1) hlF).trans hXF)
  have HBq := Lib.hid hBq
  have HIq := Lib.hid (HI1.out.after hb15)
  have HFq := Lib.hid hF1
  have cM := Lib.hid (fun (W : World) (h : Below wq.heap.size wq W) (kv : Value) (hk : KpL kv stdK W) => (cMrgA W (HE.out.after (hBq.trans (h.mono hBq.size))) (some ⟨gI, 0, none⟩) (some ⟨gF, 0, none⟩) 2 3 (HIq.out.after h).fl (hF1.after h).fl kv hk).mono (R' := fun e W' => ∃ mv fv tv, e = .returned (tupA exR16 exP16 mv fv tv) ∧ FT wq.heap.size mv exR16.fields W' ∧ FT wq.heap.size fv exP16.frm.fields W' ∧ TR wq.heap.size tv exP16.taken W' ∧ Below W.heap.size W W')
    (fun e W' ⟨mv, fv, tv, h1, h2, h3, h4, h5⟩ => ⟨mv, fv, tv, h1, h2.base h.size, h3.base h.size, h4.base h.size, h5⟩))
  clear hs1 hs2 hs3 hb1 hb2 hb3 hB3 hB4 hB5 hF0 hwq hbq hBq hF1 hXF hb15 hgF hXI hlI hlF HB1 HI1 HX1
  obtain ⟨R, hR⟩ : ∃ x, exR16 = x := ⟨_, rfl⟩
  obtain ⟨P, hP⟩ : ∃ x, exP16 = x := ⟨_, rfl⟩
  rw [hR, hP] at cM
  apply wp_region_im0 (imp := fun i => decide (i ∈ [2, 3, 4, 5, 6, 7, 8, 9, 10, 11, 12])) (X := fun d vs W => Xa R P wq d vs W) (V := [(fun v => v = .agg #[.int .i64 1, .int .i64 3, .int .i64 1, .string ⟨#[101, 110, 103]⟩, .slice (some ⟨gI, 0, none⟩) 2 2]), (fun v => v = .agg #[.int .i64 2, .int .i64 3, .int .i64 1, .string ⟨#[101, 110, 103]⟩, .slice (some ⟨gF, 0, none⟩) 3 3]), (fun _ => True), (fun _ => True), (fun _ => True), (fun _ => True), (fun _ => True), (fun _ => True), (fun _ => True), (fun _ => True), (fun _ => True), (fun _ => True), (fun _ => True)])
  case hX0 => exact fun vs => Xa.init vs
  case hXst => exact fun d vs u w h hb => h.below hb
  case hXo =>
    intro d vs w i v hi h
    have hi := of_decide_eq_false hi
    simp only [List.mem_cons, List.not_mem_nil, or_false, not_or] at hi
    exact h.other i v (by omega)
  case hm => kernel_rfl
  case hd => kernel_rfl
  case hb => kernel_rfl
  case hA =>
    intro vs
    simp only [puts, Act.put, List.setIfInBounds_toArray, List.set_cons_zero, List.set_cons_succ]
    exact rfl
  case hob =>
    refine ObsI.cons _ _ _ _ _ _ _ ?o0 (ObsI.cons _ _ _ _ _ _ _ ?o1 (ObsI.cons _ _ _ _ _ _ _ ?o2 (ObsI.cons _ _ _ _ _ _ _ ?o3 (ObsI.cons _ _ _ _ _ _ _ ?o4 (ObsI.cons _ _ _ _ _ _ _ ?o5 (ObsI.cons _ _ _ _ _ _ _ ?o6 (ObsI.cons _ _ _ _ _ _ _ ?o7 (ObsI.cons _ _ _ _ _ _ _ ?o8 (ObsI.cons _ _ _ _ _ _ _ ?o9 (ObsI.cons _ _ _ _ _ _ _ ?o10 (ObsI.cons _ _ _ _ _ _ _ ?o11 (ObsI.cons _ _ _ _ _ _ _ ?o12 (ObsI.nil _ _ _ _ _ _ _)))))))))))))
    case o0 =>
      intro d vs W hdk hdep hcl hv hX K hK
      obtain ⟨⟨x0, x1, x2, x3, x4⟩, -⟩ := rcells (HI.out W hX.low)
      go_simp
      exact hK.out _ _ (fun h => absurd h (by decide)) (fun _ => ⟨rfl, Below.refl _ _⟩)
    case o1 =>
      intro d vs W hdk hdep hcl hv hX K hK
      obtain ⟨⟨y0, y1, y2, y3, y4⟩, -⟩ := rcells (HF.out W hX.low)
      go_simp
      exact hK.out _ _ (fun h => absurd h (by decide)) (fun _ => ⟨rfl, Below.refl _ _⟩)
    case o2 =>
      intro d vs W hdk hdep hcl hv hX K hK
      have hd3 : d 3 = false := by
        cases hq : d 3 with
        | false => rfl
        | true => exact absurd (hcl 3 _ 2 rfl (by kernel_rfl) hq) (by rw [hdk]; decide)
      go_simp
      refine (pStandard16_any W).mono ?_
      rintro e W' ⟨kv, rfl, hk, hb'⟩
      exact hK.out _ _ (fun _ => hX.stepB 2 _ hdk hb' (by unfold pA; intro _; rw [upd_at]; exact hk) (dp0 rfl)) (fun h => absurd h (by decide))
    case o3 =>
      intro d vs W hdk hdep hcl hv hX K hK
      have h0 : vs 0 = .agg #[.int .i64 1, .int .i64 3, .int .i64 1, .string ⟨#[101, 110, 103]⟩, .slice (some ⟨gI, 0, none⟩) 2 2] := hv 0 (by kernel_rfl) (by decide)
      have h1 : vs 1 = .agg #[.int .i64 2, .int .i64 3, .int .i64 1, .string ⟨#[101, 110, 103]⟩, .slice (some ⟨gF, 0, none⟩) 3 3] := hv 1 (by kernel_rfl) (by decide)
      simp only [Nat.reduceAdd, h0, h1] at hK ⊢
      have hkp := (hX.p 2 (hdep 2 (by kernel_rfl))).1 hdk
      go_simp
      refine (cM.out W hX.low (vs 2) hkp).mono ?_
      rintro e W' ⟨mv, fv, tv, rfl, h1, h2, h3, hb'⟩
      exact hK.out _ _ (fun _ => hX.stepB 3 _ hdk hb' (by unfold pA; rw [upd_at]; exact ⟨mv, fv, tv, rfl, h1, h2, h3⟩) (dp0 rfl)) (fun h => absurd h (by decide))
    case o4 =>
      intro d vs W hdk hdep hcl hv hX K hK
      go_simp
      exact hK.out _ _ (fun _ => hX.stepB 4 _ hdk (Below.refl _ _) (show upd vs 4 (vs 3) 4 = upd vs 4 (vs 3) 3 by rw [upd_at, upd_ne _ _ _ _ (by decide)]) (dp3 rfl (hdep 3 (by kernel_rfl)))) (fun h => absurd h (by decide))
    case o5 =>
      intro d vs W hdk hdep hcl hv hX K hK
      have hd4 := hdep 4 (by kernel_rfl)
      have hd3 := (hX.p 4 hd4).2 3 (by simp [dpA])
      have e4 : vs 4 = vs 3 := (hX.p 4 hd4).1
      obtain ⟨mv, fv, tv, e3, hf1, hf2, ht3⟩ := (hX.p 3 hd3).1
      rw [e3] at e4
      unfold tupA at e4
      simp only [Nat.reduceAdd, e4] at hK ⊢
      have E3 := Lib.hid e3
      clear e3 e4
      go_simp
      exact hK.out (RV R mv) _ (fun _ => hX.stepB 5 _ hdk (Below.refl _ _) (by unfold pA; intro mv' fv' tv' e'; rw [upd_ne _ _ _ _ (by decide), E3.out] at e'; obtain ⟨e5, -, -⟩ := tupA_inj e'; rw [upd_at, e5]) (dp3 rfl hd3)) (fun h => absurd h (by decide))
    case o6 =>
      intro d vs W hdk hdep hcl hv hX K hK
      have hd4 := hdep 4 (by kernel_rfl)
      have hd3 := (hX.p 4 hd4).2 3 (by simp [dpA])
      have e4 : vs 4 = vs 3 := (hX.p 4 hd4).1
      obtain ⟨mv, fv, tv, e3, hf1, hf2, ht3⟩ := (hX.p 3 hd3).1
      rw [e3] at e4
      unfold tupA at e4
      simp only [Nat.reduceAdd, e4] at hK ⊢
      have E3 := Lib.hid e3
      clear e3 e4
      go_simp
      exact hK.out (PgV P fv tv) _ (fun _ => hX.stepB 6 _ hdk (Below.refl _ _) (by unfold pA; intro mv' fv' tv' e'; rw [upd_ne _ _ _ _ (by decide), E3.out] at e'; obtain ⟨-, e5, e6⟩ := tupA_inj e'; rw [upd_at, e5, e6]) (dp3 rfl hd3)) (fun h => absurd h (by decide))
    case o7 =>
      intro d vs W hdk hdep hcl hv hX K hK
      have hd4 := hdep 4 (by kernel_rfl)
      have hd3 := (hX.p 4 hd4).2 3 (by simp [dpA])
      have e4 : vs 4 = vs 3 := (hX.p 4 hd4).1
      obtain ⟨mv, fv, tv, e3, hf1, hf2, ht3⟩ := (hX.p 3 hd3).1
      rw [e3] at e4
      unfold tupA at e4
      simp only [Nat.reduceAdd, e4] at hK ⊢
      have E3 := Lib.hid e3
      clear e3 e4
      go_simp
      exact hK.out _ _ (fun _ => hX.stepB 7 _ hdk (Below.refl _ _) (show upd vs 7 (.int .i64 0) 7 = .int .i64 0 by rw [upd_at]) (dp0 rfl)) (fun h => absurd h (by decide))
    case o8 =>
      intro d vs W hdk hdep hcl hv hX K hK
      go_simp
      exact hK.out _ _ (fun _ => hX.stepB 8 _ hdk ((Below.refl _ W).alloc (Nat.le_refl _) _) (by unfold pA; rw [upd_at]; exact ⟨_, _, rfl, hX.low.size, heap_alloc_new W _, rfl⟩) (dp0 rfl)) (fun h => absurd h (by decide))
    case o9 =>
      intro d vs W hdk hdep hcl hv hX K hK
      go_simp
      exact hK.out _ _ (fun _ => hX.stepB 9 _ hdk ((Below.refl _ W).alloc (Nat.le_refl _) _) (by unfold pA; rw [upd_at]; exact ⟨_, _, rfl, hX.low.size, heap_alloc_new W _, rfl⟩) (dp0 rfl)) (fun h => absurd h (by decide))
    case o10 =>
      intro d vs W hdk hdep hcl hv hX K hK
      have hd5 := hdep 5 (by kernel_rfl)
      have hd8 := hdep 8 (by kernel_rfl)
      have hd3 := (hX.p 5 hd5).2 3 (by simp [dpA])
      obtain ⟨mv, fv, tv, e3, hf1, hf2, ht3⟩ := (hX.p 3 hd3).1
      have e5 := (hX.p 5 hd5).1 mv fv tv e3
      obtain ⟨b, cs, e8, hNb, hcs, hz⟩ := (hX.p 8 hd8).1
      apply step_store_row16 (ty := 31) (x := .tmp 3) (y := .tmp 26) (g := b) (cells := rvC R mv) (t := 31) (old := cs)
      case hgd => rfl
      case ho => rfl
      case hx => simp [Act.eval, e8]
      case hy => simp [Act.eval, e5, RV, rvC]
      case hg => exact hcs
      case hi => kernel_rfl
      case hold => exact hz
      case h1 => (obtain ⟨ao, co, hso⟩ := hf1.form; subst hso; simp [rvC, Value.oneCell'])
      case h => exact hK.out undef _ (fun _ => hX.step 10 undef hdk 31 (RelT.row hcs hz.symm) (below_setRow hX.low hNb _) (by decide) (by decide) (by decide) (fun _ => .inl hd3) (fun h => by rw [hdk] at h; cases h) (fun _ => by decide) (by unfold pA; intro mv' fv' tv' b' e1 e2; rw [upd_ne _ _ _ _ (by decide), e3] at e1; obtain ⟨g1, -, -⟩ := tupA_inj e1; rw [upd_ne _ _ _ _ (by decide), e8] at e2; obtain rfl := ptr_inj16 e2; subst g1; exact setRow_heap _ _ _ _ _ _ hcs) (dp38 hd3 hd8)) (fun h => absurd h (by decide))
    case o11 =>
      intro d vs W hdk hdep hcl hv hX K hK
      have hd6 := hdep 6 (by kernel_rfl)
      have hd9 := hdep 9 (by kernel_rfl)
      have hd3 := (hX.p 6 hd6).2 3 (by simp [dpA])
      obtain ⟨mv, fv, tv, e3, hf1, hf2, ht3⟩ := (hX.p 3 hd3).1
      have e6 := (hX.p 6 hd6).1 mv fv tv e3
      obtain ⟨b, cs, e9, hNb, hcs, hz⟩ := (hX.p 9 hd9).1
      apply step_store_row16 (ty := 36) (x := .tmp 4) (y := .tmp 27) (g := b) (cells := pgC P fv tv) (t := 36) (old := cs)
      case hgd => rfl
      case ho => rfl
      case hx => simp [Act.eval, e9]
      case hy => simp [Act.eval, e6, PgV, pgC]
      case hg => exact hcs
      case hi => kernel_rfl
      case hold => exact hz
      case h1 => (obtain ⟨ao, co, hso⟩ := hf2.form; obtain ⟨ao2, co2, hso2⟩ := ht3.form; subst hso hso2; simp [pgC, Value.oneCell'])
      case h => exact hK.out undef _ (fun _ => hX.step 11 undef hdk 36 (RelT.row hcs hz.symm) (below_setRow hX.low hNb _) (by decide) (by decide) (by decide) (fun _ => .inl hd3) (fun _ => by decide) (fun h => by rw [hdk] at h; cases h) (by unfold pA; intro mv' fv' tv' b' e1 e2; rw [upd_ne _ _ _ _ (by decide), e3] at e1; obtain ⟨-, g1, g2⟩ := tupA_inj e1; rw [upd_ne _ _ _ _ (by decide), e9] at e2; obtain rfl := ptr_inj16 e2; subst g1 g2; exact setRow_heap _ _ _ _ _ _ hcs) (dp39 hd3 hd9)) (fun h => absurd h (by decide))
    case o12 =>
      intro d vs W hdk hdep hcl hv hX K hK
      have hd7 := hdep 7 (by kernel_rfl)
      have e7 : vs 7 = .int .i64 0 := (hX.p 7 hd7).1
      simp only [Nat.reduceAdd, e7] at hK ⊢
      go_simp
      exact hK.out _ _ (fun _ => hX.stepB 12 _ hdk (Below.refl _ _) (show upd vs 12 (.int .i64 0) 12 = .int .i64 0 by rw [upd_at]) (dp0 rfl)) (fun h => absurd h (by decide))
  case hfin =>
    intro d vs W hall hX hv
    obtain ⟨mv, fv, tv, e3, hf1, hf2, ht3⟩ := (hX.p 3 (hall 3 (by decide))).1
    obtain ⟨bR, -, e8, hN8, -, -⟩ := (hX.p 8 (hall 8 (by decide))).1
    obtain ⟨bP, -, e9, hN9, -, -⟩ := (hX.p 9 (hall 9 (by decide))).1
    have hb10 := (hX.p 10 (hall 10 (by decide))).1 mv fv tv bR e3 e8
    have hb11 := (hX.p 11 (hall 11 (by decide))).1 mv fv tv bP e3 e9
    have e12 : vs 12 = .int .i64 0 := (hX.p 12 (hall 12 (by decide))).1
    have HL := Lib.hid hX.low
    simp only [Nat.reduceAdd, e8, e9, e12]
    subst hR hP
    obtain ⟨ma, mc, rfl⟩ : ∃ a c, mv = .slice a 3 c := hf1.form
    obtain ⟨ha0, hc0, rfl⟩ : ∃ a c, fv = .slice a 3 c := hf2.form
    obtain ⟨ta, tc, tg, tgo, htv, -, -, htg, htx⟩ := ht3.tl.opened
    obtain ⟨rfl, -⟩ := htg (by decide)
    have htc := htx W (Below.refl _ _) 0 (by decide)
    rw [htv] at hb11 ht3
    have hb10' : W.heap[bR]? = some (.cells #[.int .i64 1, .int .i64 3, .int .i64 1, .string ⟨#[101, 110, 103]⟩, .slice ma 3 mc] 31 (0, 0)) := hb10
    have hb11' : W.heap[bP]? = some (.cells #[.int .i64 1, .int .i64 2, .int .i64 3, .int .i64 1, .string ⟨#[101, 110, 103]⟩, .slice ha0 3 hc0, .slice (some ⟨tg, tgo, none⟩) 1 tc] 36 (0, 0)) := hb11
    have htc' : W.cell? ⟨tg, tgo, none⟩ = some (.int .i64 2) := htc
    have HEW := Lib.hid (HE.out.after (HBq.out.trans (HL.out.mono HBq.out.size)))
    have HBW := Lib.hid (HBq.out.trans (HL.out.mono HBq.out.size))
    have HIW := Lib.hid (HI.out W HL.out)
    have HIf := Lib.hid (HIq.out.after HL.out)
    have HM1 := Lib.hid hf1
    have HG1 := Lib.hid hf2
    have HT1 := Lib.hid ht3
    have HR1 := Lib.hid hb10'
    have HP1 := Lib.hid hb11'
    have hlI : gI + 1 < wq.heap.size := (Array.getElem?_eq_some_iff.1 (HI.out wq (Below.refl _ _))).1
    have HNn := Lib.hid (show wq.heap.size ≤ bR ∧ gI + 1 < wq.heap.size ∧ bP ≠ bR from ⟨hN8, hlI, typ_ne hb11' hb10' (by decide)⟩)
    clear hN8 hN9 hlI
    have HNs := Lib.hid (show w.heap.size ≤ wq.heap.size ∧ wq.heap.size ≤ W.heap.size from ⟨HBq.out.size, HL.out.size⟩)
    have cW := Lib.hid (cWholeA W HEW.out ma mc ha0 hc0 (some ⟨tg, tgo, none⟩) tc hf1.fl hf2.fl ht3.tl)
    have cR := Lib.hid (fun (X : World) (h : Below W.heap.size W X) => cRightA X (HEW.out.after h) ha0 hc0 (some ⟨tg, tgo, none⟩) tc (hf2.after h).fl (ht3.after h).tl)
    obtain ⟨⟨x0, x1, x2, x3, x4⟩, -⟩ := rcells hb10'
    obtain ⟨⟨p0, p1, p2, p3, p4, p5, p6⟩, -⟩ := pcells16 hb11'
    clear hall hX hv e3 e8 e9 e12 cM hf1 hf2 ht3 hb10 hb11 hb10' hb11' htc htx htg htv HI HF HIq HFq HBq HE HL
    go_wp2_with fail
    refine cW.out.mono ?_
    rintro e w6 ⟨rfl, hb6⟩
    have HB6 := Lib.hid hb6
    clear x0 x1 x2 x3 x4 p0 p1 p2 p3 p4 p5 p6 cW hb6
    obtain ⟨⟨p0, p1, p2, p3, p4, p5, p6⟩, -⟩ := pcells16 (heap_after16 HP1.out HB6.out)
    go_wp2_with fail
    refine (cR.out w6 HB6.out).mono ?_
    rintro e w7 ⟨rfl, hb7⟩
    have HB7 := Lib.hid (HB6.out.trans (hb7.mono HB6.out.size))
    clear p0 p1 p2 p3 p4 p5 p6 cR hb7 htc'
    have hR7 := heap_after16 HR1.out HB7.out
    obtain ⟨⟨x0, x1, x2, x3, x4⟩, q0, q1, q2, q3, q4⟩ := rcells hR7
    have hs7 := HB7.out.size
    have hNs := HNs.out
    obtain ⟨v8, w8, hr8, hft8, hg8, hat8⟩ := run_ftA2 (FT.empty w7 wq.heap.size (by omega)) ((HM1.out.after HB7.out).after ((Below.refl _ w7).alloc (Nat.le_refl _) _)) (by simp; omega) (by decide) 29 (by intro e; cases e)
    have hb8 : Below w7.heap.size w7 w8 := ((Below.refl w7.heap.size w7).alloc (Nat.le_refl _) (.cells #[] 45)).grown hg8 (by simp) (fun j hj => by have e2 : w7.heap.size = j := Option.some.inj hj; omega)
    have hob8 : ∀ j, v8.ownBlock = some j → w7.heap.size ≤ j := fun j hj => by
      rcases hat8 with e | e
      · rw [e] at hj
        have e2 : w7.heap.size = j := Option.some.inj hj
        omega
      · rw [e] at hj
        have e2 : (w7.alloc (.cells #[] 45)).heap.size = j := Option.some.inj hj
        simp at e2
        omega
    obtain ⟨a8, c8, rfl⟩ : ∃ a c, v8 = .slice a 3 c := hft8.form
    have HR8 := Lib.hid hr8
    have HF8 := Lib.hid hft8
    have HB8 := Lib.hid (HB7.out.trans (hb8.mono hs7))
    have Hb8 := Lib.hid hb8
    have HO8 := Lib.hid hob8
    have hlR7 : bR < w7.heap.size := (Array.getElem?_eq_some_iff.1 hR7).1
    clear hr8 hft8 hg8 hat8 hb8 hob8 hs7 hNs hR7 x0 x1 x2 x3 q0 q1 q2 q3 q4
    go_wp2_with (at_builtin; refine wpList_run16 rfl _ _ _ _ rfl _ _ rfl rfl HR8.out ?_)
    clear x4 HR8
    refine (cOne5 _).mono ?_
    rintro e w9 ⟨u9, rfl, hs9, hb9⟩
    obtain ⟨a9, c9, rfl⟩ : ∃ a c, u9 = .slice a 1 c := hs9.form
    obtain ⟨W9, hW9⟩ : ∃ X, w9.alloc (.cells #[.string ⟨#[53, 48, 48]⟩, .string ⟨#[32, 32]⟩, .slice a9 1 c9, .int .i64 0] 45) = X := ⟨_, rfl⟩
    have hB9 : Below w9.heap.size w9 W9 := by rw [← hW9]; exact (Below.refl _ _).alloc (Nat.le_refl _) _
    have hX9 : W9.heap[w9.heap.size]? = some (.cells (encF (one16 [53, 48, 48] [71, 111, 111, 100]) (.slice a9 1 c9)).toArray 45 (0, 0)) := by rw [← hW9]; exact heap_alloc_new w9 _
    have hq7 := HB7.out.size
    have hq8 := Hb8.out.size
    have hq9 := hb9.size
    have hq10 := hB9.size
    have hNs := HNs.out
    obtain ⟨v10, w10, hr10, hft10, hg10, -⟩ := run_ft2 (f := one16 [53, 48, 48] [71, 111, 111, 100]) ((HF8.out.after hb9).after hB9) ((hs9.after hB9).base (by omega)) (by omega) (by decide) 29 w9.heap.size hX9
    obtain ⟨a10, c10, rfl⟩ : ∃ a c, v10 = .slice a 4 c := hft10.form
    have hb10 : Below w7.heap.size w7 w10 := (Hb8.out.trans ((hb9.trans (hB9.mono hb9.size)).mono hq8)).grown hg10 (by omega) (fun j hj => HO8.out j hj)
    have HR10 := Lib.hid hr10
    have HF10 := Lib.hid hft10
    have HB10 := Lib.hid (HB7.out.trans (hb10.mono hq7))
    clear hs9 hb9 hB9 hX9 hr10 hft10 hg10 hb10 hq7 hq8 hq9 hq10 hNs HO8 Hb8 HB8 HF8 HB6 HB7
    have hR10 := heap_after16 HR1.out HB10.out
    obtain ⟨⟨x0, x1, x2, x3, x4⟩, q0, q1, q2, q3, q4⟩ := rcells hR10
    go_upto_region 7 with (at_builtin; go_must (refine wpList_run16 rfl _ _ _ _ rfl _ _ rfl rfl HR10.out ?_))
    clear x0 x1 x2 x3 x4 q0 q1 q2 q3 q4 HR10 hW9
    obtain ⟨W6, hW6⟩ : ∃ X, w10.setCell ⟨bR, 4, none⟩ (.slice a10 4 c10) = X := ⟨_, rfl⟩
    (try rw [hW6])
    have hs6 : W6.heap.size = w10.heap.size := by rw [← hW6]; simp [World.setCell]
    have ho6 : ∀ i, i ≠ bR → W6.heap[i]? = w10.heap[i]? := fun i hi => by rw [← hW6]; exact heap_setn _ _ _ _ hi
    have hr6 : W6.heap[bR]? = some (.cells #[.int .i64 1, .int .i64 3, .int .i64 1, .string ⟨#[101, 110, 103]⟩, .slice a10 4 c10] 31 (0, 0)) := by
      rw [← hW6]
      simp [World.setCell, Array.getElem?_modify, hR10]
    have hNs := HNs.out
    have hNn := HNn.out
    have hk6 : ∀ B, KpF B w10 W6 := fun B => KpF.but (g := bR) (Nat.le_of_eq hs6.symm) (fun i hi _ => ho6 i hi) hR10 (by decide) (by decide)
    have hb6' : Below w.heap.size w W6 := by rw [← hW6]; exact (HBW.out.trans (HB10.out.mono (by omega))).setCell (p := ⟨bR, 4, none⟩) (by show w.heap.size ≤ bR; omega) _
    have hp6 := (ho6 bP hNn.2.2).trans (heap_after16 HP1.out HB10.out)
    have hi6 := (ho6 (gI + 1) (by omega)).trans (heap_after16 HIW.out HB10.out)
    have hF6 : FT wq.heap.size (.slice a10 4 c10) exG16.fields W6 := HF10.out.kept (hk6 _)
    have hg6 := (HG1.out.after HB10.out).kept (hk6 _)
    have ht6 := (HT1.out.after HB10.out).keptT (W := W6) (fun b cs _ hb => ho6 b (typ_ne hb hR10 (by decide)))
    have hI6 := (HIf.out.after HB10.out).kept (hk6 _)
    have HE6 := Lib.hid (hE0.out.after hb6')
    have HB6 := Lib.hid hb6'
    have HI6 := Lib.hid hI6
    have HJ6 := Lib.hid hi6
    have HX6 := Lib.hid hF6
    have cS := Lib.hid (cSplitA W6 HE6.out a10 c10 ha0 hc0 (some ⟨tg, tgo, none⟩) tc hF6.fl hg6.fl ht6.tl)
    obtain ⟨⟨x0, x1, x2, x3, x4⟩, -⟩ := rcells hr6
    obtain ⟨⟨p0, p1, p2, p3, p4, p5, p6⟩, -⟩ := pcells16 hp6
    clear hs6 ho6 hr6 hNs hNn hk6 hb6' hp6 hi6 hF6 hg6 ht6 hI6 hR10 hW6 HNs HNn HBW HIW HEW HIf HM1 HG1 HT1 HR1 HP1 HF10 HB10 hlR7
    go_wp2_with fail
    refine cS.out.mono ?_
    rintro e w11 ⟨ra, rc, ga, gc, rfl, hn11, hb11⟩
    clear x0 x1 x2 x3 x4 p0 p1 p2 p3 p4 p5 p6 cS
    obtain ⟨wA, hwA⟩ : ∃ X, (w11.alloc (.cells #[.int .i64 0, .int .i64 0, .int .i64 0, .string ⟨#[]⟩, .slice none 0 0] 31)).alloc (.cells #[.int .i64 0, .int .i64 0, .int .i64 0, .string ⟨#[]⟩, .slice none 0 0] 31) = X := ⟨_, rfl⟩
    have hzA : wA.heap.size = w11.heap.size + 2 := by rw [← hwA]; simp
    have hbA : Below w11.heap.size w11 wA := by rw [← hwA]; exact ((Below.refl _ _).alloc (Nat.le_refl _) _).alloc (by simp) _
    have hz1 : wA.heap[w11.heap.size]? = some (.cells #[.int .i64 0, .int .i64 0, .int .i64 0, .string ⟨#[]⟩, .slice none 0 0] 31 (0, 0)) := by
      rw [← hwA]
      exact (Below.heap_alloc _ _ _ (by simp)).trans (heap_alloc_new w11 _)
    have hz2 : wA.heap[w11.heap.size + 1]? = some (.cells #[.int .i64 0, .int .i64 0, .int .i64 0, .string ⟨#[]⟩, .slice none 0 0] 31 (0, 0)) := by
      rw [← hwA]
      have := heap_alloc_new (w11.alloc (.cells #[.int .i64 0, .int .i64 0, .int .i64 0, .string ⟨#[]⟩, .slice none 0 0] 31)) (.cells #[.int .i64 0, .int .i64 0, .int .i64 0, .string ⟨#[]⟩, .slice none 0 0] 31)
      simpa using this
    obtain ⟨ca, hca⟩ : ∃ x, (#[.int .i64 1, .int .i64 3, .int .i64 1, .string ⟨#[101, 110, 103]⟩, .slice ra 3 rc] : Array Value) = x := ⟨_, rfl⟩
    obtain ⟨cb, hcb⟩ : ∃ x, (#[.int .i64 2, .int .i64 3, .int .i64 1, .string ⟨#[101, 110, 103]⟩, .slice ga 3 gc] : Array Value) = x := ⟨_, rfl⟩
    have hz2' : (wA.setRow w11.heap.size ca).heap[w11.heap.size + 1]? = some (.cells #[.int .i64 0, .int .i64 0, .int .i64 0, .string ⟨#[]⟩, .slice none 0 0] 31 (0, 0)) := (setRow_other _ _ _ _ (by omega)).trans hz2
    have HZ1 := Lib.hid hz1
    have HZ2 := Lib.hid hz2'
    go_upto_region 8 with (first | (refine wpList_store_row rfl 31 (.tmp 6) (.tmp 78) rfl w11.heap.size ca rfl (by rw [← hca]; rfl) 31 _ (by (try rw [hwA]); exact HZ1.out) (by rw [← hca]; kernel_rfl) (by rw [← hca]; rfl) (by rw [← hca]; simp [Value.oneCell']) ?_) | (refine wpList_store_row rfl 31 (.tmp 7) (.tmp 79) rfl (w11.heap.size + 1) cb rfl (by rw [← hcb]; rfl) 31 _ (by (try rw [hwA]); exact HZ2.out) (by rw [← hcb]; kernel_rfl) (by rw [← hcb]; rfl) (by rw [← hcb]; simp [Value.oneCell']) ?_))
    obtain ⟨W7, hW7⟩ : ∃ X, (wA.setRow w11.heap.size ca).setRow (w11.heap.size + 1) cb = X := ⟨_, rfl⟩
    (try rw [hwA])
    (try rw [hW7])
    have hx7 : W7.heap[w11.heap.size]? = some (.cells ca 31 (0, 0)) := by
      rw [← hW7]
      exact (setRow_other _ _ _ _ (by omega)).trans (setRow_heap _ _ _ _ _ _ hz1)
    have hy7 : W7.heap[w11.heap.size + 1]? = some (.cells cb 31 (0, 0)) := by
      rw [← hW7]
      exact setRow_heap _ _ _ _ _ _ hz2'
    rw [← hca] at hx7
    rw [← hcb] at hy7
    have hb7 : Below w11.heap.size w11 W7 := by
      rw [← hW7]
      exact below_setRow (below_setRow hbA (Nat.le_refl _) _) (by omega) _
    have hB7 := hb11.trans (hb7.mono hb11.size)
    have hf7 : FL (.slice ra 3 rc) (into16.fields ++ [good16]) W7 := hn11 W7 hb7.size (fun i _ hi => hb7.block i hi)
    have HX7 := Lib.hid hx7
    have HY7 := Lib.hid hy7
    have HF7 := Lib.hid hf7
    have HB7 := Lib.hid (HB6.out.trans (hB7.mono HB6.out.size))
    have HE7 := Lib.hid (HE6.out.after hB7)
    have cB := Lib.hid (cMrgB W7 HE7.out (some ⟨gI, 0, none⟩) 2 (HI6.out.after hB7).fl)
    obtain ⟨⟨x0, x1, x2, x3, x4⟩, -⟩ := rcells (heap_after16 HJ6.out hB7)
    obtain ⟨n11, hn⟩ : ∃ x, w11.heap.size = x := ⟨_, rfl⟩
    rw [hn] at HX7 HY7
    (try rw [hn])
    clear hx7 hy7 hb7 hB7 hf7 hz1 hz2 hz2' hbA hzA hn11 hb11 HZ1 HZ2 hwA hW7 hca hcb HI6 HJ6 HX6 HB6 HE6 hn
    go_wp2_with fail
    refine cB.out.mono ?_
    rintro e w12 ⟨ma', mc', fa', fc', ta', tc', rfl, hb12⟩
    clear x0 x1 x2 x3 x4 cB
    obtain ⟨wB, hwB⟩ : ∃ X, (w12.alloc (.cells #[.int .i64 0, .int .i64 0, .int .i64 0, .string ⟨#[]⟩, .slice none 0 0] 31)).alloc (.cells #[.int .i64 0, .int .i64 0, .int .i64 0, .int .i64 0, .string ⟨#[]⟩, .slice none 0 0, .slice none 0 0] 36) = X := ⟨_, rfl⟩
    have hzB : wB.heap.size = w12.heap.size + 2 := by rw [← hwB]; simp
    have hbB : Below w12.heap.size w12 wB := by rw [← hwB]; exact ((Below.refl _ _).alloc (Nat.le_refl _) _).alloc (by simp) _
    have hz1 : wB.heap[w12.heap.size]? = some (.cells #[.int .i64 0, .int .i64 0, .int .i64 0, .string ⟨#[]⟩, .slice none 0 0] 31 (0, 0)) := by
      rw [← hwB]
      exact (Below.heap_alloc _ _ _ (by simp)).trans (heap_alloc_new w12 _)
    have hz2 : wB.heap[w12.heap.size + 1]? = some (.cells #[.int .i64 0, .int .i64 0, .int .i64 0, .int .i64 0, .string ⟨#[]⟩, .slice none 0 0, .slice none 0 0] 36 (0, 0)) := by
      rw [← hwB]
      have := heap_alloc_new (w12.alloc (.cells #[.int .i64 0, .int .i64 0, .int .i64 0, .string ⟨#[]⟩, .slice none 0 0] 31)) (.cells #[.int .i64 0, .int .i64 0, .int .i64 0, .int .i64 0, .string ⟨#[]⟩, .slice none 0 0, .slice none 0 0] 36)
      simpa using this
    obtain ⟨cc, hcc⟩ : ∃ x, (#[.int .i64 0, .int .i64 0, .int .i64 0, .string ⟨#[]⟩, .slice ma' 0 mc'] : Array Value) = x := ⟨_, rfl⟩
    obtain ⟨cd, hcd⟩ : ∃ x, (#[.int .i64 0, .int .i64 0, .int .i64 0, .int .i64 0, .string ⟨#[]⟩, .slice fa' 0 fc', .slice ta' 0 tc'] : Array Value) = x := ⟨_, rfl⟩
    have hz2' : (wB.setRow w12.heap.size cc).heap[w12.heap.size + 1]? = some (.cells #[.int .i64 0, .int .i64 0, .int .i64 0, .int .i64 0, .string ⟨#[]⟩, .slice none 0 0, .slice none 0 0] 36 (0, 0)) := (setRow_other _ _ _ _ (by omega)).trans hz2
    have HZ1 := Lib.hid hz1
    have HZ2 := Lib.hid hz2'
    go_upto_region 9 with (first | (refine wpList_store_row rfl 31 (.tmp 9) (.tmp 85) rfl w12.heap.size cc rfl (by rw [← hcc]; rfl) 31 _ (by (try rw [hwB]); exact HZ1.out) (by rw [← hcc]; kernel_rfl) (by rw [← hcc]; rfl) (by rw [← hcc]; simp [Value.oneCell']) ?_) | (refine wpList_store_row rfl 36 (.tmp 10) (.tmp 86) rfl (w12.heap.size + 1) cd rfl (by rw [← hcd]; rfl) 36 _ (by (try rw [hwB]); exact HZ2.out) (by rw [← hcd]; kernel_rfl) (by rw [← hcd]; rfl) (by rw [← hcd]; simp [Value.oneCell']) ?_))
    obtain ⟨W8, hW8⟩ : ∃ X, (wB.setRow w12.heap.size cc).setRow (w12.heap.size + 1) cd = X := ⟨_, rfl⟩
    (try rw [hwB])
    (try rw [hW8])
    have hb8 : Below w12.heap.size w12 W8 := by
      rw [← hW8]
      exact below_setRow (below_setRow hbB (Nat.le_refl _) _) (by omega) _
    have hB8 := hb12.trans (hb8.mono hb12.size)
    obtain ⟨fga, fgc, fg, fo, fus, hfe, -, -, hfp, hfx⟩ := (HF7.out.after hB8).open16
    obtain ⟨e1, -, -⟩ := Value.slice.inj hfe
    have e2 := hfp (by decide)
    subst e1 e2
    have ht5 : W8.cell? ⟨fg, fo + 8, none⟩ = some (.string ⟨#[53, 48, 48]⟩) := (hfx W8 (Below.refl _ _) 2 (by decide)).1.1
    have HB8 := Lib.hid (HB7.out.trans (hB8.mono HB7.out.size))
    obtain ⟨⟨x0, x1, x2, x3, x4⟩, -⟩ := rcells (heap_after16 HX7.out hB8)
    obtain ⟨⟨y0, y1, y2, y3, y4⟩, -⟩ := rcells (heap_after16 HY7.out hB8)
    clear hb8 hB8 hb12 hbB hzB hz1 hz2 hz2' HZ1 HZ2 hwB hW8 hcc hcd hfe hfp hfx HX7 HY7 HF7 HB7 HE7
    go_wp2_with fail
    refine (pStandard16_any W8).mono ?_
    rintro e w13 ⟨kv, rfl, hk13, hb13⟩
    have HB13 := Lib.hid (HB8.out.trans (hb13.mono HB8.out.size))
    have cH := Lib.hid (pHow16_any stdK kv [56, 53, 54] w13 hk13)
    rw [ex16_856] at cH
    clear hk13 hb13 HB8 x0 x1 x2 x3 x4 y0 y1 y2 y3 y4 ht5
    go_wp2_with fail
    refine cH.out.mono ?_
    rintro e w14 ⟨rfl, hb14⟩
    have HB14 := Lib.hid (HB13.out.trans (hb14.mono HB13.out.size))
    clear hb14 HB13 cH
    have cN := Lib.hid (pHow16_any [] (.slice none 0 0) [50, 52, 53] w14 ⟨none, 0, rfl, Nat.le_refl _, Nat.zero_le _, fun _ => rfl, fun i hi => by cases hi⟩)
    rw [ex16_none] at cN
    go_wp2_with fail
    refine cN.out.mono ?_
    rintro e w15 ⟨rfl, hb15⟩
    have HB15 := Lib.hid (HB14.out.trans (hb15.mono HB14.out.size))
    clear hb15 HB14 cN
    go_wp2_with fail
    (try simp only [Exit.inBlock, Exit.then])
    go_ret
    exact ⟨rfl, HB15.out⟩
end

end Go.Proofs.YtceneblmllpdnaaDoor
