/- The statement CollateOrders of layer 2 over this translation: it returns true, wherever the program's table lies. -/
import Derived.Test.YtjfeckccmfbkhaaDoorLaw02
import Derived.Deep.RegionHeld3
import Derived.Deep.CutBlock
import Derived.Deep.DeepCutAuto
namespace Go.Proofs.YtjfeckccmfbkhaaDoor
open Go.RowKit

/-- What every world on the way keeps: all that lay in w, and the program's table. -/
def OKW (w w' : World) : Prop := w.heap.size < w'.heap.size ∧ Below w.heap.size w w' ∧ Acc w'
theorem OKW_drew (w w' : World) : OKW w w'.drew ↔ OKW w w' :=
  ⟨fun ⟨a, b, c⟩ => ⟨a, ⟨b.os, b.tape, b.output, b.size, b.block⟩, c⟩, fun ⟨a, b, c⟩ => ⟨a, ⟨b.os, b.tape, b.output, b.size, b.block⟩, c⟩⟩
/-- The characters of a text. -/
noncomputable def chars (s : ByteArray) : List Nat := open Classical in if h : ∃ cs, OKs cs ∧ s = T cs then Classical.choose h else []
theorem chars_T (cs : List Nat) (h : OKs cs) : chars (T cs) = cs := by
  have hx : ∃ ds, OKs ds ∧ T cs = T ds := ⟨cs, h, rfl⟩
  unfold chars
  rw [dif_pos hx]
  have := Classical.choose_spec hx
  exact ((T_inj h this.1).1 this.2).symm
/-- The order of two strings. -/
noncomputable def cmpS (lang x y : ByteArray) : Int := cmpE (ent lang (chars x)) (ent lang (chars y))
theorem cmpS_any (lang x y : ByteArray) (hx : smallS x = true) (hy : smallS y = true) (w : World) (hE : Acc w) :
    Calls Tryd.prog 19 #[.string lang, .string x, .string y] w fun e w' => e = .returned (.int .i64 (cmpS lang x y)) ∧ Below w.heap.size w w' := by
  obtain ⟨cx, hcx, rfl, hlx, _⟩ := smallS_text hx
  obtain ⟨cy, hcy, rfl, hly, _⟩ := smallS_text hy
  refine ccompare_any lang cx cy hcx hcy (by omega) (by omega) _ _ rfl rfl _ ?_ w hE
  unfold cmpS
  rw [chars_T cx hcx, chars_T cy hcy]
theorem cmpS_zero (lang x y : ByteArray) (hx : smallS x = true) (hy : smallS y = true) : (x.toList == y.toList) = decide (cmpS lang x y = 0) := by
  obtain ⟨cx, hcx, rfl, hlx, _⟩ := smallS_text hx
  obtain ⟨cy, hcy, rfl, hly, _⟩ := smallS_text hy
  unfold cmpS
  rw [chars_T cx hcx, chars_T cy hcy, str_eq]
  by_cases h : T cx = T cy
  · rw [decide_eq_true h, decide_eq_true ((cmpE_ent_zero lang cx cy hcx hcy).2 h)]
  · rw [decide_eq_false h, decide_eq_false (fun h0 => h ((cmpE_ent_zero lang cx cy hcx hcy).1 h0))]
def OSt (w : World) (a b c : ByteArray) (w' : World) : Prop :=
  w'.cell? ⟨w.heap.size, 0, none⟩ = some (.string a) ∧ w'.cell? ⟨w.heap.size, 1, none⟩ = some (.string b) ∧ w'.cell? ⟨w.heap.size, 2, none⟩ = some (.string c) ∧ OKW w w'
theorem OSt.after {w : World} {a b c : ByteArray} {w1 w2 : World} (h : OSt w a b c w1) (hb : Below w1.heap.size w1 w2) : OSt w a b c w2 := by
  obtain ⟨h0, h1, h2, hs, hb1, hA⟩ := h
  refine ⟨(hb.cell (p := ⟨w.heap.size, 0, none⟩) hs).trans h0, (hb.cell (p := ⟨w.heap.size, 1, none⟩) hs).trans h1, (hb.cell (p := ⟨w.heap.size, 2, none⟩) hs).trans h2, Nat.lt_of_lt_of_le hs hb.size, hb1.trans (hb.mono (Nat.le_of_lt hs)), hA.after hb⟩
theorem SL_arr (w : World) (a b c : ByteArray) (t : TypeId) : SL (.slice (some ⟨w.heap.size, 0, none⟩) 3 3) [a, b, c] (w.alloc (.cells #[.string a, .string b, .string c] t)) := by
  refine ⟨_, 3, rfl, by simp, fun i x hi => ⟨w.heap.size, 0, rfl, by simp, ?_⟩⟩
  match i, hi with
  | 0, hi => simp at hi; subst hi; simp
  | 1, hi => simp at hi; subst hi; simp
  | 2, hi => simp at hi; subst hi; simp
  | (i + 3), hi => simp at hi
theorem small_three (a b c : ByteArray) : smallB [a, b, c] = (smallS a && (smallS b && smallS c)) := by unfold smallB; simp

theorem orders_facts (x y z : ByteArray × ByteArray) (ab bc ac ba : Int) (h1 : cmpE x y = ab) (h2 : cmpE y z = bc) (h3 : cmpE x z = ac) (h4 : cmpE y x = ba) :
    ba = - ab ∧ -1 ≤ ab ∧ ab ≤ 1 ∧ -1 ≤ bc ∧ bc ≤ 1 ∧ -1 ≤ ac ∧ ac ≤ 1 ∧ (ab ≤ 0 → bc ≤ 0 → ac ≤ 0) ∧ (ab < 0 → bc ≤ 0 → ac < 0) := by
  subst h1 h2 h3 h4
  have r1 := cmpE_range x y
  have r2 := cmpE_range y z
  have r3 := cmpE_range x z
  have a1 := cmpE_anti x y
  refine ⟨a1, r1.1, r1.2, r2.1, r2.2, r3.1, r3.2, fun h h' => cmpE_trans x y z h h', fun h h' => ?_⟩
  have h3 := cmpE_trans x y z (by omega) h'
  have h4 : cmpE x z ≠ 0 := by
    intro h0
    have e := cmpE_eq h0
    subst e
    omega
  omega

set_option maxHeartbeats 16000000 in
set_option maxRecDepth 100000 in
theorem orders_any (lang a b c : ByteArray) (w : World) (hE : Acc w) :
    Calls Tryd.prog 7 #[.string lang, .agg #[.string a, .string b, .string c]] w fun e w' => e = .returned (.bool true) ∧ Below w.heap.size w w' := by
  have HE := Lib.hid hE
  have CA := Lib.hid (fun W hE => alive_any W hE)
  clear hE
  cases hb : (smallS a && (smallS b && smallS c))
  · have cS := Lib.hid (small_any _ [a, b, c] _ (SL_arr w a b c 33) false (by rw [small_three]; exact hb))
    clear hb
    go_enter Tryd.func7, Tryd.ntmps7
    go_wp2_with fail
    refine cS.out.mono ?_
    rintro e w1 ⟨rfl, b1'⟩
    have b1 := below_new _ b1'
    clear b1'
    go_wp2_with fail
    refine (CA.out _ (HE.out.after b1)).mono ?_
    rintro e w2 ⟨rfl, b2'⟩
    have b2 := b1.trans (b2'.mono b1.size)
    clear b2' b1
    go_wp2
    go_ret
    exact ⟨rfl, b2⟩
  · have cS := Lib.hid (small_any _ [a, b, c] _ (SL_arr w a b c 33) true (by rw [small_three]; exact hb))
    rw [Bool.and_eq_true, Bool.and_eq_true] at hb
    obtain ⟨sa, sb, sc⟩ := hb
    have HFacts := Lib.hid (orders_facts _ _ _ (cmpS lang a b) (cmpS lang b c) (cmpS lang a c) (cmpS lang b a) rfl rfl rfl rfl)
    have HZ := Lib.hid (cmpS_zero lang a b sa sb)
    have cC : ∀ W x y, smallS x = true → smallS y = true → OSt w a b c W → Calls Tryd.prog 19 #[.string lang, .string x, .string y] W fun e w' => e = .returned (.int .i64 (cmpS lang x y)) ∧ OSt w a b c w' :=
      fun W x y hx hy hS => (cmpS_any lang x y hx hy W hS.2.2.2.2.2).mono fun e w' ⟨h, hb⟩ => ⟨h, hS.after hb⟩
    have CC := Lib.hid cC
    clear cC
    go_enter Tryd.func7, Tryd.ntmps7
    go_wp2_with fail
    refine cS.out.mono ?_
    rintro e w1 ⟨rfl, b1'⟩
    have hS1 : OSt w a b c w1 := by
      have hsz := b1'.size
      have hlt : w.heap.size < (w.alloc (.cells #[.string a, .string b, .string c] 33)).heap.size := by simp
      refine ⟨?_, ?_, ?_, by omega, below_new _ b1', HE.out.after (below_new _ b1')⟩
      · rw [b1'.cell (p := ⟨w.heap.size, 0, none⟩) hlt]; simp
      · rw [b1'.cell (p := ⟨w.heap.size, 1, none⟩) hlt]; simp
      · rw [b1'.cell (p := ⟨w.heap.size, 2, none⟩) hlt]; simp
    clear b1' cS
    obtain ⟨k0, k1, k2, k3⟩ := hS1
    go_upto_region 3 with fail
    go_cut [5, 6, 7, 8] from 13 to 36 (fun s5 s6 s7 s8 wx => s5 = .int .i64 (cmpS lang a b) ∧ s6 = .int .i64 (cmpS lang b c) ∧ s7 = .int .i64 (cmpS lang a c) ∧ s8 = .int .i64 (cmpS lang b a) ∧ OSt w a b c wx)
    case first =>
      go_region_held3 (fun w' => w'.cell? ⟨w.heap.size, 0, none⟩ = some (.string a) ∧ w'.cell? ⟨w.heap.size, 1, none⟩ = some (.string b) ∧ w'.cell? ⟨w.heap.size, 2, none⟩ = some (.string c) ∧ OKW w w') (simp [*, OKW_drew])
        (first | (go_at_call 19; refine (CC.out _ _ _ ?_ ?_ ?_).mono ?_; (assumption); (assumption); (refine ⟨?_, ?_, ?_, ?_⟩ <;> first | assumption | (rw [OKW_drew]; assumption)); rintro e w' ⟨rfl, k0, k1, k2, k3⟩))
      all_goals (go_wp2_with fail; go_meet; refine ⟨rfl, rfl, rfl, rfl, ?_, ?_, ?_, ?_⟩ <;> first | assumption | (rw [OKW_drew]; assumption))
    case rest =>
      obtain ⟨rfl, rfl, rfl, rfl, hS⟩ := hcut
      clear k0 k1 k2 k3 CC
      obtain ⟨k0, k1, k2, hs, hbw, hA⟩ := hS
      have HA := Lib.hid (CA.out wc hA)
      have Hbw := Lib.hid hbw
      have hsz := hbw.size
      obtain ⟨f1, f2, f3, f4, f5, f6, f7, f8, f9⟩ := HFacts.out
      have hz := HZ.out
      clear HFacts HZ CA HE hA hbw
      generalize cmpS lang b a = ba at *
      generalize cmpS lang a b = ab at *
      generalize cmpS lang b c = bc at *
      generalize cmpS lang a c = ac at *
      subst f1
      have cases : (ab = 1 ∧ (a.toList == b.toList) = false) ∨ (ab = 0 ∧ bc = 1 ∧ (a.toList == b.toList) = true) ∨ (ab = 0 ∧ (bc = -1 ∨ bc = 0) ∧ (ac = -1 ∨ ac = 0) ∧ (a.toList == b.toList) = true) ∨ (ab = -1 ∧ bc = 1 ∧ (a.toList == b.toList) = false) ∨ (ab = -1 ∧ (bc = -1 ∨ bc = 0) ∧ ac = -1 ∧ (a.toList == b.toList) = false) := by
        have h3 : ab = -1 ∨ ab = 0 ∨ ab = 1 := by omega
        rcases h3 with rfl | rfl | rfl
        · rw [hz]
          by_cases h : bc = 1
          · exact .inr (.inr (.inr (.inl ⟨rfl, h, rfl⟩)))
          · have := f9 (by omega) (by omega)
            exact .inr (.inr (.inr (.inr ⟨rfl, by omega, by omega, rfl⟩)))
        · rw [hz]
          by_cases h : bc = 1
          · exact .inr (.inl ⟨rfl, h, rfl⟩)
          · have := f8 (by omega) (by omega)
            exact .inr (.inr (.inl ⟨rfl, by omega, by omega, rfl⟩))
        · rw [hz]
          exact .inl ⟨rfl, rfl⟩
      clear f2 f3 f4 f5 f6 f7 f8 f9 hz
      rcases cases with ⟨rfl, e⟩ | ⟨rfl, rfl, e⟩ | ⟨rfl, rfl | rfl, rfl | rfl, e⟩ | ⟨rfl, rfl, e⟩ | ⟨rfl, rfl | rfl, rfl, e⟩
      all_goals
        go_wp2_with fail
        refine HA.out.mono ?_
        rintro e w2 ⟨rfl, b2'⟩
        have b2 := Hbw.out.trans (b2'.mono hsz)
        clear b2'
        go_wp2
        go_ret
        exact ⟨rfl, b2⟩
end Go.Proofs.YtjfeckccmfbkhaaDoor
