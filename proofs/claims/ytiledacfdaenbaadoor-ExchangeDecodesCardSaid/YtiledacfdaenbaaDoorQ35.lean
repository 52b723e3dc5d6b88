/- Merged: EnvTab, LE10, Plain10E. -/
import Derived.Test.YtiledacfdaenbaaDoorRows
import Derived.Test.YtiledacfdaenbaaDoorQ13
import Derived.Test.YtiledacfdaenbaaDoorQ34
import Derived.Test.YtiledacfdaenbaaDoorQ31
import Derived.Shelf.Vars
import Derived.Stop.LaidErr
import Derived.Lib.LaidU8T
import Derived.PinnedBridge
import Derived.LaidMore
import Derived.LaidLaws
import Derived.Test.YtiledacfdaenbaaDoorQ25
import Derived.Test.YtiledacfdaenbaaDoorQ08
namespace Go.Proofs.YtiledacfdaenbaaDoor

section
open Go.RowKit Go.Lib
/-- What every row of this seat lists. -/
def laid3 : List (String × DataW Unit) := Rows.exchangeEncodesRow.laid
theorem accept_eq : Rows.laid_unicode_utf8_acceptRanges (H := Unit) = acceptData := by kernel_rfl
theorem first_eq : Rows.laid_unicode_utf8_first = firstData := Pinned.utf8First_eq
theorem pows_eq : Rows.laid_internal_strconv_uint64pow10 (H := Unit) = tabData .u64 pow10Tab := by kernel_rfl
theorem key_lt {W : World} {b o : Nat} {v : Value} (hv : W.cell? ⟨b, o, none⟩ = some v) : b < W.heap.size := by
  rcases Nat.lt_or_ge b W.heap.size with hh | hh
  · exact hh
  · simp [World.cell?, Array.getElem?_eq_none hh] at hv
theorem env_of {W : World} (h : laidMet Tryd.prog laid3 W) (hs : W.ShapedOpen Tryd.prog) : Env W := by
  have h3 : laidMet Tryd.prog (("internal/strconv.uint64pow10", Rows.laid_internal_strconv_uint64pow10) :: _) W := laidMet.tail (laidMet.tail h)
  have h4 : laidMet Tryd.prog (("unicode/utf8.acceptRanges", Rows.laid_unicode_utf8_acceptRanges) :: _) W := laidMet.tail h3
  have h7 : laidMet Tryd.prog (("unicode/utf8.first", Rows.laid_unicode_utf8_first) :: _) W := laidMet.tail h4
  have r4 := Lib.laidMet.reads h4 (.head _)
  have r7 := Lib.laidMet.reads h7 (.head _)
  rw [pows_eq] at h3
  rw [accept_eq] at r4
  rw [first_eq] at r7
  have htab : Lib.Utf8Tabs 1 2 W :=
    utf8Tabs_of_readsT (U8Types.of196 Tryd.lays196) ⟨by kernel_rfl, by kernel_rfl, by kernel_rfl, by kernel_rfl, by kernel_rfl, by kernel_rfl, by kernel_rfl⟩ r7 r4
  exact ⟨⟨⟨key_lt (htab.1 0 (by decide)), key_lt (htab.2 0 (by decide)).1⟩, htab⟩,
    cell_of_shapedOpen_int (P := Tryd.prog) (g := 0) (t := 3) (zero := #[.int .i64 0]) hs (of_decide_eq_true (by kernel_rfl)) (by kernel_rfl) rfl (by kernel_rfl) (by kernel_rfl) Tryd.underlying3,
    tabIs_of_head (g := 3) (t := 129) (e := 108) (n := 20) (by kernel_rfl) (by kernel_rfl) Tryd.underlying129 Tryd.underlying108 (by kernel_rfl) (by kernel_rfl) h3⟩
theorem env_ofH {W : World} (h : laidMetH Tryd.prog laid3 W) (hs : W.ShapedOpen Tryd.prog) : Env W := by
  rw [MakeChecks.laidMetH_plain _ _ _ (by kernel_rfl)] at h
  exact env_of h hs
end

section
open Go.RowKit Go.PlainAid
set_option maxHeartbeats 16000000 in
set_option maxRecDepth 100000 in
theorem lawDecodes_any (l : List UInt8) (w : World) (hE : Env w) :
    Calls Tryd.prog 4 #[.string (S l)] w fun e w' => e = .returned (.bool true) ∧ Below w.heap.size w w' := by
  obtain ⟨Q, hQ⟩ : ∃ Q, (fun (e : Ending) (w' : World) => e = .returned (.bool true) ∧ Below w.heap.size w w') = Q := ⟨_, rfl⟩
  rw [hQ]
  have HQ : RowKit.Hid (∀ e w', (e = .returned (.bool true) ∧ Below w.heap.size w w') → Q e w') := by rw [← hQ]; exact fun _ _ h => h
  clear hQ
  have cA := Lib.hid (lalive_any w hE)
  have HE := Lib.hid hE
  have hsz := S_size l
  obtain ⟨z, hz⟩ : ∃ z, l.length = z := ⟨_, rfl⟩
  rw [hz] at hsz
  have cD := fun (h : z ≤ 4000) W hW => pDecode_any l W hW (by omega)
  have cG := fun (h : z ≤ 4000) W hW => refDecode_any l W hW (by omega)
  rw [dec_one'] at cG
  obtain ⟨q, er, hd⟩ : ∃ q er, decE l = (q, er) := ⟨_, _, rfl⟩
  rw [hd] at cD cG
  simp only at cD cG
  have HD := Lib.hid cD
  have HG := Lib.hid cG
  have HSm := Lib.hid (fun u v W h1 h2 => refSame08_any q q u v W h1 h2 true ((sameRB_iff q q).2 rfl))
  clear cD cG hd hz hE
  generalize S l = s at *
  go_enter Tryd.func4, Tryd.ntmps4
  go_wp2_with fail
  refine cA.out.mono ?_
  rintro e w1 ⟨rfl, hb1⟩
  have B1 := Lib.hid hb1
  clear hb1 cA
  by_cases h4 : 4000 < z
  · have t1 : decide ((4000 : Int) < (z : Int)) = true := decide_eq_true (by omega)
    have t1' : decide (4000 < z) = true := decide_eq_true h4
    clear h4
    go_wp2
    first | exact HQ.out _ _ ⟨rfl, B1.out⟩ | (go_ret; exact HQ.out _ _ ⟨rfl, B1.out⟩)
  · have t1 : decide ((4000 : Int) < (z : Int)) = false := decide_eq_false (by omega)
    have t1' : decide (4000 < z) = false := decide_eq_false h4
    have c1 := Lib.hid (HD.out (by omega) w1 (HE.out.after B1.out))
    have c2 := Lib.hid (fun W hW => HG.out (by omega) W hW)
    clear h4
    go_wp2_with fail
    refine c1.out.mono ?_
    rintro e w2 ⟨u, rfl, hn2, hb2⟩
    obtain ⟨ua, uc, rfl, -, -⟩ := hn2.here.length
    obtain ⟨ul, hul⟩ : ∃ m, q.fields.length = m := ⟨_, rfl⟩
    rw [hul] at hn2 ⊢
    unfold RV
    have hA := (Below.refl w2.heap.size w2).alloc (Nat.le_refl _) (.cells #[.int .i64 q.id, .int .i64 q.ver, .int .i64 q.kind, .string (S q.lang), .slice ua ul uc] 24)
    have hbx := heap_alloc_new w2 (.cells #[.int .i64 q.id, .int .i64 q.ver, .int .i64 q.kind, .string (S q.lang), .slice ua ul uc] 24)
    have hF2 := hn2.here.after hA
    obtain ⟨W2, hW2⟩ : ∃ W, w2.alloc (.cells #[.int .i64 q.id, .int .i64 q.ver, .int .i64 q.kind, .string (S q.lang), .slice ua ul uc] 24) = W := ⟨_, rfl⟩
    rw [hW2] at hA hbx hF2
    obtain ⟨b, hb⟩ : ∃ b, w2.heap.size = b := ⟨_, rfl⟩
    rw [hb] at hbx
    have hlt : b < W2.heap.size := (Array.getElem?_eq_some_iff.1 hbx).1
    have B2 := Lib.hid ((B1.out.trans (hb2.mono B1.out.size)).trans (hA.mono (Nat.le_trans B1.out.size hb2.size)))
    have HW2 := Lib.hid hW2
    have HBx := Lib.hid hbx
    have HF2 := Lib.hid hF2
    have HB := Lib.hid hb
    clear hn2 hb2 hA hbx hF2 hW2 hb c1
    go_upto_region 6 with fail
    rw [HW2.out, HB.out]
    clear HW2 HB
    go_wp2_with fail
    refine (c2.out W2 (HE.out.after B2.out)).mono ?_
    rintro e w3 ⟨v, rfl, hn3, hb3⟩
    obtain ⟨va, vc, rfl, -, -⟩ := hn3.here.length
    rw [hul] at hn3 ⊢
    unfold RV
    have hA := (Below.refl w3.heap.size w3).alloc (Nat.le_refl _) (.cells #[.int .i64 q.id, .int .i64 q.ver, .int .i64 q.kind, .string (S q.lang), .slice va ul vc] 24)
    have hbx := heap_alloc_new w3 (.cells #[.int .i64 q.id, .int .i64 q.ver, .int .i64 q.kind, .string (S q.lang), .slice va ul vc] 24)
    have hF3 := hn3.here.after hA
    have hF2 := (HF2.out.after hb3).after hA
    have hb23 := hb3.trans (hA.mono hb3.size)
    obtain ⟨W3, hW3⟩ : ∃ W, w3.alloc (.cells #[.int .i64 q.id, .int .i64 q.ver, .int .i64 q.kind, .string (S q.lang), .slice va ul vc] 24) = W := ⟨_, rfl⟩
    rw [hW3] at hA hbx hF3 hF2 hb23
    obtain ⟨b3, hb3'⟩ : ∃ b, w3.heap.size = b := ⟨_, rfl⟩
    rw [hb3'] at hbx
    have hby := (hb23.block b hlt).trans HBx.out
    have B3 := Lib.hid (B2.out.trans (hb23.mono B2.out.size))
    have c3 := HSm.out _ _ W3 hF2 hF3
    unfold RV at c3
    have C3 := Lib.hid c3
    obtain ⟨⟨x0, x1, x2, x3, x4⟩, -⟩ := rcells hby
    obtain ⟨⟨y0, y1, y2, y3, y4⟩, -⟩ := rcells hbx
    have HW3 := Lib.hid hW3
    have HB3 := Lib.hid hb3'
    clear hn3 hb3 hA hbx hF3 hF2 hb23 hW3 hb3' hby c3 c2 hul
    go_upto_region 7 with fail
    rw [HW3.out, HB3.out]
    go_wp2_with fail
    refine C3.out.mono ?_
    rintro e w4 ⟨rfl, hb4⟩
    have BF := Lib.hid (B3.out.trans (hb4.mono B3.out.size))
    clear hb4
    go_wp2
    first | exact HQ.out _ _ ⟨rfl, BF.out⟩ | (go_ret; exact HQ.out _ _ ⟨rfl, BF.out⟩)
end

section
theorem splitF_count : ∀ (n : Nat) (l : List UInt8) (P : List (List UInt8)), l.length ≤ n → splitF l = some P → 26 * P.length ≤ l.length
  | n, l, P, hn, h => by
    by_cases h0 : l = []
    · subst h0
      rw [splitF_nil] at h
      obtain rfl := Option.some.inj h
      exact Nat.le_refl _
    · by_cases hb : badF l
      · rw [splitF_bad l h0 hb] at h
        cases h
      · have hnn : 26 ≤ numF l 0 5 ∧ numF l 0 5 ≤ l.length := by
          unfold badF at hb
          omega
        rw [splitF_go l h0 hb (numF l 0 5).toNat (by omega)] at h
        cases n with
        | zero => exact absurd (List.eq_nil_of_length_eq_zero (by omega)) h0
        | succ m =>
          cases e : splitF (l.drop (numF l 0 5).toNat) with
          | none => rw [e] at h; cases h
          | some P2 =>
            rw [e] at h
            obtain rfl := Option.some.inj h
            have := splitF_count m _ P2 (by rw [List.length_drop]; omega) e
            rw [List.length_drop] at this
            rw [List.length_cons]
            omega
theorem joinK_flat (L : List (List UInt8)) : ∀ k, k ≤ L.length → joinK [] L k = (L.take k).flatten
  | 0, _ => rfl
  | k + 1, h => by
    have ih := joinK_flat L k (by omega)
    rw [List.take_succ_eq_append_getElem (by omega), List.flatten_append, ← ih]
    rw [joinK]
    by_cases hk : k = 0
    · subst hk
      rw [if_pos rfl]
      simp [joinK, List.getD_eq_getElem?_getD, List.getElem?_eq_getElem (show 0 < L.length by omega)]
    · rw [if_neg hk]
      simp [List.getD_eq_getElem?_getD, List.getElem?_eq_getElem (show k < L.length by omega)]
theorem join_parts (l : List UInt8) (P : List (List UInt8)) (h : splitF l = some P) : joinK [] P P.length = l := by
  rw [joinK_flat P _ (Nat.le_refl _), List.take_length, splitF_join _ l P (Nat.le_refl _) h]
end

end Go.Proofs.YtiledacfdaenbaaDoor
