/- Merged: TClean, R08J, PT08. -/
import Derived.Test.YtcnjjdbpcobolaaGreatDoorQ11
import Derived.Test.YtcnjjdbpcobolaaGreatDoorQ19
import Derived.Test.YtcnjjdbpcobolaaGreatDoorQ18
import Derived.Test.YtcnjjdbpcobolaaGreatDoorQ15
import Derived.Test.YtcnjjdbpcobolaaGreatDoorQ12
namespace Go.Proofs.YtcnjjdbpcobolaaGreatDoor

section
open Go.RowKit
set_option maxHeartbeats 4000000 in
theorem clean_any (cs : List Nat) (h : OKs cs) (s : ByteArray) (hs : s = T cs) (hz : cs.length ≤ 1000000) (w : World) :
    Calls Tryz.prog 52 #[.string s] w fun e w' => e = .returned (.string (T (cleanL cs))) ∧ Below w.heap.size w w' := by
  subst hs
  go_enter Tryz.func52, Tryz.ntmps52
  go_wp2
  go_loopw [4] (fun g wr => ∃ j : Nat, j ≤ cs.length ∧ g = .bool (cleanRun (cs.take j)).2 ∧ IsB w.heap.size w.heap.size (Lib.byteCells (enc (cleanRun (cs.take j)).1)) wr ∧ wr.heap[w.heap.size + 1]? = some (.stringIter (T cs) (off cs j)) ∧ Below w.heap.size w wr) (fun _ wr => (T cs).size - wr.iterPos (w.heap.size + 1))
  case atStart =>
    refine ⟨0, Nat.zero_le _, rfl, (Lib.IsBuilderF.of (Lib.fresh_isBuilder _ _ w)).alloc _, ?_, ((Below.refl _ w).alloc (Nat.le_refl _) _).alloc (by simp) _⟩
    rw [off_zero]
    have := World.iter_heap (w.alloc (.cells #[.pointer none, .slice none 0 0] 80)) (T cs) 0
    simpa using this
  case round =>
    obtain ⟨j, hj, rfl, hI, hit, hbw⟩ := hrel
    have hsz : w.heap.size + 1 < wr.heap.size := (Array.getElem?_eq_some_iff.1 hit).1
    have hl1 := cleanRun_len (cs.take j)
    have hl2 := cells_len (cleanRun (cs.take j)).1
    have hl3 : (cs.take j).length ≤ j := List.length_take_le _ _
    by_cases hlt : j < cs.length
    · have hnx : ∀ ty, (Instr.next (.pointer (some ⟨w.heap.size + 1, 0, none⟩)) true ty).run Tryz.prog wr = _ := fun ty => next_T wr (w.heap.size + 1) cs h j hit hlt ty
      have hit2 := Lib.iterAt_heap wr (w.heap.size + 1) (T cs) (off cs j) (off cs (j + 1)) hit
      have hbw2 := Lib.below_iterAt hbw (k := w.heap.size + 1) (by omega) (T cs) (off cs (j + 1))
      have hI2 := hI.iterAt hit (off cs (j + 1))
      have hsz2 : w.heap.size ≤ (wr.iterAt (w.heap.size + 1) (T cs) (off cs (j + 1))).heap.size := by rw [Lib.iterAt_size]; omega
      have hm1 := pos_T _ _ _ _ hit
      have HM := Lib.hid hm1
      clear hm1
      have hol := off_lt cs j hlt
      have hoj := off_inj cs j (j + 1) (by omega) (by omega)
      have hok := okc_le (OKs_get h hlt)
      have HS := Lib.hid (cleanRun_take cs j hlt)
      obtain ⟨out, gap, hst⟩ : ∃ out gap, cleanRun (cs.take j) = (out, gap) := ⟨_, _, rfl⟩
      rw [hst] at hI2 hl1 hl2 HS
      rw [hst]
      clear hst hI
      simp only at hI2 hl1 hl2
      cases hb : blankc cs[j]
      · have HB := Lib.hid hb
        clear hb
        cases gap
        · go_wp2_with (first | (go_at_call 78; refine (blank_any _ (by omega) false HB.out _).mono ?_; rintro e w' ⟨rfl, rfl⟩) | (go_at_call 81; refine (writeRune_any w.heap.size w.heap.size _ _ (by omega) (by omega) _ hI2 (by omega) hsz2).mono ?_; rintro e W1 ⟨rfl, h1, b1, k1⟩))
          go_roundw
          case rel =>
            refine ⟨j + 1, by omega, ?_, ?_, k1.iter hit2 (by omega), hbw2.trans b1⟩
            · rw [HS.out]; simp [cleanStep, HB.out]
            · rw [HS.out]
              have e : (cleanStep (out, false) cs[j]).1 = out ++ [cs[j]] := by simp [cleanStep, HB.out]
              rw [e, cells_snoc]
              exact Or.inr h1
          case measure =>
            rw [HM.out, pos_T _ _ _ _ (k1.iter hit2 (by omega))]; omega
        · by_cases hne : out = []
          · subst hne
            have hL := Tryz.Builder_Len_f w.heap.size w.heap.size _ _ hI2
            have e0 : (Lib.byteCells (enc [])).length = 0 := rfl
            rw [e0] at hL
            go_wp2_with (first | (go_at_call 78; refine (blank_any _ (by omega) false HB.out _).mono ?_; rintro e w' ⟨rfl, rfl⟩) | (go_at_call 79; refine hL.mono ?_; rintro e w' ⟨rfl, rfl⟩) | (go_at_call 81; refine (writeRune_any w.heap.size w.heap.size _ _ (by omega) (by omega) _ hI2 (by omega) hsz2).mono ?_; rintro e W1 ⟨rfl, h1, b1, k1⟩))
            go_roundw
            case rel =>
              refine ⟨j + 1, by omega, ?_, ?_, k1.iter hit2 (by omega), hbw2.trans b1⟩
              · rw [HS.out]; simp [cleanStep, HB.out]
              · rw [HS.out]
                have e : (cleanStep ([], true) cs[j]).1 = [] ++ [cs[j]] := by simp [cleanStep, HB.out]
                rw [e, cells_snoc]
                exact Or.inr h1
            case measure =>
              rw [HM.out, pos_T _ _ _ _ (k1.iter hit2 (by omega))]; omega
          · have hL := Tryz.Builder_Len_f w.heap.size w.heap.size _ _ hI2
            have hpos : 0 < (Lib.byteCells (enc out)).length := by
              rw [Lib.byteCells_length, ← T_size]
              rcases Nat.eq_zero_or_pos (T out).size with h0 | h0
              · exact absurd ((T_size_zero out).1 h0) hne
              · exact h0
            generalize hN : (Lib.byteCells (enc out)).length = N at hL hpos
            have HN := Lib.hid hN
            clear hN
            have hpi : decide ((0 : Int) < (N : Int)) = true := by simp; omega
            go_wp2_with (first | (go_at_call 78; refine (blank_any _ (by omega) false HB.out _).mono ?_; rintro e w' ⟨rfl, rfl⟩) | (go_at_call 79; refine hL.mono ?_; rintro e w' ⟨rfl, rfl⟩) | (go_at_call 80; refine (writeByte_any w.heap.size w.heap.size _ 32 _ hI2 (by omega) hsz2).mono ?_; rintro e W0 ⟨rfl, h0, b0, k0⟩) | (go_at_call 81; refine (writeRune_any w.heap.size w.heap.size _ _ (by omega) (by omega) _ (Or.inr h0) (by rw [List.length_append]; simp; omega) (by have := b0.size; omega)).mono ?_; rintro e W1 ⟨rfl, h1, b1, k1⟩))
            go_roundw
            case rel =>
              refine ⟨j + 1, by omega, ?_, ?_, k1.iter (k0.iter hit2 (by omega)) (by omega), (hbw2.trans b0).trans b1⟩
              · rw [HS.out]; simp [cleanStep, HB.out]
              · rw [HS.out]
                have e : (cleanStep (out, true) cs[j]).1 = (out ++ [32]) ++ [cs[j]] := by simp [cleanStep, HB.out, hne]
                rw [e, cells_snoc, cells_32]
                exact Or.inr h1
            case measure =>
              rw [HM.out, pos_T _ _ _ _ (k1.iter (k0.iter hit2 (by omega)) (by omega))]; omega
      · have HB := Lib.hid hb
        clear hb
        go_wp2_with (go_at_call 78; refine (blank_any _ (by omega) true HB.out _).mono ?_; rintro e w' ⟨rfl, rfl⟩)
        go_roundw
        case rel =>
          refine ⟨j + 1, by omega, ?_, ?_, hit2, hbw2⟩
          · rw [HS.out]; simp [cleanStep, HB.out]
          · rw [HS.out]
            have e : (cleanStep (out, gap) cs[j]).1 = out := by simp [cleanStep, HB.out]
            rw [e]
            exact hI2
        case measure =>
          rw [HM.out, pos_T _ _ _ _ hit2]; omega
    · have hje : j = cs.length := by omega
      have hnx : ∀ ty, (Instr.next (.pointer (some ⟨w.heap.size + 1, 0, none⟩)) true ty).run Tryz.prog wr = _ := fun ty => end_T wr (w.heap.size + 1) cs j hit hje ty
      have HJ := Lib.hid hje
      clear hje
      go_wp2_with (go_at_call 82; refine (Tryz.Builder_String_any_k w.heap.size w.heap.size (enc (cleanRun (cs.take j)).1) _ hI (by omega)).mono ?_; rintro e W1 ⟨rfl, _, b1, _⟩)
      go_ret
      refine ⟨?_, hbw.trans b1⟩
      rw [HJ.out, List.take_length]
      rfl

theorem clean_is (s t : ByteArray) (cs : List Nat) (h : OKs cs) (hs : s = T cs) (hz : cs.length ≤ 1000000) (ht : T (cleanL cs) = t) (w : World) :
    Calls Tryz.prog 52 #[.string s] w fun e w' => e = .returned (.string t) ∧ Below w.heap.size w w' := by
  have := clean_any cs h s hs hz w
  rwa [ht] at this
end

section
open Go.RowKit Go.PlainAid
set_option maxHeartbeats 16000000 in
set_option maxRecDepth 100000 in
theorem refAuthor_any (r : Rec) (u : Value) (w : World) (hu : FL u r.fields w) (hs : r.fields.length ≤ 100000) :
    Calls Tryz.prog 30 #[RV r u] w fun e w' => e = .returned (.string (S (authorO r.fields atags))) ∧ Below w.heap.size w w' := by
  obtain ⟨res, hres⟩ : ∃ res, authorO r.fields atags = res := ⟨_, rfl⟩
  rw [hres]
  obtain ⟨a, cap, rfl, _, _⟩ := hu.length
  have cF0 := fun t W (h : FL (.slice a r.fields.length cap) r.fields W) => refFields_any r _ W h t hs
  have cG := Lib.hid (fun (f : Fld) x W hq p b hb => refGet_any f x W hq 97 p b hb)
  have hdr := authorO_drop r.fields
  unfold RV at cF0 ⊢
  unfold FV at cG
  have e97 : (((97 : UInt8).toNat : Nat) : Int) = 97 := rfl
  rw [e97] at cG
  obtain ⟨W1, hW1⟩ : ∃ W1, (w.alloc (.cells #[.int .i64 r.id, .int .i64 r.ver, .int .i64 r.kind, .string (S r.lang), .slice a r.fields.length cap] 24)).alloc (.cells #[.string ⟨#[49, 48, 48]⟩, .string ⟨#[49, 49, 48]⟩, .string ⟨#[55, 48, 48]⟩] 9) = W1 := ⟨_, rfl⟩
  have b0 : Below w.heap.size w W1 := by rw [← hW1]; exact ((Below.refl w.heap.size w).alloc (Nat.le_refl _) _).alloc (by simp) _
  have k0 : W1.cell? ⟨w.heap.size, 0, none⟩ = some (.int .i64 r.id) := by rw [← hW1]; simp
  have k1 : W1.cell? ⟨w.heap.size, 1, none⟩ = some (.int .i64 r.ver) := by rw [← hW1]; simp
  have k2 : W1.cell? ⟨w.heap.size, 2, none⟩ = some (.int .i64 r.kind) := by rw [← hW1]; simp
  have k3 : W1.cell? ⟨w.heap.size, 3, none⟩ = some (.string (S r.lang)) := by rw [← hW1]; simp
  have k4 : W1.cell? ⟨w.heap.size, 4, none⟩ = some (.slice a r.fields.length cap) := by rw [← hW1]; simp
  have hlt : w.heap.size < W1.heap.size := by rw [← hW1]; simp; omega
  have hltB : w.heap.size + 1 < W1.heap.size := by rw [← hW1]; simp
  have hB : (w.alloc (.cells #[.int .i64 r.id, .int .i64 r.ver, .int .i64 r.kind, .string (S r.lang), .slice a r.fields.length cap] 24)).heap.size = w.heap.size + 1 := by simp
  have tg : ∀ j, j < 3 → W1.cell? ⟨w.heap.size + 1, j, none⟩ = some (.string (S (atags.getD j []))) := by
    intro j hj
    rw [← hW1, ← hB]
    match j, hj with
    | 0, _ => simp [atags, S]
    | 1, _ => simp [atags, S]
    | 2, _ => simp [atags, S]
  have HTg := Lib.hid tg
  have HU1 := Lib.hid (hu.after b0)
  have HW1 := Lib.hid hW1
  have HB0 := Lib.hid b0
  have HDr := Lib.hid hdr
  have HRes := Lib.hid hres
  have HRc := Lib.hid (fun (W : World) (h : Below W1.heap.size W1 W) => (show W.cell? ⟨w.heap.size, 0, none⟩ = _ ∧ W.cell? ⟨w.heap.size, 1, none⟩ = _ ∧ W.cell? ⟨w.heap.size, 2, none⟩ = _ ∧ W.cell? ⟨w.heap.size, 3, none⟩ = _ ∧ W.cell? ⟨w.heap.size, 4, none⟩ = _ from ⟨(h.cell (p := ⟨w.heap.size, 0, none⟩) hlt).trans k0, (h.cell (p := ⟨w.heap.size, 1, none⟩) hlt).trans k1, (h.cell (p := ⟨w.heap.size, 2, none⟩) hlt).trans k2, (h.cell (p := ⟨w.heap.size, 3, none⟩) hlt).trans k3, (h.cell (p := ⟨w.heap.size, 4, none⟩) hlt).trans k4⟩))
  have HTgs := Lib.hid (fun (W : World) (h : Below W1.heap.size W1 W) j hj => (h.cell (p := ⟨w.heap.size + 1, j, none⟩) hltB).trans (HTg.out j hj))
  have CF0 := Lib.hid cF0
  have HAt := Lib.hid (fun t v W h hl => firstF_at (L := r.fields) (t := t) (v := v) (w := W) h hl)
  have HNil := Lib.hid (fun t h => firstF_nil r.fields t h)
  clear hW1 b0 k0 k1 k2 k3 k4 hlt hltB hB tg hu hres hdr cF0 HTg
  generalize S r.lang = lg at *
  generalize r.fields.length = n at *
  obtain ⟨B, hBB⟩ : ∃ B, w.heap.size + 1 = B := ⟨_, rfl⟩
  rw [hBB] at HTgs
  go_enter Tryz.func30, Tryz.ntmps30
  go_upto_region 2 with fail
  rw [HW1.out]
  go_wp2
  go_loopw [4] (fun i wr => ∃ k : Nat, k ≤ 3 ∧ i = .int .i64 (k : Int) ∧ RowKit.Hid (authorO r.fields (atags.drop k) = res) ∧ Below W1.heap.size W1 wr) (fun i _ => 3 - (intOf i).toNat)
  case atStart => exact ⟨0, by omega, rfl, HRes, Below.refl _ _⟩
  case round =>
    obtain ⟨k, hk, rfl, hau, hbw⟩ := hrel
    by_cases hk3 : k < 3
    · have hst := HDr.out k hk3
      rw [hau.out] at hst
      have HSt := Lib.hid hst
      have HRec := Lib.hid (fun (W : World) (h : Below wr.heap.size wr W) => HRc.out W (hbw.trans (h.mono hbw.size)))
      have HTag := Lib.hid (fun (W : World) (h : Below wr.heap.size wr W) => HTgs.out W (hbw.trans (h.mono hbw.size)) k hk3)
      have HU1 := Lib.hid (HU1.out.after hbw)
      have cF := Lib.hid (CF0.out (atags.getD k []))
      have HAtk := Lib.hid (HAt.out (atags.getD k []))
      have HNilk := Lib.hid (HNil.out (atags.getD k []))
      obtain ⟨FF, hFF⟩ : ∃ FF, fieldsL r.fields (atags.getD k []) = FF := ⟨_, rfl⟩
      obtain ⟨f1, hf1⟩ : ∃ f1, firstF r.fields (atags.getD k []) = f1 := ⟨_, rfl⟩
      rw [hFF] at cF HAtk HNilk
      rw [hf1] at HAtk HNilk HSt
      have Hbw := Lib.hid hbw
      clear hst hau hFF hf1 hbw
      generalize S (atags.getD k []) = tg at *
      have i1 : (0 : Int) ≤ (k : Int) := by omega
      have i2 : (k : Int) < 3 := by omega
      go_upto_region 5 with fail
      apply wp_region_inv (V := [.eq (.agg #[.int .i64 r.id, .int .i64 r.ver, .int .i64 r.kind, .string lg, .slice a n cap]), .eq (.slice (some ⟨B, 0, none⟩) 3 3), .eq (.int .i64 (k : Int)), .eq (.pointer (some ⟨B, k, none⟩)), .eq (.string tg), .fl FF, .fl FF])
      case hm => kernel_rfl
      case hd => kernel_rfl
      case hb => kernel_rfl
      case hA =>
        intro vs
        simp only [puts, Act.put, List.setIfInBounds_toArray, List.set_cons_zero, List.set_cons_succ]
        exact rfl
      case hob =>
        refine Obs.cons _ _ _ _ _ _ ?o0 (Obs.cons _ _ _ _ _ _ ?o1 (Obs.cons _ _ _ _ _ _ ?o2 (Obs.cons _ _ _ _ _ _ ?o3 (Obs.cons _ _ _ _ _ _ ?o4 (Obs.cons _ _ _ _ _ _ ?o5 (Obs.cons _ _ _ _ _ _ ?o6 (Obs.nil _ _ _ _ _ _)))))))
        case o0 =>
          intro vs W hw hd K hK
          have g := HRec.out W hw
          obtain ⟨g0, g1, g2, g3, g4⟩ := g
          go_simp
          exact hK.out _ _ rfl (Below.refl _ _)
        case o1 =>
          intro vs W hw hd K hK
          go_simp
          exact hK.out _ _ rfl (Below.refl _ _)
        case o2 =>
          intro vs W hw hd K hK
          go_simp
          exact hK.out _ _ rfl (Below.refl _ _)
        case o3 =>
          intro vs W hw hd K hK
          have h1 : vs 1 = .slice (some ⟨B, 0, none⟩) 3 3 := hd 1 (by kernel_rfl)
          have h2 : vs 2 = .int .i64 (k : Int) := hd 2 (by kernel_rfl)
          simp only [Nat.reduceAdd, h1, h2] at hK ⊢
          go_simp
          exact hK.out _ _ rfl (Below.refl _ _)
        case o4 =>
          intro vs W hw hd K hK
          have h3 : vs 3 = .pointer (some ⟨B, k, none⟩) := hd 3 (by kernel_rfl)
          have g := HTag.out W hw
          simp only [Nat.reduceAdd, h3] at hK ⊢
          go_simp
          exact hK.out _ _ rfl (Below.refl _ _)
        case o5 =>
          intro vs W hw hd K hK
          have h0 : vs 0 = .agg #[.int .i64 r.id, .int .i64 r.ver, .int .i64 r.kind, .string lg, .slice a n cap] := hd 0 (by kernel_rfl)
          have h4 : vs 4 = .string tg := hd 4 (by kernel_rfl)
          simp only [Nat.reduceAdd, h0, h4] at hK ⊢
          go_simp
          refine (cF.out W (HU1.out.after hw)).mono ?_
          rintro e W' ⟨v', rfl, h1, h2⟩
          exact hK.out _ _ h1 h2
        case o6 =>
          intro vs W hw hd K hK
          have h5 : FL (vs 5) FF W := hd 5 (by kernel_rfl)
          simp only [Nat.reduceAdd] at hK ⊢
          go_simp
          exact hK.out _ _ h5 (Below.refl _ _)
      case hfin =>
        intro vs W hw hv
        have h6 : FL (vs 6) FF W := hv 6 (by decide)
        have hbW := Hbw.out.trans (hw.mono Hbw.out.size)
        have HbW := Lib.hid hbW
        clear hbW hv HRec HTag cF
        generalize vs 6 = v6 at *
        by_cases h0 : FF.length = 0
        · obtain ⟨a6, c6, rfl, _, _⟩ := h6.length
          have hs2 := HSt.out
          rw [HNilk.out h0] at hs2
          have hs3 : res = authorO r.fields (atags.drop (k + 1)) := hs2
          have HS3 := Lib.hid hs3.symm
          rw [h0]
          clear hs2 hs3 h6
          go_wp2
          go_roundw
          case rel => exact ⟨k + 1, by omega, by go_num, HS3, HbW.out⟩
          case measure => simp [intOf]; omega
        · obtain ⟨g, o, cp, x, rfl, y0, y1, y2, y3, hq⟩ := HAtk.out _ W h6 (by omega)
          obtain ⟨ax, nx, cx, hx⟩ : ∃ ax nx cx, x = .slice ax nx cx := by obtain ⟨ax, cx, rfl, _⟩ := hq; exact ⟨_, _, _, rfl⟩
          subst hx
          obtain ⟨pb, hpb⟩ : ∃ pb, getL f1.subs 97 = pb := ⟨_, rfl⟩
          have hs2 := HSt.out
          rw [hpb] at hs2
          obtain ⟨p, b⟩ := pb
          have c1 := Lib.hid (cG.out f1 _ W hq p b hpb)
          have d2 : (0 : Int) < (FF.length : Int) := by omega
          have HS2 := Lib.hid hs2
          clear hs2 hpb h6 hq
          generalize FF.length = m at *
          generalize S f1.tag = t0 at *
          generalize S f1.ind = t1 at *
          generalize f1.auth = t3 at *
          go_wp2_with fail
          refine (c1.out).mono ?_
          rintro e w2 ⟨rfl, h2⟩
          have HB2 := Lib.hid (HbW.out.trans (h2.mono HbW.out.size))
          clear h2
          cases b
          · have HS3 := Lib.hid (show authorO r.fields (atags.drop (k + 1)) = res from HS2.out.symm)
            go_wp2
            go_roundw
            case rel => exact ⟨k + 1, by omega, by go_num, HS3, HB2.out⟩
            case measure => simp [intOf]; omega
          · obtain rfl : res = p := HS2.out
            go_wp2
            go_ret
            exact ⟨rfl, HB0.out.trans (HB2.out.mono HB0.out.size)⟩
    · obtain rfl : k = 3 := by omega
      have hr : [] = res := hau.out
      subst hr
      have hfin := HB0.out.trans (hbw.mono HB0.out.size)
      go_wp2
      go_ret
      exact ⟨rfl, hfin⟩
end

section
open Go.RowKit Go.PlainAid
set_option maxHeartbeats 8000000 in
theorem pTitle_any (r : Rec) (u : Value) (w : World) (hu : FL u r.fields w) (htl : ∀ f ∈ r.fields, f.tag.length = 3) (hsub : ∀ f ∈ r.fields, f.subs.length ≤ 1000 ∧ ∀ i, (f.subs.getD i sub0).2.length ≤ 1000)
    (t : ByteArray) (cC : ∀ W, Calls Tryz.prog 52 #[.string (S (titleL r.fields))] W fun e w' => e = .returned (.string t) ∧ Below W.heap.size W w') :
    Calls Tryz.prog 27 #[RV r u] w fun e w' => e = .returned (.string t) ∧ Below w.heap.size w w' := by
  have b0 := (Below.refl w.heap.size w).alloc (Nat.le_refl _) (.cells #[.int .i64 r.id, .int .i64 r.ver, .int .i64 r.kind, .string (S r.lang), u] 24)
  have cF := Lib.hid (first_any r u _ (hu.after b0) [50, 52, 53] htl)
  have HB0 := Lib.hid b0
  unfold RV at cF ⊢
  obtain ⟨a, cap, rfl, _, _⟩ := hu.length
  clear b0 hu
  have e3 : S [50, 52, 53] = ⟨#[50, 52, 53]⟩ := rfl
  rw [e3] at cF
  have hf : (firstF r.fields [50, 52, 53]).subs.length ≤ 1000 ∧ ∀ i, ((firstF r.fields [50, 52, 53]).subs.getD i sub0).2.length ≤ 1000 := by
    rcases firstF_mem r.fields [50, 52, 53] with h | h
    · rw [h]; simp [fd0, sub0]
    · exact hsub _ h
  have hal : ∀ i, ((allL (firstF r.fields [50, 52, 53]).subs [97, 98]).getD i []).length ≤ 1000000 := allL_small _ _ hf.2
  have cP := Lib.hid (fun x W hq => fPlain_any (firstF r.fields [50, 52, 53]) x W hq [97, 98] hf.1 hal)
  have cC := Lib.hid cC
  unfold titleL at cC
  unfold FV at cP cF
  have e2 : S [97, 98] = ⟨#[97, 98]⟩ := rfl
  rw [e2] at cP
  generalize r.fields.length = n at *
  generalize S r.lang = lg at *
  generalize S (plainL (firstF r.fields [50, 52, 53]).subs [97, 98]) = pt at *
  generalize S (firstF r.fields [50, 52, 53]).tag = t0 at *
  generalize S (firstF r.fields [50, 52, 53]).ind = t1 at *
  generalize (firstF r.fields [50, 52, 53]).auth = t3 at *
  go_enter Tryz.func27, Tryz.ntmps27
  go_wp2_with fail
  refine (cF.out).mono ?_
  rintro e w1 ⟨x, rfl, hq, h2⟩
  have HB3 := Lib.hid (HB0.out.trans (h2.mono HB0.out.size))
  have c1 := Lib.hid (cP.out x w1 hq)
  obtain ⟨ax, nx, cx, hx⟩ : ∃ ax nx cx, x = .slice ax nx cx := by obtain ⟨ax, cx, rfl, _⟩ := hq; exact ⟨_, _, _, rfl⟩
  subst hx
  clear h2 hq
  go_wp2_with fail
  refine (c1.out).mono ?_
  rintro e w2 ⟨rfl, h2⟩
  have HB4 := Lib.hid (HB3.out.trans (h2.mono HB3.out.size))
  clear h2
  go_wp2_with fail
  refine (cC.out w2).mono ?_
  rintro e w3 ⟨rfl, h2⟩
  have b5 := HB4.out.trans (h2.mono HB4.out.size)
  go_wp2
  go_ret
  exact ⟨rfl, b5⟩

/-- The array of the author's tags lies in the world. -/
def AT (w : World) : Prop := 0 < w.heap.size ∧ ∀ i, i < 3 → w.cell? ⟨0, i, none⟩ = some (.string (S (atags.getD i [])))
theorem AT.after {w w' : World} (h : AT w) (hb : Below w.heap.size w w') : AT w' :=
  ⟨Nat.lt_of_lt_of_le h.1 hb.size, fun i hi => (hb.cell (p := ⟨0, i, none⟩) h.1).trans (h.2 i hi)⟩

set_option maxHeartbeats 16000000 in
set_option maxRecDepth 100000 in
theorem pAuthor_any (r : Rec) (u : Value) (w : World) (hT : AT w) (hu : FL u r.fields w) (htl : ∀ f ∈ r.fields, f.tag.length = 3) :
    Calls Tryz.prog 29 #[RV r u] w fun e w' => e = .returned (.string (S (authorO r.fields atags))) ∧ Below w.heap.size w w' := by
  obtain ⟨res, hres⟩ : ∃ res, authorO r.fields atags = res := ⟨_, rfl⟩
  rw [hres]
  obtain ⟨a, cap, rfl, _, _⟩ := hu.length
  have cF0 := fun t W (h : FL (.slice a r.fields.length cap) r.fields W) (ht : t.length = 3) => first_any r _ W h t (fun f hf => (htl f hf).trans ht.symm)
  have cG := Lib.hid (fun (f : Fld) x W hq p b hb => fGet_any f x W hq 97 p b hb)
  have hdr := authorO_drop r.fields
  unfold RV at cF0 ⊢
  unfold FV at cG cF0
  have e97 : (((97 : UInt8).toNat : Nat) : Int) = 97 := rfl
  rw [e97] at cG
  obtain ⟨W1, hW1⟩ : ∃ W1, w.alloc (.cells #[.int .i64 r.id, .int .i64 r.ver, .int .i64 r.kind, .string (S r.lang), .slice a r.fields.length cap] 24) = W1 := ⟨_, rfl⟩
  have b0 : Below w.heap.size w W1 := by rw [← hW1]; exact (Below.refl w.heap.size w).alloc (Nat.le_refl _) _
  have k0 : W1.cell? ⟨w.heap.size, 0, none⟩ = some (.int .i64 r.id) := by rw [← hW1]; simp
  have k1 : W1.cell? ⟨w.heap.size, 1, none⟩ = some (.int .i64 r.ver) := by rw [← hW1]; simp
  have k2 : W1.cell? ⟨w.heap.size, 2, none⟩ = some (.int .i64 r.kind) := by rw [← hW1]; simp
  have k3 : W1.cell? ⟨w.heap.size, 3, none⟩ = some (.string (S r.lang)) := by rw [← hW1]; simp
  have k4 : W1.cell? ⟨w.heap.size, 4, none⟩ = some (.slice a r.fields.length cap) := by rw [← hW1]; simp
  have hlt : w.heap.size < W1.heap.size := by rw [← hW1]; simp
  have hT1 := hT.after b0
  have t0 : W1.cell? ⟨0, 0, none⟩ = some (.string ⟨#[49, 48, 48]⟩) := hT1.2 0 (by omega)
  have t1 : W1.cell? ⟨0, 1, none⟩ = some (.string ⟨#[49, 49, 48]⟩) := hT1.2 1 (by omega)
  have t2 : W1.cell? ⟨0, 2, none⟩ = some (.string ⟨#[55, 48, 48]⟩) := hT1.2 2 (by omega)
  have ix0 : ∀ W, Sem.run Tryz.prog (Instr.index 65 (.agg #[.string ⟨#[49, 48, 48]⟩, .string ⟨#[49, 49, 48]⟩, .string ⟨#[55, 48, 48]⟩]) (.int .i64 0)) W = .ok (.string ⟨#[49, 48, 48]⟩) W := fun W => by kernel_rfl
  have ix1 : ∀ W, Sem.run Tryz.prog (Instr.index 65 (.agg #[.string ⟨#[49, 48, 48]⟩, .string ⟨#[49, 49, 48]⟩, .string ⟨#[55, 48, 48]⟩]) (.int .i64 1)) W = .ok (.string ⟨#[49, 49, 48]⟩) W := fun W => by kernel_rfl
  have ix2 : ∀ W, Sem.run Tryz.prog (Instr.index 65 (.agg #[.string ⟨#[49, 48, 48]⟩, .string ⟨#[49, 49, 48]⟩, .string ⟨#[55, 48, 48]⟩]) (.int .i64 2)) W = .ok (.string ⟨#[55, 48, 48]⟩) W := fun W => by kernel_rfl
  have HU1 := Lib.hid (hu.after b0)
  have HW1 := Lib.hid hW1
  have HB0 := Lib.hid b0
  have HDr := Lib.hid hdr
  have HRes := Lib.hid hres
  have HRc := Lib.hid (fun (W : World) (h : Below W1.heap.size W1 W) => (show W.cell? ⟨w.heap.size, 0, none⟩ = _ ∧ W.cell? ⟨w.heap.size, 1, none⟩ = _ ∧ W.cell? ⟨w.heap.size, 2, none⟩ = _ ∧ W.cell? ⟨w.heap.size, 3, none⟩ = _ ∧ W.cell? ⟨w.heap.size, 4, none⟩ = _ from ⟨(h.cell (p := ⟨w.heap.size, 0, none⟩) hlt).trans k0, (h.cell (p := ⟨w.heap.size, 1, none⟩) hlt).trans k1, (h.cell (p := ⟨w.heap.size, 2, none⟩) hlt).trans k2, (h.cell (p := ⟨w.heap.size, 3, none⟩) hlt).trans k3, (h.cell (p := ⟨w.heap.size, 4, none⟩) hlt).trans k4⟩))
  have CF0 := Lib.hid cF0
  have HTl := Lib.hid (show ∀ k, k < 3 → (atags.getD k []).length = 3 by decide)
  clear hW1 b0 k0 k1 k2 k3 k4 hlt hu hres hdr cF0 hT hT1 htl
  generalize S r.lang = lg at *
  generalize r.fields.length = n at *
  go_enter Tryz.func29, Tryz.ntmps29
  go_upto_region 1 with fail
  rw [HW1.out]
  go_wp2
  go_loopw [8] (fun i wr => ∃ k : Nat, k ≤ 3 ∧ i = .int .i64 (k : Int) ∧ RowKit.Hid (authorO r.fields (atags.drop k) = res) ∧ Below W1.heap.size W1 wr) (fun i _ => 3 - (intOf i).toNat)
  case atStart => exact ⟨0, by omega, rfl, HRes, Below.refl _ _⟩
  case round =>
    obtain ⟨k, hk, rfl, hau, hbw⟩ := hrel
    have HBw := Lib.hid hbw
    by_cases hk3 : k < 3
    · have hst := HDr.out k hk3
      rw [hau.out] at hst
      have cF := Lib.hid (CF0.out (atags.getD k []) wr (HU1.out.after hbw) (HTl.out k hk3))
      obtain ⟨f1, hf1⟩ : ∃ f1, firstF r.fields (atags.getD k []) = f1 := ⟨_, rfl⟩
      rw [hf1] at cF hst
      have HNo : RowKit.Hid (∀ p, getL f1.subs 97 = (p, false) → authorO r.fields (atags.drop (k + 1)) = res) := by
        intro p hp
        rw [hp] at hst
        exact hst.symm
      have HYes : RowKit.Hid (∀ p, getL f1.subs 97 = (p, true) → res = p) := by
        intro p hp
        rw [hp] at hst
        exact hst
      obtain ⟨g0, g1, g2, g3, g4⟩ := HRc.out wr hbw
      clear hst hf1 hau hbw
      generalize hy0 : S f1.tag = y0 at *
      generalize hy1 : S f1.ind = y1 at *
      generalize hy3 : f1.auth = y3 at *
      obtain rfl | rfl | rfl : k = 0 ∨ k = 1 ∨ k = 2 := by omega
      all_goals
        go_wp2_with fail
        refine (cF.out).mono ?_
        rintro e w2 ⟨x, rfl, hq, h2⟩
        have HB2 := Lib.hid (HBw.out.trans (h2.mono HBw.out.size))
        obtain ⟨pb, hpb⟩ : ∃ pb, getL f1.subs 97 = pb := ⟨_, rfl⟩
        obtain ⟨p, b⟩ := pb
        have c1 := Lib.hid (cG.out f1 _ w2 hq p b hpb)
        obtain ⟨ax, nx, cx, hx⟩ : ∃ ax nx cx, x = .slice ax nx cx := by obtain ⟨ax, cx, rfl, _⟩ := hq; exact ⟨_, _, _, rfl⟩
        subst hx
        have HPB := Lib.hid hpb
        clear hpb h2 hq
        clear g0 g1 g2 g3 g4
        rw [hy0, hy1, hy3] at c1
        go_wp2_with fail
        refine (c1.out).mono ?_
        rintro e w3 ⟨rfl, h3⟩
        have HB3 := Lib.hid (HB2.out.trans (h3.mono HB2.out.size))
        clear h3
        cases b
        · have HS3 := Lib.hid (HNo.out p HPB.out)
          go_wp2
          go_roundw
          case rel => exact ⟨_, by omega, by go_num, HS3, HB3.out⟩
          case measure => simp [intOf]
        · obtain rfl : res = p := HYes.out p HPB.out
          go_wp2
          go_ret
          exact ⟨rfl, HB0.out.trans (HB3.out.mono HB0.out.size)⟩
    · obtain rfl : k = 3 := by omega
      have hr : [] = res := hau.out
      subst hr
      have hfin := HB0.out.trans (hbw.mono HB0.out.size)
      go_wp2
      go_ret
      exact ⟨rfl, hfin⟩
end

end Go.Proofs.YtcnjjdbpcobolaaGreatDoor
