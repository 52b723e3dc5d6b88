/- Merged: R08L, PW08, Ex08. -/
import Derived.Test.YtcnjjdbpcobolaaGreatDoorQ20
import Derived.Test.YtcnjjdbpcobolaaGreatDoorQ22
namespace Go.Proofs.YtcnjjdbpcobolaaGreatDoor

section
open Go.RowKit Go.PlainAid
theorem bl_or {v : Value} {L : List (List UInt8)} {w : World} {B : Nat} (h : ((∃ ad0, v = .slice (some ad0) 0 0) ∧ L = []) ∨ w.ownsRow B 9 1 v L.length (L.map strB)) : BL v L w := by
  rcases h with ⟨⟨ad0, rfl⟩, rfl⟩ | h
  · exact ⟨some ad0, 0, rfl, Nat.le_refl _, Nat.zero_le _, (fun h => by cases h), fun i hi => by cases hi⟩
  · exact BL.of_row h

set_option maxHeartbeats 16000000 in
set_option maxRecDepth 100000 in
theorem refSubjects_any (r : Rec) (u : Value) (w : World) (hu : FL u r.fields w) (hs : r.fields.length ≤ 10000) (hsub : ∀ f ∈ r.fields, f.subs.length ≤ 1000 ∧ ∀ i, (f.subs.getD i sub0).2.length ≤ 1000) :
    Calls Tryz.prog 35 #[RV r u] w fun e w' => ∃ v, e = .returned v ∧ BL v (subjR r.fields) w' ∧ Below w.heap.size w w' := by
  obtain ⟨a, cap, rfl, hcap, hmax⟩ := hu.length
  unfold maxLen at hmax
  have hmem : ∀ k, k < (fieldsL r.fields [54]).length → ((fieldsL r.fields [54]).getD k fd0).subs.length ≤ 1000 ∧ ∀ i, (((fieldsL r.fields [54]).getD k fd0).subs.getD i sub0).2.length ≤ 1000 := by
    intro k hk
    rw [List.getD_eq_getElem?_getD, List.getElem?_eq_getElem hk]
    exact hsub _ (List.mem_filter.1 (List.getElem_mem hk)).1
  have hlen := fieldsL_length r.fields [54]
  have HSn := Lib.hid (subjO_snoc (fieldsL r.fields [54]))
  have HLn := Lib.hid (fun k => subjO_len ((fieldsL r.fields [54]).take k))
  have cA := Lib.hid (fun (f : Fld) x W hq h => refAll_any f x W hq [97, 120, 121, 122] (by decide) h)
  have cJ := Lib.hid (fun v L W hv hL hn => refJoined_any v L [45, 45] W hv (by decide) hL hn)
  unfold FV at cA
  have e4 : S [97, 120, 121, 122] = ⟨#[97, 120, 121, 122]⟩ := rfl
  have e2 : S [45, 45] = ⟨#[45, 45]⟩ := rfl
  rw [e4] at cA
  rw [e2] at cJ
  have b1 := (Below.refl w.heap.size w).alloc (Nat.le_refl _) (.cells #[.int .i64 r.id, .int .i64 r.ver, .int .i64 r.kind, .string (S r.lang), .slice a r.fields.length cap] 24)
  obtain ⟨Wr, hWr⟩ : ∃ Wr, w.alloc (.cells #[.int .i64 r.id, .int .i64 r.ver, .int .i64 r.kind, .string (S r.lang), .slice a r.fields.length cap] 24) = Wr := ⟨_, rfl⟩
  rw [hWr] at b1
  obtain ⟨W0, hW0⟩ : ∃ W0, Wr.alloc (.cells #[] 9) = W0 := ⟨_, rfl⟩
  have b01 : Below Wr.heap.size Wr W0 := by rw [← hW0]; exact (Below.refl _ _).alloc (Nat.le_refl _) _
  have b0 : Below w.heap.size w W0 := b1.trans (b01.mono b1.size)
  have k0 : Wr.cell? ⟨w.heap.size, 0, none⟩ = some (.int .i64 r.id) := by rw [← hWr]; simp
  have k1 : Wr.cell? ⟨w.heap.size, 1, none⟩ = some (.int .i64 r.ver) := by rw [← hWr]; simp
  have k2 : Wr.cell? ⟨w.heap.size, 2, none⟩ = some (.int .i64 r.kind) := by rw [← hWr]; simp
  have k3 : Wr.cell? ⟨w.heap.size, 3, none⟩ = some (.string (S r.lang)) := by rw [← hWr]; simp
  have k4 : Wr.cell? ⟨w.heap.size, 4, none⟩ = some (.slice a r.fields.length cap) := by rw [← hWr]; simp
  have hltr : w.heap.size < Wr.heap.size := by rw [← hWr]; simp
  have l0 := (b01.cell (p := ⟨w.heap.size, 0, none⟩) hltr).trans k0
  have l1 := (b01.cell (p := ⟨w.heap.size, 1, none⟩) hltr).trans k1
  have l2 := (b01.cell (p := ⟨w.heap.size, 2, none⟩) hltr).trans k2
  have l3 := (b01.cell (p := ⟨w.heap.size, 3, none⟩) hltr).trans k3
  have l4 := (b01.cell (p := ⟨w.heap.size, 4, none⟩) hltr).trans k4
  have cF := refFields_any r _ W0 (hu.after b0) [54] (by omega)
  have e1 : S [54] = ⟨#[54]⟩ := rfl
  rw [e1] at cF
  unfold RV at cF ⊢
  obtain ⟨B, hB⟩ : ∃ B, Wr.heap.size = B := ⟨_, rfl⟩
  have CF := Lib.hid cF
  have HWr := Lib.hid hWr
  have HW0 := Lib.hid hW0
  have HB0 := Lib.hid b0
  have HMem := Lib.hid hmem
  obtain ⟨F, hF⟩ : ∃ F, fieldsL r.fields [54] = F := ⟨_, rfl⟩
  have hR : subjR r.fields = subjO F := by rw [← hF]; rfl
  rw [hF] at HMem HSn HLn hlen CF
  rw [hR]
  have HHB := Lib.hid hB
  clear cF hmem hF b01 b1 b0 hWr hW0 hu hsub hR k0 k1 k2 k3 k4 hltr hB
  generalize S r.lang = lg at *
  generalize r.fields.length = n at *
  go_enter Tryz.func35, Tryz.ntmps35
  go_upto_region 1 with fail
  rw [HWr.out]
  go_upto_region 2 with fail
  rw [HW0.out, HHB.out]
  go_wp2_with fail
  refine (CF.out).mono ?_
  rintro e w1 ⟨v', rfl, h1, h2⟩
  obtain ⟨g1, cp1, rfl, hc1, hm1⟩ := h1.length
  unfold maxLen at hm1
  obtain ⟨m, hm⟩ : ∃ m, F.length = m := ⟨_, rfl⟩
  have HFL := Lib.hid h1
  rw [hm] at HFL HMem HSn hlen hc1 ⊢
  have HM := Lib.hid hm
  have HB1 := Lib.hid h2
  clear h1 h2 hm l0 l1 l2 l3 l4
  go_wp2
  go_loopw [3, 5] (fun o i wr => ∃ k : Nat, k ≤ m ∧ i = .int .i64 (k : Int) ∧ RowKit.Hid (((∃ ad0, o = .slice (some ad0) 0 0) ∧ subjO (F.take k) = []) ∨ wr.ownsRow w1.heap.size 9 1 o (subjO (F.take k)).length ((subjO (F.take k)).map strB)) ∧ Below w1.heap.size w1 wr) (fun _ i _ => m - (intOf i).toNat)
  case atStart => exact ⟨0, Nat.zero_le _, rfl, .inl ⟨⟨_, rfl⟩, by rw [List.take_zero]; rfl⟩, Below.refl _ _⟩
  case round =>
    obtain ⟨k, hk, rfl, hown, hbw⟩ := hrel
    have HBk := Lib.hid hbw
    by_cases hkm : k < m
    · obtain ⟨g, o, cap', x, he, hg, c0, c1, c2, c3, hq⟩ := (HFL.out.after hbw).at k (by rw [HM.out]; exact hkm)
      obtain ⟨ha, -, hcp⟩ := Value.slice.inj he
      subst ha hcp
      clear he
      have HS1 := Lib.hid (HMem.out k hkm)
      have hsn := HSn.out k hkm
      have hln := HLn.out k
      have i1 : (0 : Int) ≤ (k : Int) := by omega
      have i2 : (k : Int) < (m : Int) := by omega
      obtain ⟨f, hf⟩ : ∃ f, F.getD k fd0 = f := ⟨_, rfl⟩
      rw [hf] at c0 c1 c3 hq HS1 hsn
      have c1' := Lib.hid (cA.out f x wr hq (by have := HS1.out.1; omega))
      have hle := allL_length f.subs [97, 120, 121, 122]
      have hsm := allL_small f.subs [97, 120, 121, 122] HS1.out.2
      have hsz : (subjO (F.take k)).length ≤ 10000 := by rw [List.length_take] at hln; omega
      have hm0 : (allL f.subs [97, 120, 121, 122]).length ≤ 1000 := Nat.le_trans hle HS1.out.1
      obtain ⟨P, hP⟩ : ∃ P, subjO (F.take k) = P := ⟨_, rfl⟩
      rw [hP] at hsn hown hsz
      unfold subjF at hsn
      generalize allL f.subs [97, 120, 121, 122] = M at *
      have HSn1 := Lib.hid hsn
      have HSm := Lib.hid hsm
      have HOwn := Lib.hid hown.out
      obtain ⟨ax, nx, cx, hx⟩ : ∃ ax nx cx, x = .slice ax nx cx := by obtain ⟨ax, cx, rfl, _⟩ := hq; exact ⟨_, _, _, rfl⟩
      subst hx
      clear hsn hown hsm hle hf hq hbw hln HS1 hP
      generalize S f.tag = t0 at *
      generalize S f.ind = t1 at *
      generalize f.auth = t3 at *
      go_wp2_with fail
      refine (c1'.out).mono ?_
      rintro e w2 ⟨v2, rfl, h1, h2⟩
      have HBl := Lib.hid h1
      obtain ⟨a2, cap2, rfl, hc2, hm2, _, _⟩ := h1
      have HB2 := Lib.hid (HBk.out.trans (h2.mono HBk.out.size))
      have HOwn2 := Lib.hid (HOwn.out.imp id (fun h => own_after h h2))
      by_cases h0 : M.length = 0
      · have hsn := HSn1.out
        rw [if_pos h0, List.append_nil] at hsn
        have HS3 := Lib.hid hsn
        rw [h0]
        clear hsn h2 HSn1 hc2
        go_wp2
        go_roundw
        case rel => exact ⟨k + 1, by omega, by go_num, by rw [HS3.out]; exact HOwn2, HB2.out⟩
        case measure => simp [intOf]; omega
      · have hsn := HSn1.out
        rw [if_neg h0] at hsn
        have HS3 := Lib.hid hsn
        obtain ⟨mm, hmm⟩ : ∃ mm, M.length = mm := ⟨_, rfl⟩
        have cJ2 := Lib.hid (cJ.out _ M w2 HBl.out HSm.out hm0)
        rw [hmm] at h0 hm0 hc2 HS3 cJ2 ⊢
        have d2 : (0 : Int) < (mm : Int) := by omega
        obtain ⟨jt, hjt⟩ : ∃ jt, joinK [45, 45] M mm = jt := ⟨_, rfl⟩
        rw [hjt] at HS3 cJ2
        have hsz2 : w1.heap.size ≤ w2.heap.size := HB2.out.size
        have hown3 := Lib.hid (show ((∃ ad0, u3 = .slice (some ad0) 0 0) ∧ P = []) ∨ (w2.alloc (.cells #[strB jt] 9)).ownsRow w1.heap.size 9 1 u3 P.length (P.map strB) from HOwn2.out.imp id (fun h => h.alloc _))
        have ba := (Below.refl w2.heap.size w2).alloc (Nat.le_refl _) (.cells #[strB jt] 9)
        have HBa := Lib.hid (HB2.out.trans (ba.mono hsz2))
        have HBas := Lib.hid (Nat.le_trans hsz2 ba.size)
        clear hsn h2 HSn1 hc2 hmm hjt ba
        go_wp2_with fail
        refine (cJ2.out).mono ?_
        rintro e w5 ⟨rfl, rfl⟩
        go_wp2_with (at_builtin; refine append_str _ rfl _ _ rfl w1.heap.size u3 P rfl hown3.out ⟨w5.heap.size, 0, none⟩ jt rfl (cells_one _ _ _) (by omega) HBas.out ?_; intro v3 w3 hown4 hb4)
        go_roundw
        case rel => exact ⟨k + 1, by omega, by go_num, .inr (by rw [HS3.out]; exact hown4), HBa.out.trans hb4⟩
        case measure => simp [intOf]; omega
    · obtain rfl : k = m := by omega
      have hT : F.take k = F := by rw [← HM.out, List.take_length]
      rw [hT] at hown
      have hbl := bl_or hown.out
      have HBL := Lib.hid hbl
      have hfb := HB0.out.trans ((HB1.out.trans (hbw.mono HB1.out.size)).mono HB0.out.size)
      have Fin := Lib.hid hfb
      clear hown hbw hbl hT hfb HBk
      go_wp2
      go_ret
      exact ⟨_, rfl, HBL.out, Fin.out⟩
end

section
open Go.RowKit Go.PlainAid
theorem joinD_small (L : List (List UInt8)) (hL : ∀ i, (L.getD i []).length ≤ 1000000) (hn : L.length ≤ 1000) : (joinK [45, 45] L L.length).length ≤ 2000000000 := by
  have := joinK_le [45, 45] L (by simp) hL L.length
  have h2 : L.length * 1001000 ≤ 1000 * 1001000 := Nat.mul_le_mul_right _ hn
  omega
theorem joinD_K (L : List (List UInt8)) : ∀ k, k ≤ L.length → joinK [45, 45] L k = Lib.join (L.take k) [45, 45]
  | 0, _ => by rw [List.take_zero]; rfl
  | k + 1, h => by
    have hk : k < L.length := by omega
    have e : L.take (k + 1) = L.take k ++ [L[k]] := List.take_succ_eq_append_getElem hk
    have eg : L.getD k [] = L[k] := by rw [List.getD_eq_getElem?_getD, List.getElem?_eq_getElem hk]; rfl
    rw [joinK]
    by_cases h0 : k = 0
    · subst h0
      rw [if_pos rfl, e, List.take_zero, List.nil_append, Lib.join_one, eg]
    · rw [if_neg h0, joinD_K L k (by omega), e, eg]
      obtain ⟨x, r, hx⟩ : ∃ x r, L.take k = x :: r := by
        cases hL : L.take k with
        | nil =>
          have := congrArg List.length hL
          rw [List.length_take, List.length_nil] at this
          omega
        | cons x r => exact ⟨x, r, rfl⟩
      rw [hx, List.cons_append, Lib.join_cons, Lib.join_cons]
      unfold Lib.joinTail
      simp
theorem joinD_plain (L : List (List UInt8)) : Lib.join L [45, 45] = joinK [45, 45] L L.length := by
  have := joinD_K L L.length (Nat.le_refl _)
  rw [List.take_length] at this
  exact this.symm

/-- strings.Join with two strokes. -/
theorem cJoinD (v : Value) (L : List (List UInt8)) (w : World) (hv : BL v L w) (hL : ∀ i, (L.getD i []).length ≤ 1000000) (hn : L.length ≤ 1000) :
    Calls Tryz.prog 63 #[v, .string ⟨#[45, 45]⟩] w fun e w' => e = .returned (.string (S (joinK [45, 45] L L.length))) ∧ Below w.heap.size w w' := by
  have hjs := joinD_small L hL hn
  obtain ⟨a, cap, rfl, hcap, hmax, hn0, hcell⟩ := hv
  by_cases h0 : L.length = 0
  · have : L = [] := List.eq_nil_of_length_eq_zero h0
    subst this
    refine (Tryz.strings_Join_none a cap ⟨#[45, 45]⟩ w).mono fun e w' hh => ?_
    obtain ⟨he, rfl⟩ := hh
    exact ⟨he, Below.refl _ _⟩
  · obtain ⟨g, o, rfl, hg, _⟩ := hcell 0 (by omega)
    have hmap : (L.map S).map (·.data.toList) = L := by
      rw [List.map_map]
      conv => rhs; rw [← List.map_id L]
      exact List.map_congr_left fun x _ => rfl
    have h := Tryz.strings_Join g o cap (L.map S) ⟨#[45, 45]⟩ w (fun j x hx => by
      have hj : j < L.length := by
        have := (List.getElem?_eq_some_iff.1 hx).1
        rwa [List.length_map] at this
      obtain ⟨g', o', he, _, hc⟩ := hcell j hj
      simp only [Option.some.injEq, Addr.mk.injEq] at he
      obtain ⟨rfl, rfl, _⟩ := he
      rw [hc]
      rw [List.getElem?_map, List.getElem?_eq_getElem hj] at hx
      simp only [Option.map_some, Option.some.injEq] at hx
      rw [← hx, List.getD_eq_getElem?_getD, List.getElem?_eq_getElem hj]
      rfl) hg (by rw [List.length_map]; omega) (by rw [List.length_map]; exact hcap) (by
        rw [hmap, show (⟨#[45, 45]⟩ : ByteArray).data.toList = [45, 45] from rfl, joinD_plain]
        omega)
    rw [List.length_map, hmap, show (⟨#[45, 45]⟩ : ByteArray).data.toList = [45, 45] from rfl, joinD_plain] at h
    exact h

set_option maxHeartbeats 16000000 in
set_option maxRecDepth 100000 in
theorem pSubjects_any (r : Rec) (u : Value) (w : World) (hu : FL u r.fields w) (hs : r.fields.length ≤ 10000) (hsub : ∀ f ∈ r.fields, f.subs.length ≤ 1000 ∧ ∀ i, (f.subs.getD i sub0).2.length ≤ 1000) :
    Calls Tryz.prog 34 #[RV r u] w fun e w' => ∃ v, e = .returned v ∧ BL v (subjR r.fields) w' ∧ Below w.heap.size w w' := by
  obtain ⟨a, cap, rfl, hcap, hmax⟩ := hu.length
  unfold maxLen at hmax
  have hmem : ∀ k, k < (fieldsL r.fields [54]).length → ((fieldsL r.fields [54]).getD k fd0).subs.length ≤ 1000 ∧ ∀ i, (((fieldsL r.fields [54]).getD k fd0).subs.getD i sub0).2.length ≤ 1000 := by
    intro k hk
    rw [List.getD_eq_getElem?_getD, List.getElem?_eq_getElem hk]
    exact hsub _ (List.mem_filter.1 (List.getElem_mem hk)).1
  have hlen := fieldsL_length r.fields [54]
  have HSn := Lib.hid (subjO_snoc (fieldsL r.fields [54]))
  have HLn := Lib.hid (fun k => subjO_len ((fieldsL r.fields [54]).take k))
  have cA := Lib.hid (fun (f : Fld) x W hq h => fAll_any f x W hq [97, 120, 121, 122] h)
  have cJ := Lib.hid (fun v L W hv hL hn => cJoinD v L W hv hL hn)
  unfold FV at cA
  have e4 : S [97, 120, 121, 122] = ⟨#[97, 120, 121, 122]⟩ := rfl
  rw [e4] at cA
  obtain ⟨Wr, hWr⟩ : ∃ Wr, w.alloc (.cells #[.int .i64 r.id, .int .i64 r.ver, .int .i64 r.kind, .string (S r.lang), .slice a r.fields.length cap] 24) = Wr := ⟨_, rfl⟩
  have b0 : Below w.heap.size w Wr := by rw [← hWr]; exact (Below.refl w.heap.size w).alloc (Nat.le_refl _) _
  have l0 : Wr.cell? ⟨w.heap.size, 0, none⟩ = some (.int .i64 r.id) := by rw [← hWr]; simp
  have l1 : Wr.cell? ⟨w.heap.size, 1, none⟩ = some (.int .i64 r.ver) := by rw [← hWr]; simp
  have l2 : Wr.cell? ⟨w.heap.size, 2, none⟩ = some (.int .i64 r.kind) := by rw [← hWr]; simp
  have l3 : Wr.cell? ⟨w.heap.size, 3, none⟩ = some (.string (S r.lang)) := by rw [← hWr]; simp
  have l4 : Wr.cell? ⟨w.heap.size, 4, none⟩ = some (.slice a r.fields.length cap) := by rw [← hWr]; simp
  have cF := pFields_any r _ Wr (hu.after b0) [54] (by omega)
  have e1 : S [54] = ⟨#[54]⟩ := rfl
  rw [e1] at cF
  unfold RV at cF ⊢
  have CF := Lib.hid cF
  have HWr := Lib.hid hWr
  have HB0 := Lib.hid b0
  have HMem := Lib.hid hmem
  obtain ⟨F, hF⟩ : ∃ F, fieldsL r.fields [54] = F := ⟨_, rfl⟩
  have hR : subjR r.fields = subjO F := by rw [← hF]; rfl
  rw [hF] at HMem HSn HLn hlen CF
  rw [hR]
  clear cF hmem hF b0 hWr hu hsub hR
  generalize S r.lang = lg at *
  generalize r.fields.length = n at *
  go_enter Tryz.func34, Tryz.ntmps34
  go_upto_region 1 with fail
  rw [HWr.out]
  go_wp2_with fail
  refine (CF.out).mono ?_
  rintro e w1 ⟨v', rfl, h1, h2⟩
  obtain ⟨g1, cp1, rfl, hc1, hm1⟩ := h1.length
  unfold maxLen at hm1
  obtain ⟨m, hm⟩ : ∃ m, F.length = m := ⟨_, rfl⟩
  have HFL := Lib.hid h1
  rw [hm] at HFL HMem HSn hlen hc1 ⊢
  have HM := Lib.hid hm
  have HB1 := Lib.hid h2
  clear h1 h2 hm l0 l1 l2 l3 l4
  go_wp2
  go_loopw [3, 10] (fun o i wr => ∃ k : Nat, k ≤ m ∧ i = .int .i64 (k : Int) ∧ RowKit.Hid (wr.ownsRow w1.heap.size 9 1 o (subjO (F.take k)).length ((subjO (F.take k)).map strB)) ∧ Below w1.heap.size w1 wr) (fun _ i _ => m - (intOf i).toNat)
  case atStart => exact ⟨0, Nat.zero_le _, rfl, World.ownsRow_nil _ _ _ _, Below.refl _ _⟩
  case round =>
    obtain ⟨k, hk, rfl, hown, hbw⟩ := hrel
    have HBk := Lib.hid hbw
    by_cases hkm : k < m
    · obtain ⟨g, o, cap', x, he, hg, c0, c1, c2, c3, hq⟩ := (HFL.out.after hbw).at k (by rw [HM.out]; exact hkm)
      obtain ⟨ha, -, hcp⟩ := Value.slice.inj he
      subst ha hcp
      clear he
      have HS1 := Lib.hid (HMem.out k hkm)
      have hsn := HSn.out k hkm
      have hln := HLn.out k
      have i1 : (0 : Int) ≤ (k : Int) := by omega
      have i2 : (k : Int) < (m : Int) := by omega
      obtain ⟨f, hf⟩ : ∃ f, F.getD k fd0 = f := ⟨_, rfl⟩
      rw [hf] at c0 c1 c3 hq HS1 hsn
      obtain ⟨ax, nx, cx, hx⟩ : ∃ ax nx cx, x = .slice ax nx cx := by obtain ⟨ax, cx, rfl, _⟩ := hq; exact ⟨_, _, _, rfl⟩
      subst hx
      obtain ⟨wa, hwa⟩ : ∃ wa, wr.alloc (.cells #[.string (S f.tag), .string (S f.ind), .slice ax nx cx, .int .i64 f.auth] 35) = wa := ⟨_, rfl⟩
      have ba : Below wr.heap.size wr wa := by rw [← hwa]; exact (Below.refl _ _).alloc (Nat.le_refl _) _
      have y0 : wa.cell? ⟨wr.heap.size, 0, none⟩ = some (.string (S f.tag)) := by rw [← hwa]; simp
      have y1 : wa.cell? ⟨wr.heap.size, 1, none⟩ = some (.string (S f.ind)) := by rw [← hwa]; simp
      have y2 : wa.cell? ⟨wr.heap.size, 2, none⟩ = some (.slice ax nx cx) := by rw [← hwa]; simp
      have y3 : wa.cell? ⟨wr.heap.size, 3, none⟩ = some (.int .i64 f.auth) := by rw [← hwa]; simp
      have HWA := Lib.hid hwa
      have HBa := Lib.hid (hbw.trans (ba.mono hbw.size))
      have c1' := Lib.hid (cA.out f (.slice ax nx cx) wa (hq.after ba) (by have := HS1.out.1; omega))
      have hle := allL_length f.subs [97, 120, 121, 122]
      have hsm := allL_small f.subs [97, 120, 121, 122] HS1.out.2
      have hsz : (subjO (F.take k)).length ≤ 10000 := by rw [List.length_take] at hln; omega
      have hm0 : (allL f.subs [97, 120, 121, 122]).length ≤ 1000 := Nat.le_trans hle HS1.out.1
      obtain ⟨P, hP⟩ : ∃ P, subjO (F.take k) = P := ⟨_, rfl⟩
      rw [hP] at hsn hown hsz
      unfold subjF at hsn
      generalize allL f.subs [97, 120, 121, 122] = M at *
      have HSn1 := Lib.hid hsn
      have HSm := Lib.hid hsm
      have HOwn := Lib.hid (own_after hown.out ba)
      clear hsn hown hsm hle hf hq hbw hln HS1 hP hwa ba
      generalize S f.tag = t0 at *
      generalize S f.ind = t1 at *
      generalize f.auth = t3 at *
      go_upto_region 5 with fail
      rw [HWA.out]
      go_wp2_with fail
      refine (c1'.out).mono ?_
      rintro e w2 ⟨v2, rfl, h1, h2⟩
      have HBl := Lib.hid h1
      obtain ⟨a2, cap2, rfl, hc2, hm2, _, _⟩ := h1
      have HB2 := Lib.hid (HBa.out.trans (h2.mono HBa.out.size))
      have HOwn2 := Lib.hid (own_after HOwn.out h2)
      by_cases h0 : M.length = 0
      · have hsn := HSn1.out
        rw [if_pos h0, List.append_nil] at hsn
        have HS3 := Lib.hid hsn
        rw [h0]
        clear hsn h2 HSn1 hc2
        go_wp2
        go_roundw
        case rel => exact ⟨k + 1, by omega, by go_num, by rw [HS3.out]; exact HOwn2, HB2.out⟩
        case measure => simp [intOf]; omega
      · have hsn := HSn1.out
        rw [if_neg h0] at hsn
        have HS3 := Lib.hid hsn
        obtain ⟨mm, hmm⟩ : ∃ mm, M.length = mm := ⟨_, rfl⟩
        have cJ2 := Lib.hid (cJ.out _ M w2 HBl.out HSm.out hm0)
        rw [hmm] at h0 hm0 hc2 HS3 cJ2 ⊢
        have d2 : (0 : Int) < (mm : Int) := by omega
        obtain ⟨jt, hjt⟩ : ∃ jt, joinK [45, 45] M mm = jt := ⟨_, rfl⟩
        rw [hjt] at HS3 cJ2
        clear hsn h2 HSn1 hc2 hmm hjt
        go_wp2_with fail
        refine (cJ2.out).mono ?_
        rintro e w5 ⟨rfl, h5⟩
        have HB5 := Lib.hid (HB2.out.trans (h5.mono HB2.out.size))
        have hsz2 : w1.heap.size ≤ w5.heap.size := HB5.out.size
        have hown3 := Lib.hid (show ((∃ ad0, u3 = .slice (some ad0) 0 0) ∧ P = []) ∨ (w5.alloc (.cells #[strB jt] 9)).ownsRow w1.heap.size 9 1 u3 P.length (P.map strB) from .inr ((own_after HOwn2.out h5).alloc _))
        have ba := (Below.refl w5.heap.size w5).alloc (Nat.le_refl _) (.cells #[strB jt] 9)
        have HBa5 := Lib.hid (HB5.out.trans (ba.mono hsz2))
        have HBas := Lib.hid (Nat.le_trans hsz2 ba.size)
        clear ba h5
        go_wp2_with (at_builtin; refine append_str _ rfl _ _ rfl w1.heap.size u3 P rfl hown3.out ⟨w5.heap.size, 0, none⟩ jt rfl (cells_one _ _ _) (by omega) HBas.out ?_; intro v3 w3 hown4 hb4)
        go_roundw
        case rel => exact ⟨k + 1, by omega, by go_num, by rw [HS3.out]; exact hown4, HBa5.out.trans hb4⟩
        case measure => simp [intOf]; omega
    · obtain rfl : k = m := by omega
      have hT : F.take k = F := by rw [← HM.out, List.take_length]
      rw [hT] at hown
      have hbl := BL.of_row hown.out
      have HBL := Lib.hid hbl
      have hfb := HB0.out.trans ((HB1.out.trans (hbw.mono HB1.out.size)).mono HB0.out.size)
      have Fin := Lib.hid hfb
      obtain ⟨ao, co, ho⟩ := own_form hown.out
      subst ho
      clear hown hbw hbl hT hfb HBk
      go_wp2
      go_ret
      exact ⟨_, rfl, HBL.out, Fin.out⟩
end

section
open Go.RowKit Go.PlainAid
def e245 : Fld := ⟨[50, 52, 53], [49, 48], [(97, [68, 111, 103, 115, 32, 58]), (98, [97, 32, 103, 117, 105, 100, 101])], 0⟩
def e100 : Fld := ⟨[49, 48, 48], [49, 32], [(97, [83, 109, 105, 116, 104, 44, 32, 65, 110, 110])], 0⟩
def e264 : Fld := ⟨[50, 54, 52], [32, 49], [(97, [76, 111, 110, 100, 111, 110]), (99, [91, 99, 49, 57, 57, 56, 44, 32, 49, 57, 57, 57, 93])], 0⟩
def e650 : Fld := ⟨[54, 53, 48], [32, 48], [(97, [68, 111, 103, 115]), (120, [72, 105, 115, 116, 111, 114, 121])], 0⟩
def exL : List Fld := [e245, e100, e264, e650]
def exR : Rec := { id := 1, ver := 3, kind := 1, lang := [101, 110, 103], fields := exL }
theorem exR_right : rightRI exR = 0 := by decide +kernel
theorem exR_title : titleL exL = [68, 111, 103, 115, 32, 58, 32, 97, 32, 103, 117, 105, 100, 101] := by decide
theorem exR_author : authorO exL atags = [83, 109, 105, 116, 104, 44, 32, 65, 110, 110] := by decide
theorem exR_year : yearR exL = 1998 := by decide +kernel
theorem exR_subj : subjR exL = [[68, 111, 103, 115, 45, 45, 72, 105, 115, 116, 111, 114, 121]] := by decide +kernel
theorem exR_two : (fieldsL exL [50]).length = 2 := by decide
theorem exR_same : sameRB exR exR = true := by decide +kernel
theorem exR_ins : (insR exR 5 e245).2 = 2 := by decide +kernel
theorem exR_rem : (remR exR 4).2 = 2 := by decide +kernel
theorem exR_sorted (N : List Fld) (h : Stab Fld.tag N exL) : N.length = 4 ∧ (N.getD 0 fd0).tag = [49, 48, 48] ∧ (N.getD 3 fd0).tag = [54, 53, 48] := by
  have hl : N.length = 4 := h.keep.len
  match N, hl with
  | [a, b, c, d], _ =>
    refine ⟨rfl, ?_, ?_⟩
    · have ha : a ∈ exL := (h.keep.mem a).1 (by simp)
      have h1 : e100 ∈ [a, b, c, d] := (h.keep.mem e100).2 (by simp [exL])
      have h2 : kc Fld.tag a e100 ≤ 0 := by
        have := List.pairwise_cons.1 h.asc
        rcases List.mem_cons.1 h1 with h1 | h1
        · rw [← h1, kc_refl]; omega
        · exact this.1 _ h1
      show a.tag = _
      simp only [exL, List.mem_cons, List.not_mem_nil, or_false] at ha
      rcases ha with rfl | rfl | rfl | rfl
      · exact absurd h2 (by decide +kernel)
      · rfl
      · exact absurd h2 (by decide +kernel)
      · exact absurd h2 (by decide +kernel)
    · have hd : d ∈ exL := (h.keep.mem d).1 (by simp)
      have h1 : e650 ∈ [a, b, c, d] := (h.keep.mem e650).2 (by simp [exL])
      have h2 : kc Fld.tag e650 d ≤ 0 := by
        have := h.asc
        unfold Asc at this
        simp only [List.pairwise_cons, List.mem_cons, List.not_mem_nil, or_false] at this
        simp only [List.mem_cons, List.not_mem_nil, or_false] at h1
        rcases h1 with h1 | h1 | h1 | h1
        · rw [h1]; exact this.1 d (by simp)
        · rw [h1]; exact this.2.1 d (by simp)
        · rw [h1]; exact this.2.2.1 d (by simp)
        · rw [h1, kc_refl]; omega
      show d.tag = _
      simp only [exL, List.mem_cons, List.not_mem_nil, or_false] at hd
      rcases hd with rfl | rfl | rfl | rfl
      · exact absurd h2 (by decide +kernel)
      · exact absurd h2 (by decide +kernel)
      · exact absurd h2 (by decide +kernel)
      · rfl

/-- Six objects, laid one after another. -/
theorem six_heap (w : World) (o0 o1 o2 o3 o4 o5 : Obj) :
    let W := (((((w.alloc o0).alloc o1).alloc o2).alloc o3).alloc o4).alloc o5
    W.heap[w.heap.size]? = some o0 ∧ W.heap[w.heap.size + 1]? = some o1 ∧ W.heap[w.heap.size + 1 + 1]? = some o2 ∧ W.heap[w.heap.size + 1 + 1 + 1]? = some o3 ∧ W.heap[w.heap.size + 1 + 1 + 1 + 1]? = some o4 ∧ W.heap[w.heap.size + 1 + 1 + 1 + 1 + 1]? = some o5 ∧ Below w.heap.size w W := by
  refine ⟨?_, ?_, ?_, ?_, ?_, ?_, (((((((Below.refl w.heap.size w).alloc (Nat.le_refl _) _).alloc (by simp) _).alloc (by simp; omega) _).alloc (by simp; omega) _).alloc (by simp; omega) _).alloc (by simp; omega) _)⟩ <;>
  · simp only [World.alloc, Array.getElem?_push, Array.size_push]
    repeat' split
    all_goals first | rfl | omega | exact absurd trivial (by assumption)
/-- A row of one or two subfields. -/
theorem ql_one {W : World} {b : Nat} (c1 : UInt8) (v1 : List UInt8) (h : W.heap[b]? = some (.cells #[.int .u8 (c1.toNat : Int), .string (S v1)] 54 (0, 0))) : QL (.slice (some ⟨b, 0, none⟩) 1 1) [(c1, v1)] W := by
  refine ⟨_, 1, rfl, Nat.le_refl _, by decide, (fun h => by cases h), fun i hi => ⟨b, 0, rfl, (Array.getElem?_eq_some_iff.1 h).1, ?_, ?_⟩⟩
  · rw [Lib.cell_of_heap h]
    match i, hi with
    | 0, _ => rfl
    | (i + 1), hi => exact absurd hi (by simp)
  · rw [Lib.cell_of_heap h]
    match i, hi with
    | 0, _ => rfl
    | (i + 1), hi => exact absurd hi (by simp)
theorem ql_two {W : World} {b : Nat} (c1 c2 : UInt8) (v1 v2 : List UInt8) (h : W.heap[b]? = some (.cells #[.int .u8 (c1.toNat : Int), .string (S v1), .int .u8 (c2.toNat : Int), .string (S v2)] 54 (0, 0))) : QL (.slice (some ⟨b, 0, none⟩) 2 2) [(c1, v1), (c2, v2)] W := by
  refine ⟨_, 2, rfl, Nat.le_refl _, by decide, (fun h => by cases h), fun i hi => ⟨b, 0, rfl, (Array.getElem?_eq_some_iff.1 h).1, ?_, ?_⟩⟩
  · rw [Lib.cell_of_heap h]
    match i, hi with
    | 0, _ => rfl
    | 1, _ => rfl
    | (i + 2), hi => exact absurd hi (by simp)
  · rw [Lib.cell_of_heap h]
    match i, hi with
    | 0, _ => rfl
    | 1, _ => rfl
    | (i + 2), hi => exact absurd hi (by simp)

set_option maxHeartbeats 8000000 in
set_option maxRecDepth 100000 in
theorem example_any (w : World) : Calls Tryz.prog 37 #[] w fun e w' => ∃ v, e = .returned (RV exR v) ∧ FL v exL w' ∧ Below w.heap.size w w' := by
  go_enter Tryz.func37, Tryz.ntmps37
  go_wp2
  have h6 := six_heap w (.cells #[.int .i64 1, .int .i64 3, .int .i64 1, .string ⟨#[101, 110, 103]⟩, .slice (some ⟨w.heap.size + 1 + 1 + 1 + 1 + 1, 0, none⟩) 4 4] 24)
    (.cells #[.int .u8 97, .string ⟨#[68, 111, 103, 115, 32, 58]⟩, .int .u8 98, .string ⟨#[97, 32, 103, 117, 105, 100, 101]⟩] 54)
    (.cells #[.int .u8 97, .string ⟨#[83, 109, 105, 116, 104, 44, 32, 65, 110, 110]⟩] 54)
    (.cells #[.int .u8 97, .string ⟨#[76, 111, 110, 100, 111, 110]⟩, .int .u8 99, .string ⟨#[91, 99, 49, 57, 57, 56, 44, 32, 49, 57, 57, 57, 93]⟩] 54)
    (.cells #[.int .u8 97, .string ⟨#[68, 111, 103, 115]⟩, .int .u8 120, .string ⟨#[72, 105, 115, 116, 111, 114, 121]⟩] 54)
    (.cells #[.string ⟨#[50, 52, 53]⟩, .string ⟨#[49, 48]⟩, .slice (some ⟨w.heap.size + 1, 0, none⟩) 2 2, .int .i64 0,
      .string ⟨#[49, 48, 48]⟩, .string ⟨#[49, 32]⟩, .slice (some ⟨w.heap.size + 1 + 1, 0, none⟩) 1 1, .int .i64 0,
      .string ⟨#[50, 54, 52]⟩, .string ⟨#[32, 49]⟩, .slice (some ⟨w.heap.size + 1 + 1 + 1, 0, none⟩) 2 2, .int .i64 0,
      .string ⟨#[54, 53, 48]⟩, .string ⟨#[32, 48]⟩, .slice (some ⟨w.heap.size + 1 + 1 + 1 + 1, 0, none⟩) 2 2, .int .i64 0] 35)
  obtain ⟨W, hW⟩ : ∃ W, (((((w.alloc (.cells #[.int .i64 1, .int .i64 3, .int .i64 1, .string ⟨#[101, 110, 103]⟩, .slice (some ⟨w.heap.size + 1 + 1 + 1 + 1 + 1, 0, none⟩) 4 4] 24)).alloc
    (.cells #[.int .u8 97, .string ⟨#[68, 111, 103, 115, 32, 58]⟩, .int .u8 98, .string ⟨#[97, 32, 103, 117, 105, 100, 101]⟩] 54)).alloc
    (.cells #[.int .u8 97, .string ⟨#[83, 109, 105, 116, 104, 44, 32, 65, 110, 110]⟩] 54)).alloc
    (.cells #[.int .u8 97, .string ⟨#[76, 111, 110, 100, 111, 110]⟩, .int .u8 99, .string ⟨#[91, 99, 49, 57, 57, 56, 44, 32, 49, 57, 57, 57, 93]⟩] 54)).alloc
    (.cells #[.int .u8 97, .string ⟨#[68, 111, 103, 115]⟩, .int .u8 120, .string ⟨#[72, 105, 115, 116, 111, 114, 121]⟩] 54)).alloc
    (.cells #[.string ⟨#[50, 52, 53]⟩, .string ⟨#[49, 48]⟩, .slice (some ⟨w.heap.size + 1, 0, none⟩) 2 2, .int .i64 0,
      .string ⟨#[49, 48, 48]⟩, .string ⟨#[49, 32]⟩, .slice (some ⟨w.heap.size + 1 + 1, 0, none⟩) 1 1, .int .i64 0,
      .string ⟨#[50, 54, 52]⟩, .string ⟨#[32, 49]⟩, .slice (some ⟨w.heap.size + 1 + 1 + 1, 0, none⟩) 2 2, .int .i64 0,
      .string ⟨#[54, 53, 48]⟩, .string ⟨#[32, 48]⟩, .slice (some ⟨w.heap.size + 1 + 1 + 1 + 1, 0, none⟩) 2 2, .int .i64 0] 35) = W := ⟨_, rfl⟩
  rw [hW]
  simp only [hW] at h6
  obtain ⟨h0, h1, h2, h3, h4, h5, hb⟩ := h6
  clear hW
  refine bodyPost_ret (results_cell_row rfl _ _ w.heap.size _ _ _ _ rfl h0 Tryz.underlying24 rfl (by kernel_rfl)) rfl ?_
  refine ⟨.slice (some ⟨w.heap.size + 1 + 1 + 1 + 1 + 1, 0, none⟩) 4 4, rfl, ?_, hb⟩
  have lt5 := (Array.getElem?_eq_some_iff.1 h5).1
  refine ⟨_, 4, rfl, Nat.le_refl _, by decide, (fun h => by cases h), fun i hi => ?_⟩
  match i, hi with
  | 0, _ => exact ⟨_, 0, _, rfl, lt5, by rw [Lib.cell_of_heap h5]; rfl, by rw [Lib.cell_of_heap h5]; rfl, by rw [Lib.cell_of_heap h5]; rfl, by rw [Lib.cell_of_heap h5]; rfl, ql_two 97 98 [68, 111, 103, 115, 32, 58] [97, 32, 103, 117, 105, 100, 101] h1⟩
  | 1, _ => exact ⟨_, 0, _, rfl, lt5, by rw [Lib.cell_of_heap h5]; rfl, by rw [Lib.cell_of_heap h5]; rfl, by rw [Lib.cell_of_heap h5]; rfl, by rw [Lib.cell_of_heap h5]; rfl, ql_one 97 [83, 109, 105, 116, 104, 44, 32, 65, 110, 110] h2⟩
  | 2, _ => exact ⟨_, 0, _, rfl, lt5, by rw [Lib.cell_of_heap h5]; rfl, by rw [Lib.cell_of_heap h5]; rfl, by rw [Lib.cell_of_heap h5]; rfl, by rw [Lib.cell_of_heap h5]; rfl, ql_two 97 99 [76, 111, 110, 100, 111, 110] [91, 99, 49, 57, 57, 56, 44, 32, 49, 57, 57, 57, 93] h3⟩
  | 3, _ => exact ⟨_, 0, _, rfl, lt5, by rw [Lib.cell_of_heap h5]; rfl, by rw [Lib.cell_of_heap h5]; rfl, by rw [Lib.cell_of_heap h5]; rfl, by rw [Lib.cell_of_heap h5]; rfl, ql_two 97 120 [68, 111, 103, 115] [72, 105, 115, 116, 111, 114, 121] h4⟩
  | (i + 4), hi => exact absurd hi (by simp [exL])
end

end Go.Proofs.YtcnjjdbpcobolaaGreatDoor
