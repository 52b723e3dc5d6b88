/- Package rules: checkField. -/
import Derived.Test.YtjfdolmcecgdgaaDoorUH09
namespace Go.Proofs.YtjfdolmcecgdgaaDoor
open Go.RowKit Go.PlainAid

theorem RP.read {w0 : World} {B bl bi bf : Nat} {tg : List UInt8} {ix : Int} {L : List Prb} {W : World} (h : RP w0 B bl bi bf tg ix L W) : ∃ ao cp, W.cell? ⟨bl, 0, none⟩ = some (.slice ao L.length cp) ∧ PR B (.slice ao L.length cp) L W := by
  obtain ⟨⟨v, h1, h2⟩, _⟩ := h
  obtain ⟨ao, cp, rfl⟩ := own_form9 h2
  exact ⟨ao, cp, by rw [Lib.cell_of_heap h1]; rfl, h2⟩
/-- A field in its box. -/
def FBx (b : Nat) (f : Fld) (u : Value) (W : World) : Prop := W.heap[b]? = some (.cells #[.string (S f.tag), .string (S f.ind), u, .int .i64 f.auth] 47 (0, 0))
theorem FBx.fr {b bl : Nat} {f : Fld} {u : Value} {W W' : World} (h : FBx b f u W) (hne : b ≠ bl) (hf : Fr bl W W') : FBx b f u W' := hf.keep _ _ h hne (fun cs fr e => by cases e)
theorem FBx.lt {b : Nat} {f : Fld} {u : Value} {W : World} (h : FBx b f u W) : b < W.heap.size := (Array.getElem?_eq_some_iff.1 h).1
theorem FBx.after {b : Nat} {f : Fld} {u : Value} {W W' : World} (h : FBx b f u W) (hb : Below W.heap.size W W') : FBx b f u W' := (hb.block _ h.lt).trans h
theorem FBx.cells {b : Nat} {f : Fld} {u : Value} {W : World} (h : FBx b f u W) : W.cell? ⟨b, 0, none⟩ = some (.string (S f.tag)) ∧ W.cell? ⟨b, 1, none⟩ = some (.string (S f.ind)) ∧ W.cell? ⟨b, 2, none⟩ = some u ∧ W.cell? ⟨b, 3, none⟩ = some (.int .i64 f.auth) := by
  unfold FBx at h
  refine ⟨?_, ?_, ?_, ?_⟩ <;> (rw [Lib.cell_of_heap h]; rfl)
theorem ruledL_eq (t : Rul) (f : Fld) (i : Int) (again : Bool) (P3 P7 : List Prb) (h3 : (if (!t.rep && again) = true then [⟨3, i, f.tag, 0⟩] else []) = P3) (h7 : (if f.auth ≠ 0 ∧ t.auth = 0 then [⟨7, i, f.tag, 0⟩] else []) = P7) :
    ((P3 ++ subsL t f i f.subs.length) ++ needsL t f i t.needs.length) ++ P7 = ruledL t f i again := by
  unfold ruledL
  rw [h3, h7, List.append_assoc, List.append_assoc]

set_option maxHeartbeats 32000000 in
set_option maxRecDepth 100000 in
theorem uField_any (l : List Rul) (v : Value) (f : Fld) (u : Value) (w : World) (hv : TL v l w) (hq : QL u f.subs w) (ix : Int) (again : Bool) (hs : f.subs.length ≤ 1000) (hn : ∀ t ∈ l, t.needs.length ≤ 1000) :
    Calls Tryd.prog 34 #[v, FV f u, .int .i64 ix, .bool again] w fun e w' => ∃ v', e = .returned v' ∧ PR w.heap.size v' (oneL l f ix again) w' ∧ Below w.heap.size w w' := by
  have HV := Lib.hid hv
  have HQ := Lib.hid hq
  obtain ⟨a, cap, rfl, _, _⟩ := hv.length
  obtain ⟨au, cu, rfl, _, _⟩ := hq.length
  obtain ⟨t, b, hfind⟩ : ∃ t b, findR l f.tag = (t, b) := ⟨_, _, rfl⟩
  have hone : oneL l f ix again = if b = false then [⟨2, ix, f.tag, 0⟩] else ruledL t f ix again := by unfold oneL; rw [hfind]
  have htn : t.needs.length ≤ 1000 := by
    rcases findR_cases l f.tag with ⟨_, h'⟩ | ⟨_, h', _⟩
    · rw [hfind] at h'; rw [show t = rul0 from h']; exact Nat.zero_le _
    · rw [hfind] at h'; exact hn _ h'
  have cF := Lib.hid (fun W (h : TL (.slice a l.length cap) l W) => uFind_any l _ f.tag W h t b hfind)
  obtain ⟨W0, hW0⟩ : ∃ W0, ((w.alloc (.cells #[.string (S f.tag), .string (S f.ind), .slice au f.subs.length cu, .int .i64 f.auth] 47)).alloc (.cells #[.int .i64 ix] 3)).alloc (.cells #[.slice none 0 0] 39) = W0 := ⟨_, rfl⟩
  have hF0 : FBx w.heap.size f (.slice au f.subs.length cu) W0 := by
    unfold FBx
    rw [← hW0, Below.heap_alloc _ _ _ (by simp; omega), Below.heap_alloc _ _ _ (by simp)]
    exact heap_alloc_new w _
  have b0 : Below w.heap.size w W0 := by rw [← hW0]; exact (((Below.refl w.heap.size w).alloc (Nat.le_refl _) _).alloc (by simp) _).alloc (by simp; omega) _
  have hsz : W0.heap.size = w.heap.size + 1 + 1 + 1 := by rw [← hW0]; simp
  have hRP : RP w (w.heap.size + 1 + 1 + 1) (w.heap.size + 1 + 1) (w.heap.size + 1) w.heap.size f.tag ix [] W0 := by
    refine ⟨⟨.slice none 0 0, ?_, PR.nil _ _⟩, ?_, ⟨_, _, _, hF0⟩, b0, by omega⟩
    · rw [← hW0]
      have := heap_alloc_new ((w.alloc (.cells #[.string (S f.tag), .string (S f.ind), .slice au f.subs.length cu, .int .i64 f.auth] 47)).alloc (.cells #[.int .i64 ix] 3)) (.cells #[.slice none 0 0] 39)
      simpa using this
    · rw [← hW0, Below.heap_alloc _ _ _ (by simp)]
      have := heap_alloc_new (w.alloc (.cells #[.string (S f.tag), .string (S f.ind), .slice au f.subs.length cu, .int .i64 f.auth] 47)) (.cells #[.int .i64 ix] 3)
      simpa using this
  have HV0 := Lib.hid (HV.out.after b0)
  have HRP := Lib.hid hRP
  have HF0 := Lib.hid hF0
  have HW0 := Lib.hid hW0
  have HOne := Lib.hid hone
  have HSz := Lib.hid hsz
  have HDone := Lib.hid (fun (M : List Prb) (W : World) (ao : Option Addr) (cp : Nat) (h : RP w (w.heap.size + 1 + 1 + 1) (w.heap.size + 1 + 1) (w.heap.size + 1) w.heap.size f.tag ix M W) (hp : PR (w.heap.size + 1 + 1 + 1) (.slice ao M.length cp) M W) => (⟨hp.mono (by omega), h.bel⟩ : PR w.heap.size (.slice ao M.length cp) M W ∧ Below w.heap.size w W))
  have cR : RowKit.Hid (∀ (M : List Prb) (W : World), RP w (w.heap.size + 1 + 1 + 1) (w.heap.size + 1 + 1) (w.heap.size + 1) w.heap.size f.tag ix M W → ∀ kind : Int, M.length ≤ 900000 →
      Calls Tryd.prog 39 #[.int .i64 kind, .int .u8 0, .pointer (some ⟨w.heap.size + 1 + 1, 0, none⟩), .pointer (some ⟨w.heap.size + 1, 0, none⟩), .pointer (some ⟨w.heap.size, 0, none⟩)] W
        fun e W' => e = .returned (.tuple #[]) ∧ RP w (w.heap.size + 1 + 1 + 1) (w.heap.size + 1 + 1) (w.heap.size + 1) w.heap.size f.tag ix (M ++ [⟨kind, ix, f.tag, 0⟩]) W' ∧ Fr (w.heap.size + 1 + 1) W W') :=
    fun M W h kind hz => uReport_any w _ _ _ _ f.tag ix M W h kind 0 hz
  have cS := Lib.hid (fun L W h hL => uSubs_any w (w.heap.size + 1 + 1 + 1) (w.heap.size + 1 + 1) (w.heap.size + 1) w.heap.size t f (.slice au f.subs.length cu) ix L W HQ.out h hL (by omega) (by omega))
  have hl0 : w.heap.size < W0.heap.size := by omega
  have hl1 : w.heap.size + 1 < W0.heap.size := by omega
  have hl2 : w.heap.size + 1 + 1 < W0.heap.size := by omega
  have k0 := hF0.cells.1
  have HRu := Lib.hid (ruledL_eq t f ix again)
  have HRL := Lib.hid (ruledL_le t f ix again)
  have hsub2 := subs_bound t f ix [] f.subs.length t.needs.length (Nat.zero_le _) (by omega) (by omega)
  have HSL := Lib.hid (subsL_le t f ix f.subs.length)
  have HNL := Lib.hid (needsL_le t f ix t.needs.length)
  have HB0 := Lib.hid b0
  unfold FV
  obtain ⟨ns, hns⟩ : ∃ n, f.subs.length = n := ⟨_, rfl⟩
  obtain ⟨nl, hnl⟩ : ∃ n, l.length = n := ⟨_, rfl⟩
  obtain ⟨st, hst⟩ : ∃ s, S f.tag = s := ⟨_, rfl⟩
  have HFC := Lib.hid (fun W (h : FBx w.heap.size f (.slice au f.subs.length cu) W) => h.cells)
  rw [hns, hst] at HW0 HFC ⊢
  rw [hns] at cS HRu HRL HSL HF0 HQ hs
  rw [hnl] at cF HV0 HV ⊢
  rw [hst] at k0 cF
  clear hv hq hfind hone hW0 hF0 b0 hsz hRP hsub2 hns hnl hst hn
  unfold UV at cF cS
  generalize S f.ind = si at *
  generalize f.auth = va at *
  go_enter Tryd.func34, Tryd.ntmps34
  go_upto_region 3 with fail
  rw [HW0.out]
  clear HW0
  go_wp2_with fail
  refine (cF.out W0 HV0.out).mono ?_
  rintro e w1 ⟨rfl, d⟩
  have hne : w1.heap.size ≠ w.heap.size + 1 + 1 := by
    have := d.size
    omega
  have hA := (Below.refl w1.heap.size w1).alloc (Nat.le_refl _) (.cells #[.string (S t.tag), .bool t.rep, .bool t.must, .string (S t.codes), .string (S t.once), .string (S t.needs), .int .i64 t.auth] 25)
  have hU := UB.new t w1
  obtain ⟨wa, hwa⟩ : ∃ wa, w1.alloc (.cells #[.string (S t.tag), .bool t.rep, .bool t.must, .string (S t.codes), .string (S t.once), .string (S t.needs), .int .i64 t.auth] 25) = wa := ⟨_, rfl⟩
  rw [hwa] at hA hU
  have hRPa := (HRP.out.after d).after hA
  have hFa := (HF0.out.after d).after hA
  have HWA := Lib.hid hwa
  have HU := Lib.hid hU
  have HRPa := Lib.hid hRPa
  have HFa := Lib.hid hFa
  have HUC := Lib.hid (fun W (h : UB w1.heap.size t W) => h.cells)
  clear hwa hA d k0 hl0 hl1 hl2 HV0 cF HRP HF0 hRPa hFa hU
  go_upto_region 4 with fail
  rw [HWA.out]
  clear HWA
  obtain ⟨br, hbr⟩ : ∃ br, w1.heap.size = br := ⟨_, rfl⟩
  rw [hbr] at HU HUC hne ⊢
  clear hbr
  cases b
  · have HO := Lib.hid (show oneL l f ix again = [⟨2, ix, f.tag, 0⟩] from HOne.out)
    go_wp2_with fail
    refine (cR.out [] wa HRPa.out 2 (Nat.zero_le _)).mono ?_
    rintro e w5 ⟨rfl, hRP5, hFr5⟩
    obtain ⟨ao, cp, hcell, hp⟩ := hRP5.read
    have HD := Lib.hid (HDone.out _ _ _ _ hRP5 hp)
    clear hRP5 hFr5 hp
    rw [show (([] : List Prb) ++ [(⟨2, ix, f.tag, 0⟩ : Prb)]) = [⟨2, ix, f.tag, 0⟩] from rfl] at HD hcell
    rw [show ([(⟨2, ix, f.tag, 0⟩ : Prb)]).length = 1 from rfl] at HD hcell
    go_wp2
    go_ret
    exact ⟨_, rfl, by rw [HO.out]; exact HD.out.1, HD.out.2⟩
  have HO := Lib.hid (show oneL l f ix again = ruledL t f ix again from HOne.out)
  clear HOne
  obtain ⟨y0, y1, y2, y3, y4, y5, y6⟩ := HUC.out _ HU.out
  obtain ⟨P3, hP3⟩ : ∃ P, (if (!t.rep && again) = true then [(⟨3, ix, f.tag, 0⟩ : Prb)] else []) = P := ⟨_, rfl⟩
  have hP3l : P3.length ≤ 1 := by
    rw [← hP3]
    split
    · exact Nat.le_refl 1
    · exact Nat.zero_le _
  have HP3 := Lib.hid hP3
  clear hP3
  obtain ⟨vr, hvr⟩ : ∃ v, t.rep = v := ⟨_, rfl⟩
  rw [hvr] at y1 HP3
  have HVr := Lib.hid hvr
  clear hvr
  go_upto_region 7 with fail
  go_cut [31] from 26 to 31 (fun s31 wx => ∃ q, s31 = .bool q ∧ RowKit.Hid ((!vr && again) = q) ∧ wx = wa)
  case first =>
    cases again <;> cases vr
    all_goals
      go_wp2_with fail
      go_meet
      exact ⟨_, rfl, rfl, rfl⟩
  case rest =>
    obtain ⟨q, rfl, HQv, hwc⟩ := hcut
    rw [hwc]
    clear hwc
    go_upto_if 31 with fail
    go_cut [] from 32 to 33 (fun wx => RP w (w.heap.size + 1 + 1 + 1) (w.heap.size + 1 + 1) (w.heap.size + 1) w.heap.size f.tag ix P3 wx ∧ UB br t wx ∧ FBx w.heap.size f (.slice au ns cu) wx)
    case first =>
      cases q
      · have hP : [] = P3 := by
          have h := HP3.out
          rw [HQv.out] at h
          exact h
        clear y0 y1 y2 y3 y4 y5 y6
        go_wp2_with fail
        go_meet
        rw [← hP]
        exact ⟨HRPa.out, HU.out, HFa.out⟩
      · have hP : [⟨3, ix, f.tag, 0⟩] = P3 := by
          have h := HP3.out
          rw [HQv.out] at h
          exact h
        have HP := Lib.hid hP
        clear y0 y1 y2 y3 y4 y5 y6 hP
        go_wp2_with fail
        refine (cR.out [] wa HRPa.out 3 (Nat.zero_le _)).mono ?_
        rintro e w5 ⟨rfl, hRP5, hFr5⟩
        have h5 : RP w (w.heap.size + 1 + 1 + 1) (w.heap.size + 1 + 1) (w.heap.size + 1) w.heap.size f.tag ix P3 w5 ∧ UB br t w5 ∧ FBx w.heap.size f (.slice au ns cu) w5 := by
          rw [← HP.out]
          exact ⟨hRP5, HU.out.fr hne hFr5, HFa.out.fr (by omega) hFr5⟩
        have H5 := Lib.hid h5
        clear hRP5 hFr5 h5
        go_wp2_with fail
        go_meet
        exact H5.out
    case rest =>
      obtain ⟨hRPc, hUc, hFc⟩ := hcut
      have HRPc := Lib.hid hRPc
      have HUc := Lib.hid hUc
      have HFc := Lib.hid hFc
      clear y0 y1 y2 y3 y4 y5 y6 hRPc hUc hFc
      obtain ⟨y0, y1, y2, y3, y4, y5, y6⟩ := HUC.out _ HUc.out
      obtain ⟨f0, f1, f2, f3⟩ := HFC.out _ HFc.out
      have hltU := HUc.out.lt
      have hltF := HFc.out.lt
      go_wp2_with fail
      refine (cS.out P3 _ HRPc.out (by omega)).mono ?_
      rintro e w6 ⟨rfl, hRP6, hK6⟩
      have hU6 : UB br t w6 := ⟨hK6 _ _ hltU HUc.out.bx hne (fun cs fr e => by cases e)⟩
      have hF6 : FBx w.heap.size f (.slice au ns cu) w6 := hK6 _ _ hltF HFc.out (by omega) (fun cs fr e => by cases e)
      have HRP6 := Lib.hid hRP6
      have HU6 := Lib.hid hU6
      have HF6 := Lib.hid hF6
      clear hRP6 hK6 hU6 hF6 y0 y1 y2 y3 y4 y5 y6 f0 f1 f2 f3 hltU hltF HRPc HUc HFc HU HFa HRPa
      obtain ⟨y0, y1, y2, y3, y4, y5, y6⟩ := HUC.out _ HU6.out
      obtain ⟨f0, f1, f2, f3⟩ := HFC.out _ HF6.out
      have hlen : ((P3 ++ subsL t f ix ns) ++ needsL t f ix t.needs.length).length ≤ 900000 := by
        have h1 := HSL.out
        have h2 := HNL.out
        rw [List.length_append, List.length_append]
        omega
      obtain ⟨ta, hta⟩ : ∃ v, t.auth = v := ⟨_, rfl⟩
      rw [hta] at y6
      have HRu2 := Lib.hid (fun P7 h7 => HRu.out P3 P7 (by rw [HVr.out]; exact HP3.out) h7)
      rw [hta] at HRu2
      clear hta HVr HP3 HRu
      by_cases h7 : va ≠ 0 ∧ ta = 0
      · have hE := HRu2.out _ (if_pos h7)
        have d0 : (va != 0) = true := by simpa using h7.1
        obtain rfl := h7.2
        have HE := Lib.hid hE
        clear hE h7 HRu2
        go_wp2_with fail
        refine (cR.out _ w6 HRP6.out 7 hlen).mono ?_
        rintro e w7 ⟨rfl, hRP7, hFr7⟩
        rw [HE.out] at hRP7
        obtain ⟨ao, cp, hcell, hp⟩ := hRP7.read
        have HD := Lib.hid (HDone.out _ _ _ _ hRP7 hp)
        clear hRP7 hFr7 hp y0 y1 y2 y3 y4 y5 y6 f0 f1 f2 f3 HE HRP6
        go_wp2
        go_ret
        exact ⟨_, rfl, by rw [HO.out]; exact HD.out.1, HD.out.2⟩
      · have hE := HRu2.out _ (if_neg h7)
        rw [List.append_nil] at hE
        have hRP7 := HRP6.out
        rw [hE] at hRP7
        obtain ⟨ao, cp, hcell, hp⟩ := hRP7.read
        have HD := Lib.hid (HDone.out _ _ _ _ hRP7 hp)
        clear hE hRP7 hp HRP6
        by_cases h0 : va = 0
        · have d0 : (va != 0) = false := by simp [h0]
          clear h7 h0
          go_wp2
          go_ret
          exact ⟨_, rfl, by rw [HO.out]; exact HD.out.1, HD.out.2⟩
        · have d0 : (va != 0) = true := by simpa using h0
          have d1 : (ta == 0) = false := beq_eq_false_iff_ne.2 (fun h => h7 ⟨h0, h⟩)
          clear h7 h0
          go_wp2
          go_ret
          exact ⟨_, rfl, by rw [HO.out]; exact HD.out.1, HD.out.2⟩
end Go.Proofs.YtjfdolmcecgdgaaDoor
