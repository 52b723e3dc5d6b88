/- Package rules: Check, Sound. -/
import Derived.Test.YtjfdolmcecgdgaaDoorUJ09
namespace Go.Proofs.YtjfdolmcecgdgaaDoor
open Go.RowKit Go.PlainAid

/-- Rules and fields for which nothing overflows. -/
structure Fits (l : List Rul) (fs : List Fld) : Prop where
  ln : l.length ≤ 1000
  fn : fs.length ≤ 100
  tl : ∀ i, i < l.length → (l.getD i rul0).tag.length ≤ maxLen
  tf : ∀ i, i < fs.length → (fs.getD i fd0).tag.length ≤ maxLen
  sf : ∀ i, i < fs.length → (fs.getD i fd0).subs.length ≤ 1000
  nd : ∀ t ∈ l, t.needs.length ≤ 1000
theorem fieldsP_le (l : List Rul) (fs : List Fld) (h : Fits l fs) : ∀ k, k ≤ fs.length → (fieldsP l fs k).length ≤ k * 2002
  | 0, _ => by simp [fieldsP]
  | k + 1, hk => by
    have h1 := fieldsP_le l fs h k (by omega)
    have h2 := oneL_le l (fs.getD k fd0) (k : Int) (tagIn (fs.take k) (fs.getD k fd0).tag) (h.sf k (by omega)) h.nd
    rw [fieldsP_succ, List.length_append, Nat.succ_mul]
    have h3 : (fieldAt l fs k).length ≤ 2002 := h2
    omega
/-- What lies in memory while a record is checked: the problems of its first fields, their tags in a map. -/
structure CK (w : World) (l : List Rul) (fs : List Fld) (k : Nat) (s : Value) (wr : World) : Prop where
  pr : PR (w.heap.size + 1 + 1) s (fieldsP l fs k) wr
  mp : BM 9 mkT (w.heap.size + 1) k (tagIn (fs.take k)) wr
  bel : Below w.heap.size w wr
theorem CK.after {w : World} {l : List Rul} {fs : List Fld} {k : Nat} {s : Value} {wr w' : World} (h : CK w l fs k s wr) (hb : Below wr.heap.size wr w') : CK w l fs k s w' := ⟨h.pr.after hb, h.mp.after hb, h.bel.trans (hb.mono h.bel.size)⟩
theorem CK.step {w : World} {l : List Rul} {fs : List Fld} {k : Nat} {s s' : Value} {wr w6 w7 : World} (h : CK w l fs k s wr) (hk : k < fs.length) (hr : PR (w.heap.size + 1 + 1) s' (fieldsP l fs k ++ fieldAt l fs k) w6) (hg : wr.grownBy w6 s.ownBlock)
    (hm : BM 9 mkT (w.heap.size + 1) (k + 1) (fun z => tagIn (fs.take k) z || decide ((fs.getD k fd0).tag = z)) w7) (hg2 : w6.grownBy w7 (some (w.heap.size + 1))) : CK w l fs (k + 1) s' w7 := by
  refine ⟨?_, ?_, ?_⟩
  · rw [fieldsP_succ]
    refine World.ownsRow.kept hr hg2 ?_
    rcases e : s'.ownBlock with _ | j
    · exact .inl rfl
    · refine .inr fun e2 => ?_
      have := World.ownsRow.lt hr j e
      have := Option.some.inj e2
      omega
  · have e : (fun z => tagIn (fs.take k) z || decide ((fs.getD k fd0).tag = z)) = tagIn (fs.take (k + 1)) := funext fun z => (tagIn_snoc fs k hk fd0 z).symm
    rw [e] at hm
    exact hm
  · have h1 := h.bel.grown hg h.bel.size (fun j hj => by have := World.ownsRow.lt h.pr j hj; omega)
    exact h1.grown hg2 h1.size (fun j hj => by have := Option.some.inj hj; omega)

set_option maxHeartbeats 32000000 in
set_option maxRecDepth 100000 in
theorem uCheck_any (l : List Rul) (v : Value) (r : Rec) (u : Value) (w : World) (hv : TL v l w) (hu : FL u r.fields w) (hf : Fits l r.fields) :
    Calls Tryd.prog 21 #[v, RV r u] w fun e w' => ∃ v', e = .returned v' ∧ PL v' (checkL l r.fields) w' ∧ Below w.heap.size w w' := by
  have HV := Lib.hid hv
  have HU := Lib.hid hu
  obtain ⟨a, cap, rfl, _, _⟩ := hv.length
  obtain ⟨au, cu, rfl, hcu, hmax⟩ := hu.length
  unfold maxLen at hmax
  have cF := Lib.hid (fun k (hk : k < r.fields.length) x W (h1 : TL (.slice a l.length cap) l W) (h2 : QL x (r.fields.getD k fd0).subs W) => uField_any l _ (r.fields.getD k fd0) x W h1 h2 (k : Int) (tagIn (r.fields.take k) (r.fields.getD k fd0).tag) (hf.sf k hk) hf.nd)
  have cM := Lib.hid (fun W (h1 : TL (.slice a l.length cap) l W) b n0 (h2 : BM 9 mkT b n0 (tagIn r.fields) W) => uMissing_any l _ W h1 b n0 _ h2 hf.ln hf.tl)
  have HK := Lib.hid (fun k (hk : k < r.fields.length) => key_text (r.fields.getD k fd0).tag (hf.tf k hk))
  have HPl := Lib.hid (fieldsP_le l r.fields hf)
  have HFa := Lib.hid (fun k => show oneL l (r.fields.getD k fd0) (k : Int) (tagIn (r.fields.take k) (r.fields.getD k fd0).tag) = fieldAt l r.fields k from rfl)
  have HFl := Lib.hid (fun k (hk : k < r.fields.length) => oneL_le l (r.fields.getD k fd0) (k : Int) (tagIn (r.fields.take k) (r.fields.getD k fd0).tag) (hf.sf k hk) hf.nd)
  have HMl := Lib.hid (mustL_le r.fields l)
  have HChk : RowKit.Hid (mustGL (tagIn r.fields) l ++ fieldsP l r.fields r.fields.length = checkL l r.fields) := rfl
  have HTake : RowKit.Hid (r.fields.take r.fields.length = r.fields) := List.take_length
  have HMG : RowKit.Hid ((mustGL (tagIn r.fields) l).length ≤ 1000) := Nat.le_trans (mustGL_le _ l) hf.ln
  have hfn := hf.fn
  unfold FV at cF
  unfold RV
  obtain ⟨n, hn⟩ : ∃ n, r.fields.length = n := ⟨_, rfl⟩
  obtain ⟨nl, hnl⟩ : ∃ n, l.length = n := ⟨_, rfl⟩
  have HN := Lib.hid hn
  rw [hn] at HU cF HK HPl HFl HChk HTake hfn hcu ⊢
  rw [hnl] at HV cF cM ⊢
  obtain ⟨Wa, hWa⟩ : ∃ Wa, w.alloc (.cells #[.int .i64 r.id, .int .i64 r.ver, .int .i64 r.kind, .string (S r.lang), .slice au n cu] 36) = Wa := ⟨_, rfl⟩
  have hA : Below w.heap.size w Wa := by rw [← hWa]; exact (Below.refl w.heap.size w).alloc (Nat.le_refl _) _
  have hszA : Wa.heap.size = w.heap.size + 1 := by rw [← hWa]; simp
  have k4 : Wa.cell? ⟨w.heap.size, 4, none⟩ = some (.slice au n cu) := by rw [← hWa]; simp
  have hBm := BM.made 9 mkT Wa
  rw [hszA] at hBm
  obtain ⟨Wb, hWb⟩ : ∃ Wb, Wa.alloc (.map #[] 0) = Wb := ⟨_, rfl⟩
  rw [hWb] at hBm
  have hB : Below Wa.heap.size Wa Wb := by rw [← hWb]; exact (Below.refl _ _).alloc (Nat.le_refl _) _
  have k4 : Wb.cell? ⟨w.heap.size, 4, none⟩ = some (.slice au n cu) := (hB.cell (p := ⟨w.heap.size, 4, none⟩) (by show w.heap.size < _; omega)).trans k4
  have hszB : Wb.heap.size = w.heap.size + 1 + 1 := by rw [← hWb]; simp [hszA]
  have hCK : CK w l r.fields 0 (.slice none 0 0) Wb := ⟨PR.nil _ _, hBm, hA.trans (hB.mono hA.size)⟩
  have HCK := Lib.hid hCK
  have HWa := Lib.hid hWa
  have HWb := Lib.hid hWb
  have HSzB := Lib.hid hszB
  have hmm := @run_makeMap Tryd.prog
  have hlt : w.heap.size < Wb.heap.size := by omega
  clear hWa hWb hszA hszB hCK hBm hB hA hn hnl hv hu hf
  generalize r.id = vi at *
  generalize r.ver = vv at *
  generalize r.kind = vk at *
  generalize S r.lang = vl at *
  go_enter Tryd.func21, Tryd.ntmps21
  go_upto_region 3 with fail
  rw [HWa.out]
  rw [HWb.out]
  clear HWa HWb hmm
  go_wp2
  go_loopw [5, 13] (fun s i wr => ∃ k : Nat, k ≤ n ∧ i = .int .i64 (k : Int) ∧ CK w l r.fields k s wr) (fun _ i _ => n - (intOf i).toNat)
  case atStart => exact ⟨0, Nat.zero_le _, rfl, HCK.out⟩
  case round =>
    obtain ⟨k, hk, rfl, hck⟩ := hrel
    by_cases hkn : k < n
    · obtain ⟨g', o, cap', x, he, hg, c0, c1, c2, c3, hq⟩ := (HU.out.after hck.bel).at k (by rw [HN.out]; exact hkn)
      obtain ⟨ha, -, hcp⟩ := Value.slice.inj he
      subst ha hcp
      clear he
      obtain ⟨ax, cx, hx, _, _⟩ := hq.length
      subst hx
      have i1 : (0 : Int) ≤ (k : Int) := by omega
      have i2 : (k : Int) < (n : Int) := by omega
      have hFB : FBx wr.heap.size (r.fields.getD k fd0) (.slice ax (r.fields.getD k fd0).subs.length cx) (wr.alloc (.cells #[.string (S (r.fields.getD k fd0).tag), .string (S (r.fields.getD k fd0).ind), .slice ax (r.fields.getD k fd0).subs.length cx, .int .i64 (r.fields.getD k fd0).auth] 47)) := heap_alloc_new wr _
      have hA := (Below.refl wr.heap.size wr).alloc (Nat.le_refl _) (.cells #[.string (S (r.fields.getD k fd0).tag), .string (S (r.fields.getD k fd0).ind), .slice ax (r.fields.getD k fd0).subs.length cx, .int .i64 (r.fields.getD k fd0).auth] 47)
      obtain ⟨wa, hwa⟩ : ∃ wa, wr.alloc (.cells #[.string (S (r.fields.getD k fd0).tag), .string (S (r.fields.getD k fd0).ind), .slice ax (r.fields.getD k fd0).subs.length cx, .int .i64 (r.fields.getD k fd0).auth] 47) = wa := ⟨_, rfl⟩
      rw [hwa] at hFB hA
      have hckA := hck.after hA
      have hlook := hckA.mp.look keyed_text Tryd.underlying60 (HK.out k hkn)
      have c := cF.out k hkn _ wa (HV.out.after hckA.bel) (hq.after hA)
      have hkey := HK.out k hkn
      obtain ⟨y0, y1, y2, y3⟩ := hFB.cells
      have HCF := Lib.hid (fun W (h : FBx wr.heap.size (r.fields.getD k fd0) (.slice ax (r.fields.getD k fd0).subs.length cx) W) => h.cells.1)
      have HWA := Lib.hid hwa
      have HFB := Lib.hid hFB
      have HCKa := Lib.hid hckA
      have HC := Lib.hid c
      have HKey := Lib.hid hkey
      have HPk := Lib.hid (HPl.out k (by omega))
      have HFk := Lib.hid (HFl.out k hkn)
      obtain ⟨ao, cp, hs⟩ := own_form9 hckA.pr
      subst hs
      clear hwa hFB hA hckA hck c hkey hq
      obtain ⟨st, hst⟩ : ∃ s, S (r.fields.getD k fd0).tag = s := ⟨_, rfl⟩
      obtain ⟨si, hsi⟩ : ∃ s, S (r.fields.getD k fd0).ind = s := ⟨_, rfl⟩
      obtain ⟨ns, hns⟩ : ∃ s, (r.fields.getD k fd0).subs.length = s := ⟨_, rfl⟩
      obtain ⟨va, hva⟩ : ∃ s, (r.fields.getD k fd0).auth = s := ⟨_, rfl⟩
      obtain ⟨tb, htb⟩ : ∃ s, tagIn (r.fields.take k) (r.fields.getD k fd0).tag = s := ⟨_, rfl⟩
      rw [hst] at c0 y0 hlook HC HKey HCF HWA
      rw [hsi] at c1 y1 HC HWA
      rw [hns] at c2 y2 HC HCF HWA HFB
      rw [hva] at c3 y3 HC HWA
      rw [htb] at hlook HC HFk
      have HTb := Lib.hid htb
      clear hst hsi hns hva htb
      obtain ⟨mn, hmn⟩ : ∃ m, (fieldsP l r.fields k).length = m := ⟨_, rfl⟩
      have HMn := Lib.hid hmn
      rw [hmn] at HCKa HPk ⊢
      clear hmn
      go_upto_region 6 with fail
      rw [HWA.out]
      clear HWA c0 c1 c2 c3
      go_wp2_with fail
      refine HC.out.mono ?_
      rintro e w5 ⟨v', rfl, hpr5, hb5⟩
      have hck5 := HCKa.out.after hb5
      have hFB5 := HFB.out.after hb5
      have hpl5 := hpr5.pl
      obtain ⟨ao5, cp5, hv5⟩ := own_form9 hpr5
      have HCK5 := Lib.hid hck5
      have HFB5 := Lib.hid hFB5
      have HPL5 := Lib.hid hpl5
      have hlen5 : (oneL l (r.fields.getD k fd0) (k : Int) tb).length ≤ 2002 := HFk.out
      subst hv5
      have hB5 : w.heap.size + 1 + 1 ≤ w5.heap.size := by
        have := HCK5.out.mp.lt
        omega
      have HB5 := Lib.hid hB5
      have hPk := HPk.out
      have HFin := Lib.hid (fun (v3 : Value) (w3 : World) (hr : PR (w.heap.size + 1 + 1) v3 (fieldsP l r.fields k ++ oneL l (r.fields.getD k fd0) (k : Int) tb) w3) (hg : w5.grownBy w3 (Value.slice ao mn cp).ownBlock) =>
        (⟨HCF.out w3 (HFB5.out.fr (bl := wr.heap.size + 1) (by omega) (Fr.of_own HCK5.out.pr hg)), HCK5.out.mp.fr (bl := w.heap.size) (by omega) (Fr.of_own HCK5.out.pr hg)⟩ : w3.cell? ⟨wr.heap.size, 0, none⟩ = some (.string st) ∧ BM 9 mkT (w.heap.size + 1) k (tagIn (r.fields.take k)) w3))
      clear hck5 hFB5 hpl5 hpr5 hb5 hB5 y0 y1 y2 y3 hlook HC HFk HPk HCKa HFB
      obtain ⟨m5, hm5⟩ : ∃ m, (oneL l (r.fields.getD k fd0) (k : Int) tb).length = m := ⟨_, rfl⟩
      rw [hm5] at hlen5 HPL5 ⊢
      have HM5 := Lib.hid hm5
      clear hm5
      go_wp2_with (first | (at_builtin; refine append_pr2 _ rfl _ _ rfl (w.heap.size + 1 + 1) _ (fieldsP l r.fields k) rfl HCK5.out.pr _ (oneL l (r.fields.getD k fd0) (k : Int) tb) rfl HPL5.out (by rw [HMn.out, HM5.out]; omega) HB5.out ?_; intro v3 w3 hown3 hg3; have hfin := HFin.out v3 w3 hown3 hg3; have z0 := hfin.1; have HM3 := Lib.hid hfin.2; clear hfin; obtain ⟨ao3, cp3, hv3⟩ := own_form9 hown3; subst hv3) | (at_mapUpdate; refine wpList_store_bm _ rfl _ _ _ 60 rfl mkT_inj mkT_key HM3.out keyed_text Tryd.underlying60 (by unfold maxLen; omega) rfl rfl _ _ rfl HKey.out ?_; intro w7 hbm7 hgrow7))
      go_roundw
      case rel =>
        refine ⟨k + 1, by omega, by go_num, ?_⟩
        have hE := HFa.out k
        rw [HTb.out] at hE
        have hl : (fieldsP l r.fields k ++ oneL l (r.fields.getD k fd0) (k : Int) tb).length = (fieldsP l r.fields k).length + (oneL l (r.fields.getD k fd0) (k : Int) tb).length := List.length_append
        rw [hl, hE] at hown3
        have hs := HCK5.out.step (by rw [HN.out]; exact hkn) hown3 hg3 hbm7 hgrow7
        rw [← hE] at hs
        exact hs
      case measure => simp [intOf]; omega
    · obtain rfl : k = n := by omega
      have hmp := hck.mp
      rw [HTake.out] at hmp
      have hcM := cM.out wr (HV.out.after hck.bel) _ _ hmp
      have HCM := Lib.hid hcM
      have HCK2 := Lib.hid hck
      have HPk := Lib.hid (HPl.out k (Nat.le_refl _))
      obtain ⟨ao, cp, hs⟩ := own_form9 hck.pr
      subst hs
      clear hck hmp hcM HCK HV HU cF cM HK HPl HFa HFl HTake k4
      go_wp2_with fail
      refine HCM.out.mono ?_
      rintro e w5 ⟨v2, rfl, hpr5, hb5⟩
      have HPL := Lib.hid (HCK2.out.pr.after hb5).pl
      have HBel := Lib.hid (HCK2.out.bel.trans (hb5.mono HCK2.out.bel.size))
      have HBl := Lib.hid HCK2.out.bel.size
      have HPR := Lib.hid hpr5
      have HBs := Lib.hid hb5.size
      obtain ⟨ao5, cp5, hv5⟩ := own_form9 hpr5
      subst hv5
      clear hpr5 hb5 HCM HCK2
      obtain ⟨m1, hm1⟩ : ∃ m, (mustGL (tagIn r.fields) l).length = m := ⟨_, rfl⟩
      obtain ⟨m2, hm2⟩ : ∃ m, (fieldsP l r.fields k).length = m := ⟨_, rfl⟩
      have HM1 := Lib.hid hm1
      have HM2 := Lib.hid hm2
      have h1 := HMG.out
      have h2 := HPk.out
      rw [hm1] at HPR h1 ⊢
      rw [hm2] at HPL h2 ⊢
      clear hm1 hm2
      go_wp2_with (at_builtin; refine append_pr2 _ rfl _ _ rfl wr.heap.size _ (mustGL (tagIn r.fields) l) rfl HPR.out _ (fieldsP l r.fields k) rfl HPL.out (by rw [HM1.out, HM2.out]; omega) HBs.out ?_; intro v3 w3 hown3 hg3; have HO3 := Lib.hid hown3; have HG3 := Lib.hid (HBel.out.grown hg3 HBel.out.size (fun j hj => by have := World.ownsRow.lt HPR.out j hj; have := HBl.out; omega)); clear hown3 hg3)
      go_ret
      exact ⟨_, rfl, by rw [← HChk.out]; exact HO3.out.pl, HG3.out⟩

set_option maxHeartbeats 8000000 in
theorem uSound_any (l : List Rul) (v : Value) (r : Rec) (u : Value) (w : World) (hv : TL v l w) (hu : FL u r.fields w) (hf : Fits l r.fields) (b : Bool) (hb : decide ((checkL l r.fields).length = 0) = b) :
    Calls Tryd.prog 22 #[v, RV r u] w fun e w' => e = .returned (.bool b) ∧ Below w.heap.size w w' := by
  obtain ⟨W0, hW0⟩ : ∃ W0, w.alloc (.cells #[.int .i64 r.id, .int .i64 r.ver, .int .i64 r.kind, .string (S r.lang), u] 36) = W0 := ⟨_, rfl⟩
  have b0 : Below w.heap.size w W0 := by rw [← hW0]; exact (Below.refl w.heap.size w).alloc (Nat.le_refl _) _
  have hx : W0.heap[w.heap.size]? = some (.cells #[.int .i64 r.id, .int .i64 r.ver, .int .i64 r.kind, .string (S r.lang), u] 36 (0, 0)) := by rw [← hW0]; exact heap_alloc_new w _
  have k0 : W0.cell? ⟨w.heap.size, 0, none⟩ = some (.int .i64 r.id) := by rw [Lib.cell_of_heap hx]; rfl
  have k1 : W0.cell? ⟨w.heap.size, 1, none⟩ = some (.int .i64 r.ver) := by rw [Lib.cell_of_heap hx]; rfl
  have k2 : W0.cell? ⟨w.heap.size, 2, none⟩ = some (.int .i64 r.kind) := by rw [Lib.cell_of_heap hx]; rfl
  have k3 : W0.cell? ⟨w.heap.size, 3, none⟩ = some (.string (S r.lang)) := by rw [Lib.cell_of_heap hx]; rfl
  have k4 : W0.cell? ⟨w.heap.size, 4, none⟩ = some u := by rw [Lib.cell_of_heap hx]; rfl
  have HC := Lib.hid (uCheck_any l v r u W0 (hv.after b0) (hu.after b0) hf)
  have HW0 := Lib.hid hW0
  obtain ⟨a, cap, rfl, _, _⟩ := hv.length
  obtain ⟨au, cu, rfl, _, _⟩ := hu.length
  have hbb : (((checkL l r.fields).length : Int) == 0) = b := by
    rw [← hb, Bool.eq_iff_iff, beq_iff_eq, decide_eq_true_iff]
    omega
  obtain ⟨m, hm⟩ : ∃ m, (checkL l r.fields).length = m := ⟨_, rfl⟩
  have HM := Lib.hid hm
  rw [hm] at hbb
  have HB0 := Lib.hid b0
  unfold RV at HC ⊢
  clear hW0 hx hv hu hf hb hm b0
  generalize r.id = vi at *
  generalize r.ver = vv at *
  generalize r.kind = vk at *
  generalize S r.lang = vl at *
  go_enter Tryd.func22, Tryd.ntmps22
  go_wp2_with fail
  rw [HW0.out]
  refine HC.out.mono ?_
  rintro e w5 ⟨v2, rfl, hpl, hb5⟩
  obtain ⟨a5, c5, hv5, _, _⟩ := hpl.length
  subst hv5
  have HF := Lib.hid (HB0.out.trans (hb5.mono HB0.out.size))
  rw [HM.out]
  clear hpl hb5
  go_wp2
  go_ret
  exact ⟨rfl, HF.out⟩
end Go.Proofs.YtjfdolmcecgdgaaDoor
