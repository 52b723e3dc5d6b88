/- libraryref09: Check. -/
import Derived.Test.YtjfdolmcecgdgaaDoorRJ09
namespace Go.Proofs.YtjfdolmcecgdgaaDoor
open Go.RowKit Go.PlainAid

set_option maxHeartbeats 32000000 in
set_option maxRecDepth 100000 in
theorem refCheck_any (l : List Rul) (v : Value) (r : Rec) (u : Value) (w : World) (hv : TL v l w) (hu : FL u r.fields w) (hf : Bnd l r.fields) :
    Calls Tryd.prog 19 #[v, RV r u] w fun e w' => ∃ v', e = .returned v' ∧ PL v' (checkL l r.fields) w' ∧ Below w.heap.size w w' := by
  have HV := Lib.hid hv
  have HU := Lib.hid hu
  obtain ⟨a, cap, rfl, hcap, hmaxl⟩ := hv.length
  obtain ⟨au, cu, rfl, hcu, hmax⟩ := hu.length
  unfold maxLen at hmax hmaxl
  have cT := Lib.hid (fun W (h : FL (.slice au r.fields.length cu) r.fields W) m hm g => refTagged_any r _ W h m hm g (by have := hf.fn; omega))
  have cP := Lib.hid (fun kd ix tg c W => refproblem_any kd ix tg c W)
  have HTin := Lib.hid (fun m hm g => cntT_in r.fields g m hm)
  have HMStep := Lib.hid (fun k hk => mustL_succ l r.fields k hk)
  have HMle := Lib.hid (fun k => mustL_le r.fields (l.take k))
  have HTakeL : RowKit.Hid (l.take l.length = l) := List.take_length
  have HMP := Lib.hid (fun t => show mustP r.fields t = if (t.must && !(tagIn r.fields t.tag)) = true then [⟨1, -1, t.tag, 0⟩] else [] from rfl)
  have HTF : RowKit.Hid (r.fields.take r.fields.length = r.fields) := List.take_length
  have hln := hf.ln
  have hfn := hf.fn
  have HBnd := Lib.hid hf
  have HFS := Lib.hid (fun k => show mustL l r.fields ++ fieldsP l r.fields (k + 1) = (mustL l r.fields ++ fieldsP l r.fields k) ++ fieldAt l r.fields k from by rw [fieldsP_succ, List.append_assoc])
  have HF0 : RowKit.Hid (mustL l r.fields ++ fieldsP l r.fields 0 = mustL l r.fields) := List.append_nil _
  have HFLen := Lib.hid (fun k (hk : k ≤ r.fields.length) => show (mustL l r.fields ++ fieldsP l r.fields k).length ≤ 200000 from by
    have h1 := mustL_le r.fields l
    have h2 := fieldsP_le l r.fields hf.fits k hk
    rw [List.length_append]
    have h3 : k * 2002 ≤ 64 * 2002 := Nat.mul_le_mul_right _ (by omega)
    omega)
  have HFat := Lib.hid (fun k => show fieldAt l r.fields k = oneL l (r.fields.getD k fd0) (k : Int) (tagIn (r.fields.take k) (r.fields.getD k fd0).tag) from rfl)
  have cF := Lib.hid (fun W (h : TL (.slice a l.length cap) l W) g t b hb => refFind_any l _ g W h t b hb)
  have HChk : RowKit.Hid (mustL l r.fields ++ fieldsP l r.fields r.fields.length = checkL l r.fields) := rfl
  unfold RV at cT ⊢
  obtain ⟨n, hn⟩ : ∃ n, r.fields.length = n := ⟨_, rfl⟩
  obtain ⟨nl, hnl⟩ : ∃ n, l.length = n := ⟨_, rfl⟩
  have HN := Lib.hid hn
  have HNl := Lib.hid hnl
  rw [hn] at HU cT HTin HTF hfn hcu HFLen HChk ⊢
  rw [hnl] at HV HMStep HTakeL hln hcap cF ⊢
  obtain ⟨Wa, hWa⟩ : ∃ Wa, w.alloc (.cells #[.int .i64 r.id, .int .i64 r.ver, .int .i64 r.kind, .string (S r.lang), .slice au n cu] 36) = Wa := ⟨_, rfl⟩
  have hA : Below w.heap.size w Wa := by rw [← hWa]; exact (Below.refl w.heap.size w).alloc (Nat.le_refl _) _
  have hszA : Wa.heap.size = w.heap.size + 1 := by rw [← hWa]; simp
  have hx : Wa.heap[w.heap.size]? = some (.cells #[.int .i64 r.id, .int .i64 r.ver, .int .i64 r.kind, .string (S r.lang), .slice au n cu] 36 (0, 0)) := by rw [← hWa]; exact heap_alloc_new w _
  have hxc : Wa.cell? ⟨w.heap.size, 0, none⟩ = some (.int .i64 r.id) ∧ Wa.cell? ⟨w.heap.size, 1, none⟩ = some (.int .i64 r.ver) ∧ Wa.cell? ⟨w.heap.size, 2, none⟩ = some (.int .i64 r.kind) ∧ Wa.cell? ⟨w.heap.size, 3, none⟩ = some (.string (S r.lang)) ∧ Wa.cell? ⟨w.heap.size, 4, none⟩ = some (.slice au n cu) := by
    refine ⟨?_, ?_, ?_, ?_, ?_⟩ <;> (rw [Lib.cell_of_heap hx]; rfl)
  have HXC : RowKit.Hid (∀ W, Below Wa.heap.size Wa W → W.cell? ⟨w.heap.size, 0, none⟩ = some (.int .i64 r.id) ∧ W.cell? ⟨w.heap.size, 1, none⟩ = some (.int .i64 r.ver) ∧ W.cell? ⟨w.heap.size, 2, none⟩ = some (.int .i64 r.kind) ∧ W.cell? ⟨w.heap.size, 3, none⟩ = some (.string (S r.lang)) ∧ W.cell? ⟨w.heap.size, 4, none⟩ = some (.slice au n cu)) := by
    intro W hb
    have hl : w.heap.size < Wa.heap.size := by omega
    exact ⟨(hb.cell (p := ⟨w.heap.size, 0, none⟩) hl).trans hxc.1, (hb.cell (p := ⟨w.heap.size, 1, none⟩) hl).trans hxc.2.1, (hb.cell (p := ⟨w.heap.size, 2, none⟩) hl).trans hxc.2.2.1, (hb.cell (p := ⟨w.heap.size, 3, none⟩) hl).trans hxc.2.2.2.1, (hb.cell (p := ⟨w.heap.size, 4, none⟩) hl).trans hxc.2.2.2.2⟩
  have HVa := Lib.hid (HV.out.after hA)
  have HUa := Lib.hid (HU.out.after hA)
  have HWa := Lib.hid hWa
  have HA := Lib.hid hA
  have HPE := Lib.hid (PR.empty Wa Wa.heap.size (Nat.le_refl _))
  have HEA := Lib.hid ((Below.refl Wa.heap.size Wa).alloc (Nat.le_refl _) (.cells #[] 44))
  have HSzA := Lib.hid hszA
  clear hWa hA hszA hx hxc hn hnl hv hu hf HV HU
  generalize r.id = vi at *
  generalize r.ver = vv at *
  generalize r.kind = vk at *
  generalize S r.lang = vl at *
  go_enter Tryd.func19, Tryd.ntmps19
  go_upto_region 1 with fail
  rw [HWa.out]
  clear HWa
  rw [← HSzA.out] at *
  go_wp2
  go_loopw [5, 6] (fun s i wr => ∃ k : Nat, k ≤ nl ∧ i = .int .i64 (k : Int) ∧ PR Wa.heap.size s (mustL (l.take k) r.fields) wr ∧ Below Wa.heap.size Wa wr) (fun _ i _ => nl - (intOf i).toNat)
  case atStart => exact ⟨0, Nat.zero_le _, rfl, HPE.out, HEA.out⟩
  case round =>
    obtain ⟨k, hk, rfl, hpr, hbw⟩ := hrel
    by_cases hkn : k < nl
    · obtain ⟨g', o, cap', he, hg, hR⟩ := (HVa.out.after hbw).at k (by rw [HNl.out]; exact hkn)
      obtain ⟨ha, -, hcp⟩ := Value.slice.inj he
      subst ha hcp
      clear he
      obtain ⟨c0, c1, c2, c3, c4, c5, c6⟩ := hR
      have i1 : (0 : Int) ≤ (k : Int) := by omega
      have i2 : (k : Int) < (nl : Int) := by omega
      have hst := HMStep.out k hkn
      have hle : (mustL (l.take k) r.fields).length ≤ nl := Nat.le_trans (HMle.out k) (by rw [List.length_take]; have := HNl.out; omega)
      obtain ⟨t, htk⟩ : ∃ t, l.getD k rul0 = t := ⟨_, rfl⟩
      rw [htk] at c0 c1 c2 c3 c4 c5 c6 hst
      rw [HMP.out t] at hst
      have HMove := Lib.hid (fun W (hb : Below wr.heap.size wr W) => (⟨(hb.cell (p := ⟨g', o + k * 7, none⟩) hg).trans c0, hpr.after hb, hbw.trans (hb.mono hbw.size)⟩ : W.cell? ⟨g', o + k * 7, none⟩ = some (.string (S t.tag)) ∧ PR Wa.heap.size _ (mustL (l.take k) r.fields) W ∧ Below Wa.heap.size Wa W))
      clear htk
      obtain ⟨vm, hvm⟩ : ∃ v, t.must = v := ⟨_, rfl⟩
      obtain ⟨tb, htb⟩ : ∃ v, tagIn r.fields t.tag = v := ⟨_, rfl⟩
      obtain ⟨cn, hcn⟩ : ∃ c, cntT r.fields t.tag n = c := ⟨_, rfl⟩
      have hcb : ((cn : Int) == 0) = !tb := by
        have h := HTin.out n (Nat.le_refl n) t.tag
        rw [hcn, HTF.out, htb] at h
        rw [← h, Bool.eq_iff_iff, beq_iff_eq, Bool.not_eq_true', decide_eq_false_iff_not]
        omega
      have hcT := Lib.hid (fun W hW => cT.out W hW n (Nat.le_refl n) t.tag)
      rw [hcn] at hcT
      rw [hvm] at c2
      rw [hvm, htb] at hst
      have HSt := Lib.hid hst
      have HBw := Lib.hid hbw
      have hx := HXC.out wr hbw
      have HUr := Lib.hid (HUa.out.after hbw)
      obtain ⟨x0, x1, x2, x3, x4⟩ := hx
      obtain ⟨st, hst2⟩ : ∃ s, S t.tag = s := ⟨_, rfl⟩
      have HStT := Lib.hid hst2
      rw [hst2] at c0 HMove hcT
      obtain ⟨ao, cp, hs⟩ := own_form9 hpr
      subst hs
      clear hvm htb hcn hst hpr hbw hst2
      obtain ⟨mn, hmn⟩ : ∃ m, (mustL (l.take k) r.fields).length = m := ⟨_, rfl⟩
      have HMn := Lib.hid hmn
      rw [hmn] at HMove hle ⊢
      clear hmn
      go_upto_region 5 with fail
      go_cut [38] from 21 to 38 (fun s38 wx => ∃ q, s38 = .bool q ∧ RowKit.Hid ((vm && !tb) = q) ∧ Below wr.heap.size wr wx)
      case first =>
        clear HMove HSt
        have bD : Below wr.heap.size wr wr.drew := ⟨rfl, rfl, rfl, Nat.le_refl _, fun _ _ => rfl⟩
        cases vm
        · go_quiet (fail)
          all_goals (go_wp2_with fail; go_meet; exact ⟨_, rfl, rfl, below_drawn9 _ _ _ (Below.refl _ _)⟩)
        · have hT := Lib.hid (hcT.out wr.drew (HUr.out.after bD))
          have HTb : RowKit.Hid ((true && !tb) = !tb) := Bool.true_and _
          clear hcT HUr bD
          go_region_law (first
            | (go_simp; go_at_call 30; refine (hT.out).mono ?_; rintro e W1 ⟨rfl, b1⟩))
          all_goals (go_wp2_with fail; go_meet; exact ⟨_, rfl, HTb.out, ⟨b1.os, b1.tape, b1.output, b1.size, b1.block⟩⟩)
      case rest =>
        obtain ⟨q, rfl, HQv, hb⟩ := hcut
        obtain ⟨c0, hpr, hbw⟩ := HMove.out wc hb
        have HPR := Lib.hid hpr
        have HBc := Lib.hid hbw
        clear c1 c2 c3 c4 c5 c6 x0 x1 x2 x3 x4 hcb hpr hbw hb HMove
        cases q
        · have HE : RowKit.Hid (mustL (l.take (k + 1)) r.fields = mustL (l.take k) r.fields) := by
            unfold RowKit.Hid
            have h := HSt.out
            rw [HQv.out] at h
            simpa using h
          clear HSt HQv
          go_wp2
          go_roundw
          case rel => exact ⟨k + 1, by omega, by go_num, by rw [HE.out]; exact HPR.out, HBc.out⟩
          case measure => simp [intOf]; omega
        · have HE : RowKit.Hid (mustL (l.take (k + 1)) r.fields = mustL (l.take k) r.fields ++ [⟨1, -1, t.tag, 0⟩]) := by
            have h := HSt.out
            rw [HQv.out] at h
            exact h
          clear HSt HQv
          go_wp2_with fail
          refine (cP.out 1 (-1) st 0 wc).mono ?_
          rintro e w5 ⟨rfl, d⟩
          have hOne := PL.one' w5 1 (-1) t.tag 0 st 0 HStT.out rfl
          have hAl := (Below.refl w5.heap.size w5).alloc (Nat.le_refl _) (.cells #[.int .i64 1, .int .i64 (-1), .string st, .int .u8 0] 44)
          have HOne := Lib.hid hOne
          have HRow := Lib.hid ((HPR.out.after d).after hAl)
          have HBx := Lib.hid ((HBc.out.trans (d.mono HBc.out.size)).trans (hAl.mono (Nat.le_trans HBc.out.size d.size)))
          clear hOne hAl d HPR HBc c0
          go_wp2_with (at_builtin; refine append_pr2 _ rfl _ _ rfl Wa.heap.size _ (mustL (l.take k) r.fields) rfl HRow.out _ [⟨1, -1, t.tag, 0⟩] rfl HOne.out (by rw [HMn.out]; simp; omega) HBx.out.size ?_; intro v3 w3 hown3 hg3)
          go_roundw
          case rel => exact ⟨k + 1, by omega, by go_num, by rw [HE.out]; exact hown3, HBx.out.grown hg3 HBx.out.size (fun j hj => (World.ownsRow.lt HRow.out j hj).1)⟩
          case measure => simp [intOf]; omega
    · obtain rfl : k = nl := by omega
      rw [HTakeL.out] at hpr
      have HPR0 := Lib.hid hpr
      have HBw0 := Lib.hid hbw
      have hx := HXC.out wr hbw
      obtain ⟨x0, x1, x2, x3, x4⟩ := hx
      clear hpr hbw HMStep HMle HTakeL HMP HPE HEA
      go_wp2
      go_loopw [5, 7] (fun s i wr2 => ∃ q : Nat, q ≤ n ∧ i = .int .i64 (q : Int) ∧ PR Wa.heap.size s (mustL l r.fields ++ fieldsP l r.fields q) wr2 ∧ Below Wa.heap.size Wa wr2) (fun _ i _ => n - (intOf i).toNat)
      case atStart => exact ⟨0, Nat.zero_le _, rfl, by rw [HF0.out]; exact HPR0.out, HBw0.out⟩
      case round =>
        obtain ⟨q, hq, rfl, hpr, hbw⟩ := hrel
        clear x0 x1 x2 x3 x4
        obtain ⟨x0, x1, x2, x3, x4⟩ := HXC.out _ hbw
        by_cases hqn : q < n
        · obtain ⟨g', o, cap', x, he, hg, c0, c1, c2, c3, hql⟩ := HUa.out.at q (by rw [HN.out]; exact hqn)
          obtain ⟨ha, -, hcp⟩ := Value.slice.inj he
          subst ha hcp
          clear he
          have c0 := (hbw.cell (p := ⟨g', o + q * 4, none⟩) hg).trans c0
          have c1 := (hbw.cell (p := ⟨g', o + q * 4 + 1, none⟩) hg).trans c1
          have c2 := (hbw.cell (p := ⟨g', o + q * 4 + 2, none⟩) hg).trans c2
          have c3 := (hbw.cell (p := ⟨g', o + q * 4 + 3, none⟩) hg).trans c3
          obtain ⟨ax, cx, hx, hcx, hmx⟩ := hql.length
          subst hx
          unfold maxLen at hmx
          have i1 : (0 : Int) ≤ (q : Int) := by omega
          have i2 : (q : Int) < (n : Int) := by omega
          have hfb := HBnd.out.ft q (by rw [HN.out]; exact hqn)
          have hfs := HFS.out q
          have hfl := HFLen.out q (by omega)
          have hft := HFat.out q
          have hti0 := HTin.out q (by omega)
          obtain ⟨f, hfk⟩ : ∃ f, r.fields.getD q fd0 = f := ⟨_, rfl⟩
          rw [hfk] at c0 c1 c2 c3 hql hfb hft hcx
          obtain ⟨hfb1, hfb2⟩ := hfb
          have hti := hti0 f.tag
          have hcT := Lib.hid (fun W hW => cT.out W hW q (by omega) f.tag)
          obtain ⟨ab, hab⟩ : ∃ b, tagIn (r.fields.take q) f.tag = b := ⟨_, rfl⟩
          obtain ⟨cn, hcn⟩ : ∃ c, cntT r.fields f.tag q = c := ⟨_, rfl⟩
          rw [hab] at hft hti
          rw [hcn] at hti hcT
          obtain ⟨t, b, hfind⟩ : ∃ t b, findR l f.tag = (t, b) := ⟨_, _, rfl⟩
          have hone : oneL l f (q : Int) ab = if b = false then [⟨2, (q : Int), f.tag, 0⟩] else ruledL t f (q : Int) ab := by unfold oneL; rw [hfind]
          rw [hone] at hft
          rw [hft] at hfs
          have htb : b = true → okT t := by
            intro hb
            rcases findR_cases l f.tag with ⟨h', _⟩ | ⟨_, h', _⟩
            · rw [hfind, hb] at h'; cases h'
            · rw [hfind] at h'
              obtain ⟨i, hi, hti'⟩ := List.getElem_of_mem h'
              have := HBnd.out.lt i hi
              rw [List.getD_eq_getElem?_getD, List.getElem?_eq_getElem hi] at this
              have h2 : l[i] = t := hti'
              rw [Option.getD_some, h2] at this
              exact this
          have hFB : FBx wr.heap.size f (.slice ax f.subs.length cx) (wr.alloc (.cells #[.string (S f.tag), .string (S f.ind), .slice ax f.subs.length cx, .int .i64 f.auth] 47)) := heap_alloc_new wr _
          have hA := (Below.refl wr.heap.size wr).alloc (Nat.le_refl _) (.cells #[.string (S f.tag), .string (S f.ind), .slice ax f.subs.length cx, .int .i64 f.auth] 47)
          obtain ⟨wa, hwa⟩ : ∃ wa, wr.alloc (.cells #[.string (S f.tag), .string (S f.ind), .slice ax f.subs.length cx, .int .i64 f.auth] 47) = wa := ⟨_, rfl⟩
          rw [hwa] at hFB hA
          obtain ⟨f0, f1, f2, f3⟩ := hFB.cells
          have hcF := Lib.hid (cF.out wa (HVa.out.after (hbw.trans (hA.mono hbw.size))) f.tag t b hfind)
          obtain ⟨M0, hM0⟩ : ∃ M, mustL l r.fields ++ fieldsP l r.fields q = M := ⟨_, rfl⟩
          rw [hM0] at hpr hfs hfl
          obtain ⟨ao, cp, hs⟩ := own_form9 hpr
          subst hs
          obtain ⟨mn, hmn⟩ : ∃ m, M0.length = m := ⟨_, rfl⟩
          have HMn := Lib.hid hmn
          rw [hmn] at hpr hfl ⊢
          have HWA := Lib.hid hwa
          have HPRa := Lib.hid (hpr.after hA)
          have HBa := Lib.hid (hbw.trans (hA.mono hbw.size))
          have HFB := Lib.hid hFB
          have HTB := Lib.hid htb
          have HFs := Lib.hid hfs
          have HTi := Lib.hid hti
          have HQ := Lib.hid hql
          have HFC := Lib.hid (fun W (h : FBx wr.heap.size f (.slice ax f.subs.length cx) W) => h.cells)
          have HSLe := Lib.hid (subsL_le t f (q : Int))
          have HNLe := Lib.hid (needsL_le t f (q : Int))
          have HSStep := Lib.hid (subsL_succ t f (q : Int))
          have HNStep := Lib.hid (needsL_succ t f (q : Int))
          have HRu := Lib.hid (ruledL_eq t f (q : Int) ab)
          have cC := Lib.hid (fun W (h : QL (.slice ax f.subs.length cx) f.subs W) m hm c => refCount_any f _ W h m hm c (by omega))
          unfold FV at cC
          have HCin := Lib.hid (fun m (hm : m ≤ f.subs.length) c => cntC_in f.subs c m hm)
          have HTakeS : RowKit.Hid (f.subs.take f.subs.length = f.subs) := List.take_length
          have HS4 := Lib.hid (fun k (h : hasB t.codes (f.subs.getD k sub0).1 = false) => show subP t f (q : Int) k = [⟨4, (q : Int), f.tag, (f.subs.getD k sub0).1⟩] from by unfold subP; rw [if_pos h])
          have HS5 := Lib.hid (fun k (h : hasB t.codes (f.subs.getD k sub0).1 = true) (h2 : (hasB t.once (f.subs.getD k sub0).1 && codeIn (f.subs.take k) (f.subs.getD k sub0).1) = true) => show subP t f (q : Int) k = [⟨5, (q : Int), f.tag, (f.subs.getD k sub0).1⟩] from by unfold subP; rw [if_neg (by rw [h]; exact Bool.noConfusion), if_pos h2])
          have HS0 := Lib.hid (fun k (h : hasB t.codes (f.subs.getD k sub0).1 = true) (h2 : (hasB t.once (f.subs.getD k sub0).1 && codeIn (f.subs.take k) (f.subs.getD k sub0).1) = false) => show subP t f (q : Int) k = [] from by unfold subP; rw [if_neg (by rw [h]; exact Bool.noConfusion), if_neg (by rw [h2]; exact Bool.noConfusion)])
          have HN6 := Lib.hid (fun k (h : codeIn f.subs (t.needs.getD k 0) = false) => show needP t f (q : Int) k = [⟨6, (q : Int), f.tag, t.needs.getD k 0⟩] from by unfold needP; rw [if_pos h])
          have HN0 := Lib.hid (fun k (h : codeIn f.subs (t.needs.getD k 0) = true) => show needP t f (q : Int) k = [] from by unfold needP; rw [if_neg (by rw [h]; exact Bool.noConfusion)])
          obtain ⟨st, hst⟩ : ∃ s, S f.tag = s := ⟨_, rfl⟩
          have HStF := Lib.hid hst
          obtain ⟨si, hsi⟩ : ∃ s, S f.ind = s := ⟨_, rfl⟩
          obtain ⟨va, hva⟩ : ∃ s, f.auth = s := ⟨_, rfl⟩
          obtain ⟨ns, hns⟩ : ∃ m, f.subs.length = m := ⟨_, rfl⟩
          have HNs := Lib.hid hns
          rw [hst] at c0 f0 hcF HWA HFC hcT cC
          rw [hsi] at c1 f1 HWA HFC cC
          rw [hns] at c2 f2 HWA HFC HFB HQ cC HCin HTakeS HRu hfb1 hcx
          rw [hva] at c3 f3 HWA HFC HRu cC
          clear hwa hFB hA hpr hbw htb hfs hti hti0 hql hfk hft hone hfind hab hcn hst hsi hva hns hM0 hmn HFS HFat HTin cT
          go_upto_region 11 with fail
          rw [HWA.out]
          clear HWA c0 c1 c2 c3 x0 x1 x2 x3 x4
          obtain ⟨bf, hbf⟩ : ∃ b, wr.heap.size = b := ⟨_, rfl⟩
          rw [hbf] at HFB HFC f0 f1 f2 f3 ⊢
          clear hbf
          unfold UV at hcF
          go_wp2_with fail
          refine hcF.out.mono ?_
          rintro e w1 ⟨rfl, d⟩
          have hT := (Below.refl w1.heap.size w1).alloc (Nat.le_refl _) (.cells #[.string (S t.tag), .bool t.rep, .bool t.must, .string (S t.codes), .string (S t.once), .string (S t.needs), .int .i64 t.auth] 25)
          have hU := UB.new t w1
          obtain ⟨wt, hwt⟩ : ∃ wt, w1.alloc (.cells #[.string (S t.tag), .bool t.rep, .bool t.must, .string (S t.codes), .string (S t.once), .string (S t.needs), .int .i64 t.auth] 25) = wt := ⟨_, rfl⟩
          rw [hwt] at hT hU
          have hCR : CR Wa bf w1.heap.size f (.slice ax ns cx) t M0 (.slice ao mn cp) wt := ⟨(HPRa.out.after d).after hT, (HFB.out.after d).after hT, hU, (HBa.out.trans (d.mono HBa.out.size)).trans (hT.mono (Nat.le_trans HBa.out.size d.size))⟩
          have HCR := Lib.hid hCR
          have HWT := Lib.hid hwt
          clear hwt hT hU hCR d HPRa HFB HBa f0 f1 f2 f3 hcF
          go_upto_region 12 with fail
          rw [HWT.out]
          clear HWT
          obtain ⟨bx, hbx⟩ : ∃ b, w1.heap.size = b := ⟨_, rfl⟩
          rw [hbx] at HCR ⊢
          clear hbx
          have HUC := Lib.hid (fun W (h : UB bx t W) => h.cells)
          cases b
          · have HE := Lib.hid (show mustL l r.fields ++ fieldsP l r.fields (q + 1) = M0 ++ [⟨2, (q : Int), f.tag, 0⟩] from HFs.out)
            obtain ⟨f0, f1, f2, f3⟩ := HFC.out _ HCR.out.fb
            go_wp2_with fail
            refine (cP.out 2 (q : Int) st 0 wt).mono ?_
            rintro e w5 ⟨rfl, d⟩
            have hOne := PL.one' w5 2 (q : Int) f.tag 0 st 0 HStF.out rfl
            have hAl := (Below.refl w5.heap.size w5).alloc (Nat.le_refl _) (.cells #[.int .i64 2, .int .i64 (q : Int), .string st, .int .u8 0] 44)
            have HOne := Lib.hid hOne
            have HCR5 := Lib.hid ((HCR.out.after d).after hAl)
            clear hOne hAl d f0 f1 f2 f3
            go_wp2_with (at_builtin; refine append_pr2 _ rfl _ _ rfl Wa.heap.size _ M0 rfl HCR5.out.pr _ [⟨2, (q : Int), f.tag, 0⟩] rfl HOne.out (by rw [HMn.out]; simp; omega) HCR5.out.bel.size ?_; intro v3 w3 hown3 hg3; have HCR6 := Lib.hid (HCR5.out.app hown3 hg3); clear hown3 hg3)
            go_roundw
            case rel => exact ⟨q + 1, by omega, by go_num, by rw [HE.out]; exact HCR6.out.pr, HCR6.out.bel⟩
            case measure => simp [intOf]; omega
          have HE := Lib.hid (show mustL l r.fields ++ fieldsP l r.fields (q + 1) = M0 ++ ruledL t f (q : Int) ab from HFs.out)
          have HOkT := Lib.hid (HTB.out (by trivial))
          clear HTB HFs
          have hokt := HOkT.out
          obtain ⟨z0, z1, z2, z3⟩ := hokt
          obtain ⟨P3, hP3⟩ : ∃ P, (if (!t.rep && ab) = true then [(⟨3, (q : Int), f.tag, 0⟩ : Prb)] else []) = P := ⟨_, rfl⟩
          have hP3l : P3.length ≤ 1 := by
            rw [← hP3]
            split
            · exact Nat.le_refl 1
            · exact Nat.zero_le _
          have HRu2 := Lib.hid (fun P7 h7 => HRu.out P3 P7 hP3 h7)
          obtain ⟨vr, hvr⟩ : ∃ v, t.rep = v := ⟨_, rfl⟩
          rw [hvr] at HUC hP3
          have HP3 := Lib.hid hP3
          have cH := Lib.hid (fun c b hb W => refHas_any t.codes c (by omega) b hb W)
          have cO := Lib.hid (fun c b hb W => refHas_any t.once c (by omega) b hb W)
          obtain ⟨sc, hsc⟩ : ∃ s, S t.codes = s := ⟨_, rfl⟩
          obtain ⟨so, hso⟩ : ∃ s, S t.once = s := ⟨_, rfl⟩
          obtain ⟨sn, hsn⟩ : ∃ s, S t.needs = s := ⟨_, rfl⟩
          obtain ⟨m, hm⟩ : ∃ m, t.needs.length = m := ⟨_, rfl⟩
          obtain ⟨ta, hta⟩ : ∃ v, t.auth = v := ⟨_, rfl⟩
          have hsm : sn.size = m := by rw [← hsn, S_size, hm]
          have hbtm := get_bt (S t.needs)
          have HBS := Lib.hid (fun i => bt_S t.needs i)
          rw [hsc] at HUC cH
          rw [hso] at HUC cO
          rw [hsn] at HUC hbtm HBS
          rw [hm] at HRu2 z3
          rw [hta] at HUC HRu2
          clear hP3 hvr hsc hso hsn hm hta HRu
          obtain ⟨f0, f1, f2, f3⟩ := HFC.out _ HCR.out.fb
          obtain ⟨y0, y1, y2, y3, y4, y5, y6⟩ := HUC.out _ HCR.out.ub
          obtain ⟨x0, x1, x2, x3, x4⟩ := HXC.out wt HCR.out.bel
          go_upto_region 14 with fail
          go_cut [86] from 76 to 86 (fun s86 wx => ∃ p, s86 = .bool p ∧ RowKit.Hid ((!vr && ab) = p) ∧ Below wt.heap.size wt wx)
          case first =>
            cases vr
            · have HTb : RowKit.Hid ((!false && ab) = ab) := Bool.true_and _
              have hti := HTi.out
              have hti2 : decide ((0 : Int) < (cn : Int)) = ab := by rw [← hti, decide_eq_decide]; omega
              go_wp2_with fail
              refine (hcT.out wt (HUa.out.after HCR.out.bel)).mono ?_
              rintro e w5 ⟨rfl, b1⟩
              cases ab
              all_goals
                go_wp2_with fail
                go_meet
                exact ⟨_, rfl, HTb.out, b1⟩
            · go_wp2_with fail
              go_meet
              exact ⟨_, rfl, rfl, Below.refl _ _⟩
          case rest =>
            obtain ⟨p, rfl, HPv, hb⟩ := hcut
            have HCRc := Lib.hid (HCR.out.after hb)
            clear f0 f1 f2 f3 y0 y1 y2 y3 y4 y5 y6 x0 x1 x2 x3 x4 hb HCR hcT HTi
            go_upto_if 86 with fail
            go_cut [5] from 87 to 93 (fun s5 wx => CR Wa bf bx f (.slice ax ns cx) t (M0 ++ P3) s5 wx)
            case first =>
              cases p
              · have hP : [] = P3 := by
                  have h := HP3.out
                  rw [HPv.out] at h
                  exact h
                have HP := Lib.hid hP
                clear hP
                go_wp2_with fail
                go_meet
                rw [← HP.out, List.append_nil]
                exact HCRc.out
              · have hP : [⟨3, (q : Int), f.tag, 0⟩] = P3 := by
                  have h := HP3.out
                  rw [HPv.out] at h
                  exact h
                have HP := Lib.hid hP
                clear hP
                obtain ⟨f0, f1, f2, f3⟩ := HFC.out _ HCRc.out.fb
                go_wp2_with fail
                refine (cP.out 3 (q : Int) st 0 wc).mono ?_
                rintro e w5 ⟨rfl, d⟩
                have hOne := PL.one' w5 3 (q : Int) f.tag 0 st 0 HStF.out rfl
                have hAl := (Below.refl w5.heap.size w5).alloc (Nat.le_refl _) (.cells #[.int .i64 3, .int .i64 (q : Int), .string st, .int .u8 0] 44)
                have HOne := Lib.hid hOne
                have HCR5 := Lib.hid ((HCRc.out.after d).after hAl)
                clear hOne hAl d f0 f1 f2 f3
                go_wp2_with (at_builtin; refine append_pr2 _ rfl _ _ rfl Wa.heap.size _ M0 rfl HCR5.out.pr _ [⟨3, (q : Int), f.tag, 0⟩] rfl HOne.out (by rw [HMn.out]; simp; omega) HCR5.out.bel.size ?_; intro v3 w3 hown3 hg3; have HCR6 := Lib.hid (HCR5.out.app hown3 hg3); clear hown3 hg3)
                go_meet
                rw [← HP.out]
                exact HCR6.out
            case rest =>
              have HCR3 := Lib.hid hcut
              have hM3 : (M0 ++ P3).length ≤ 200001 := by
                have := HMn.out
                rw [List.length_append]
                omega
              obtain ⟨M3, hM3e⟩ : ∃ M, M0 ++ P3 = M := ⟨_, rfl⟩
              rw [hM3e] at HCR3 hM3
              have HM3 := Lib.hid hM3e
              clear hcut HCRc HPv hM3e
              obtain ⟨f0, f1, f2, f3⟩ := HFC.out _ HCR3.out.fb
              go_wp2
              go_loopw [5, 11] (fun s i wy => ∃ p : Nat, p ≤ ns ∧ i = .int .i64 (p : Int) ∧ CR Wa bf bx f (.slice ax ns cx) t (M3 ++ subsL t f (q : Int) p) s wy) (fun _ i _ => ns - (intOf i).toNat)
              case atStart => exact ⟨0, Nat.zero_le _, rfl, by rw [show M3 ++ subsL t f (q : Int) 0 = M3 from List.append_nil _]; exact HCR3.out⟩
              case round =>
                obtain ⟨p, hp, rfl, hcr⟩ := hrel
                clear f0 f1 f2 f3
                obtain ⟨f0, f1, f2, f3⟩ := HFC.out _ hcr.fb
                by_cases hpn : p < ns
                · obtain ⟨y0, y1, y2, y3, y4, y5, y6⟩ := HUC.out _ hcr.ub
                  obtain ⟨g2, o2, cap2, he, hg2, e0, e1⟩ := (HQ.out.after hcr.bel).at9 p (by rw [HNs.out]; exact hpn)
                  obtain ⟨ha, -, hcp⟩ := Value.slice.inj he
                  subst ha hcp
                  clear he e1
                  have i3 : (0 : Int) ≤ (p : Int) := by omega
                  have i4 : (p : Int) < (ns : Int) := by omega
                  have hst := HSStep.out p
                  have hln3 : (M3 ++ subsL t f (q : Int) p).length ≤ 200061 := by
                    have := HSLe.out p
                    rw [List.length_append]
                    omega
                  have S4 := Lib.hid (HS4.out p)
                  have S5 := Lib.hid (HS5.out p)
                  have S0 := Lib.hid (HS0.out p)
                  have hci := HCin.out p (by omega) (f.subs.getD p sub0).1
                  obtain ⟨c, hc⟩ : ∃ c, (f.subs.getD p sub0).1 = c := ⟨_, rfl⟩
                  rw [hc] at e0 S4 S5 S0 hci
                  obtain ⟨q1, h1⟩ : ∃ q, hasB t.codes c = q := ⟨_, rfl⟩
                  obtain ⟨q2, h2⟩ : ∃ q, hasB t.once c = q := ⟨_, rfl⟩
                  obtain ⟨q3, h3⟩ : ∃ q, codeIn (f.subs.take p) c = q := ⟨_, rfl⟩
                  have d1 := Lib.hid (fun W => cH.out c q1 h1 W)
                  have d2 := Lib.hid (fun W => cO.out c q2 h2 W)
                  have d3 := Lib.hid (fun W hW => cC.out W hW p (by omega) c)
                  obtain ⟨cnt, hcnt⟩ : ∃ n, cntC f.subs c p = n := ⟨_, rfl⟩
                  rw [hcnt] at d3 hci
                  rw [h1] at S4 S5 S0
                  rw [h2, h3] at S5 S0
                  rw [h3] at hci
                  have HSt := Lib.hid hst
                  have HCi := Lib.hid hci
                  obtain ⟨ao2, cp2, hs2⟩ := own_form9 hcr.pr
                  subst hs2
                  obtain ⟨m2, hm2⟩ : ∃ m, (M3 ++ subsL t f (q : Int) p).length = m := ⟨_, rfl⟩
                  have HM2 := Lib.hid hm2
                  rw [hm2] at hcr hln3 ⊢
                  have HCRr := Lib.hid hcr
                  obtain ⟨cv, hcv⟩ : ∃ v, (c.toNat : Int) = v := ⟨_, rfl⟩
                  have HCv := Lib.hid hcv
                  rw [hcv] at e0 d1 d2 d3
                  have HQr := Lib.hid (HQ.out.after hcr.bel)
                  clear hst hc h1 h2 h3 hcnt hci hcr hm2 hcv
                  go_wp2_with fail
                  refine (d1.out _).mono ?_
                  rintro e w6 ⟨rfl, hw6⟩
                  rw [hw6]
                  clear hw6 d1 e0
                  cases q1
                  · have HE4 := Lib.hid (S4.out (by trivial))
                    clear S4 S5 S0 d2 d3
                    go_wp2_with fail
                    refine (cP.out 4 (q : Int) st cv _).mono ?_
                    rintro e w5 ⟨rfl, d⟩
                    have hOne := PL.one' w5 4 (q : Int) f.tag c st cv HStF.out HCv.out
                    have hAl := (Below.refl w5.heap.size w5).alloc (Nat.le_refl _) (.cells #[.int .i64 4, .int .i64 (q : Int), .string st, .int .u8 cv] 44)
                    have HOne := Lib.hid hOne
                    have HCR5 := Lib.hid ((HCRr.out.after d).after hAl)
                    clear hOne hAl d f0 f1 f2 f3 y0 y1 y2 y3 y4 y5 y6
                    go_wp2_with (at_builtin; refine append_pr2 _ rfl _ _ rfl Wa.heap.size _ (M3 ++ subsL t f (q : Int) p) rfl HCR5.out.pr _ [⟨4, (q : Int), f.tag, c⟩] rfl HOne.out (by rw [HM2.out]; simp; omega) HCR5.out.bel.size ?_; intro v3 w3 hown3 hg3; have HCR6 := Lib.hid (HCR5.out.app hown3 hg3); clear hown3 hg3)
                    go_roundw
                    case rel => exact ⟨p + 1, by omega, by go_num, by rw [HSt.out, HE4.out, ← List.append_assoc]; exact HCR6.out⟩
                    case measure => simp [intOf]; omega
                  · have R5 := Lib.hid (S5.out (by trivial))
                    have R0 := Lib.hid (S0.out (by trivial))
                    clear S4 S5 S0
                    go_wp2_with fail
                    refine (d2.out _).mono ?_
                    rintro e w6 ⟨rfl, hw6⟩
                    rw [hw6]
                    clear hw6 d2
                    cases q2
                    · have HE4 := Lib.hid (R0.out (by trivial))
                      clear R5 R0 d3
                      go_wp2
                      go_roundw
                      case rel => exact ⟨p + 1, by omega, by go_num, by rw [HSt.out, HE4.out, List.append_nil]; exact HCRr.out⟩
                      case measure => simp [intOf]; omega
                    · go_wp2_with fail
                      refine (d3.out _ HQr.out).mono ?_
                      rintro e w6 ⟨rfl, b6⟩
                      have HCR7 := Lib.hid (HCRr.out.after b6)
                      clear f0 f1 f2 f3 y0 y1 y2 y3 y4 y5 y6 b6 d3
                      have hci := HCi.out
                      cases q3
                      · have HE4 := Lib.hid (R0.out (by trivial))
                        have hn0 := of_decide_eq_false hci
                        have hn1 : decide ((0 : Int) < (cnt : Int)) = false := decide_eq_false (by omega)
                        clear R5 R0
                        go_wp2
                        go_roundw
                        case rel => exact ⟨p + 1, by omega, by go_num, by rw [HSt.out, HE4.out, List.append_nil]; exact HCR7.out⟩
                        case measure => simp [intOf]; omega
                      · have HE4 := Lib.hid (R5.out (by trivial))
                        have hn0 := of_decide_eq_true hci
                        have hn1 : decide ((0 : Int) < (cnt : Int)) = true := decide_eq_true (by omega)
                        clear R5 R0
                        obtain ⟨f0, f1, f2, f3⟩ := HFC.out _ HCR7.out.fb
                        go_wp2_with fail
                        refine (cP.out 5 (q : Int) st cv _).mono ?_
                        rintro e w5 ⟨rfl, d⟩
                        have hOne := PL.one' w5 5 (q : Int) f.tag c st cv HStF.out HCv.out
                        have hAl := (Below.refl w5.heap.size w5).alloc (Nat.le_refl _) (.cells #[.int .i64 5, .int .i64 (q : Int), .string st, .int .u8 cv] 44)
                        have HOne := Lib.hid hOne
                        have HCR5 := Lib.hid ((HCR7.out.after d).after hAl)
                        clear hOne hAl d f0 f1 f2 f3
                        go_wp2_with (at_builtin; refine append_pr2 _ rfl _ _ rfl Wa.heap.size _ (M3 ++ subsL t f (q : Int) p) rfl HCR5.out.pr _ [⟨5, (q : Int), f.tag, c⟩] rfl HOne.out (by rw [HM2.out]; simp; omega) HCR5.out.bel.size ?_; intro v3 w3 hown3 hg3; have HCR6 := Lib.hid (HCR5.out.app hown3 hg3); clear hown3 hg3)
                        go_roundw
                        case rel => exact ⟨p + 1, by omega, by go_num, by rw [HSt.out, HE4.out, ← List.append_assoc]; exact HCR6.out⟩
                        case measure => simp [intOf]; omega
                · obtain rfl : p = ns := by omega
                  obtain ⟨M4, hM4e⟩ : ∃ M, M3 ++ subsL t f (q : Int) p = M := ⟨_, rfl⟩
                  have hM4 : M4.length ≤ 200061 := by
                    have := HSLe.out p
                    rw [← hM4e, List.length_append]
                    omega
                  rw [hM4e] at hcr
                  have HM4 := Lib.hid hM4e
                  obtain ⟨y0, y1, y2, y3, y4, y5, y6⟩ := HUC.out _ hcr.ub
                  have HCR4 := Lib.hid hcr
                  have HNTop : RowKit.Hid (M4 ++ needsL t f (q : Int) 0 = M4) := List.append_nil _
                  clear hM4e hcr HCR3 cH cO HS4 HS5 HS0 HSStep HSLe
                  go_wp2
                  go_loopw [5, 13] (fun s i wz => ∃ k2 : Nat, k2 ≤ m ∧ i = .int .i64 (k2 : Int) ∧ CR Wa bf bx f (.slice ax p cx) t (M4 ++ needsL t f (q : Int) k2) s wz) (fun _ i _ => m - (intOf i).toNat)
                  case atStart => exact ⟨0, Nat.zero_le _, rfl, by rw [HNTop.out]; exact HCR4.out⟩
                  case round =>
                    obtain ⟨k2, hk2, rfl, hcr⟩ := hrel
                    clear f0 f1 f2 f3 y0 y1 y2 y3 y4 y5 y6
                    obtain ⟨f0, f1, f2, f3⟩ := HFC.out _ hcr.fb
                    obtain ⟨y0, y1, y2, y3, y4, y5, y6⟩ := HUC.out _ hcr.ub
                    by_cases hkm : k2 < m
                    · have i3 : (0 : Int) ≤ (k2 : Int) := by omega
                      have i4 : (k2 : Int) < (m : Int) := by omega
                      have hst := HNStep.out k2
                      have hln4 : (M4 ++ needsL t f (q : Int) k2).length ≤ 200161 := by
                        have := HNLe.out k2
                        rw [List.length_append]
                        omega
                      have N6 := Lib.hid (HN6.out k2)
                      have N0 := Lib.hid (HN0.out k2)
                      have hbk := HBS.out k2
                      have hci := HCin.out p (Nat.le_refl p) (t.needs.getD k2 0)
                      rw [HTakeS.out] at hci
                      obtain ⟨c, hc⟩ : ∃ c, t.needs.getD k2 0 = c := ⟨_, rfl⟩
                      rw [hc] at N6 N0 hbk hci
                      obtain ⟨q3, h3⟩ : ∃ q, codeIn f.subs c = q := ⟨_, rfl⟩
                      have d3 := Lib.hid (fun W hW => cC.out W hW p (Nat.le_refl p) c)
                      obtain ⟨cnt, hcnt⟩ : ∃ n, cntC f.subs c p = n := ⟨_, rfl⟩
                      rw [hcnt] at d3 hci
                      rw [h3] at N6 N0 hci
                      rw [← hbk] at d3
                      have HSt := Lib.hid hst
                      have HCi := Lib.hid hci
                      have HBk := Lib.hid hbk.symm
                      obtain ⟨ao2, cp2, hs2⟩ := own_form9 hcr.pr
                      subst hs2
                      obtain ⟨m2, hm2⟩ : ∃ m, (M4 ++ needsL t f (q : Int) k2).length = m := ⟨_, rfl⟩
                      have HM2 := Lib.hid hm2
                      rw [hm2] at hcr hln4 ⊢
                      have HCRr := Lib.hid hcr
                      have HQr := Lib.hid (HQ.out.after hcr.bel)
                      have hcb : ((cnt : Int) == 0) = !q3 := by
                        rw [← hci, Bool.eq_iff_iff, beq_iff_eq, Bool.not_eq_true', decide_eq_false_iff_not]
                        omega
                      clear hst hc h3 hcnt hci hcr hm2 hbk
                      go_upto_region 27 with fail
                      go_cut [155] from 146 to 155 (fun s155 wx => ∃ z, s155 = .bool z ∧ RowKit.Hid ((!q3) = z) ∧ Below wr.heap.size wr wx)
                      case first =>
                        have bD : Below wr.heap.size wr wr.drew := ⟨rfl, rfl, rfl, Nat.le_refl _, fun _ _ => rfl⟩
                        have hT := Lib.hid (d3.out wr.drew (HQr.out.after bD))
                        clear d3 bD
                        go_region_law (first
                          | (go_simp; go_at_call 33; refine (hT.out).mono ?_; rintro e W1 ⟨rfl, b1⟩))
                        all_goals (go_wp2_with fail; go_meet; exact ⟨_, rfl, rfl, ⟨b1.os, b1.tape, b1.output, b1.size, b1.block⟩⟩)
                      case rest =>
                        obtain ⟨z, rfl, HZv, hb⟩ := hcut
                        have HCRc := Lib.hid (HCRr.out.after hb)
                        clear f0 f1 f2 f3 y0 y1 y2 y3 y4 y5 y6 hcb hb HCRr d3
                        cases z
                        · have hq : q3 = true := by
                            have := HZv.out
                            cases q3
                            · cases this
                            · rfl
                          have HE6 := Lib.hid (N0.out hq)
                          clear N6 N0 hq HZv HCi
                          go_wp2
                          go_roundw
                          case rel => exact ⟨k2 + 1, by omega, by go_num, by rw [HSt.out, HE6.out, List.append_nil]; exact HCRc.out⟩
                          case measure => simp [intOf]; omega
                        · have hq : q3 = false := by
                            have := HZv.out
                            cases q3
                            · rfl
                            · cases this
                          have HE6 := Lib.hid (N6.out hq)
                          clear N6 N0 hq HZv HCi
                          obtain ⟨f0, f1, f2, f3⟩ := HFC.out _ HCRc.out.fb
                          obtain ⟨y0, y1, y2, y3, y4, y5, y6⟩ := HUC.out _ HCRc.out.ub
                          go_upto_region 28 with fail
                          have bD : Below wc.heap.size wc wc.drew := ⟨rfl, rfl, rfl, Nat.le_refl _, fun _ _ => rfl⟩
                          have HCRd := Lib.hid (HCRc.out.after bD)
                          have hP := Lib.hid (cP.out 6 (q : Int) st (bt sn k2) wc.drew)
                          clear bD
                          go_region_law (first
                            | (refine step_append_pr _ (by rfl) _ _ (by rfl) Wa.heap.size _ (M4 ++ needsL t f (q : Int) k2) (by rfl) hCRa.pr ⟨6, (q : Int), f.tag, c⟩ ⟨W1.heap.size, 0, none⟩ (by rfl) hOne (by rw [HM2.out]; omega) hCRa.bel.size ?_; intro g3 cap3 w3 hown3 hgrow3)
                            | (go_simp; go_at_call 31; refine (hP.out).mono ?_; rintro e W1 ⟨rfl, b1⟩; have hOne := PL.one' W1 6 (q : Int) f.tag c st (bt sn k2) HStF.out HBk.out; have hCRa := (HCRd.out.after b1).after ((Below.refl W1.heap.size W1).alloc (Nat.le_refl _) (.cells #[.int .i64 6, .int .i64 (q : Int), .string st, .int .u8 (bt sn k2)] 44)); clear b1))
                          all_goals
                            have HCR6 := Lib.hid (hCRa.app hown3 hgrow3)
                            clear hOne hCRa hown3 hgrow3 f0 f1 f2 f3 y0 y1 y2 y3 y4 y5 y6
                            go_wp2
                            go_roundw
                            case rel => exact ⟨k2 + 1, by omega, by go_num, by rw [HSt.out, HE6.out, ← List.append_assoc]; have h := HCR6.out; rw [List.length_append] at h; exact h⟩
                            case measure => simp [intOf]; omega
                    · obtain rfl : k2 = m := by omega
                      have hE7 := HRu2.out
                      rw [HM3.out.symm] at HM4
                      have hln5 : (M4 ++ needsL t f (q : Int) k2).length ≤ 200161 := by
                        have := HNLe.out k2
                        rw [List.length_append]
                        omega
                      have HAll : RowKit.Hid (∀ P7, ((P3 ++ subsL t f (q : Int) p) ++ needsL t f (q : Int) k2) ++ P7 = ruledL t f (q : Int) ab → (M4 ++ needsL t f (q : Int) k2) ++ P7 = M0 ++ ruledL t f (q : Int) ab) := by
                        intro P7 h
                        rw [← h, ← HM4.out]
                        simp only [List.append_assoc]
                      obtain ⟨ao2, cp2, hs2⟩ := own_form9 hcr.pr
                      subst hs2
                      obtain ⟨m2, hm2⟩ : ∃ m, (M4 ++ needsL t f (q : Int) k2).length = m := ⟨_, rfl⟩
                      have HM2 := Lib.hid hm2
                      rw [hm2] at hcr hln5 ⊢
                      have HCRr := Lib.hid hcr
                      clear hcr hm2 hM4 HM4 HM3 HRu2 HNStep HNLe HN6 HN0 HBS cC HCin
                      by_cases h7 : va ≠ 0 ∧ ta = 0
                      · have hE := HAll.out _ (hE7 _ (if_pos h7))
                        have d0 : (va != 0) = true := by simpa using h7.1
                        obtain rfl := h7.2
                        have HE7 := Lib.hid hE
                        clear hE hE7 h7 HAll
                        go_wp2_with fail
                        refine (cP.out 7 (q : Int) st 0 _).mono ?_
                        rintro e w5 ⟨rfl, d⟩
                        have hOne := PL.one' w5 7 (q : Int) f.tag 0 st 0 HStF.out rfl
                        have hAl := (Below.refl w5.heap.size w5).alloc (Nat.le_refl _) (.cells #[.int .i64 7, .int .i64 (q : Int), .string st, .int .u8 0] 44)
                        have HOne := Lib.hid hOne
                        have HCR5 := Lib.hid ((HCRr.out.after d).after hAl)
                        clear hOne hAl d f0 f1 f2 f3 y0 y1 y2 y3 y4 y5 y6
                        go_wp2_with (at_builtin; refine append_pr2 _ rfl _ _ rfl Wa.heap.size _ (M4 ++ needsL t f (q : Int) k2) rfl HCR5.out.pr _ [⟨7, (q : Int), f.tag, 0⟩] rfl HOne.out (by rw [HM2.out]; simp; omega) HCR5.out.bel.size ?_; intro v3 w3 hown3 hg3; have HCR6 := Lib.hid (HCR5.out.app hown3 hg3); clear hown3 hg3)
                        go_roundw
                        case rel => exact ⟨q + 1, by omega, by go_num, by rw [HE.out, ← HE7.out]; exact HCR6.out.pr, HCR6.out.bel⟩
                        case measure => simp [intOf]; omega
                      · have hE := HAll.out _ (hE7 _ (if_neg h7))
                        rw [List.append_nil] at hE
                        have HE7 := Lib.hid hE
                        by_cases h0 : va = 0
                        · have d0 : (va != 0) = false := by simp [h0]
                          clear h7 h0 hE hE7 HAll
                          go_wp2
                          go_roundw
                          case rel => exact ⟨q + 1, by omega, by go_num, by rw [HE.out, ← HE7.out]; exact HCRr.out.pr, HCRr.out.bel⟩
                          case measure => simp [intOf]; omega
                        · have d0 : (va != 0) = true := by simpa using h0
                          have d1 : (ta == 0) = false := beq_eq_false_iff_ne.2 (fun h => h7 ⟨h0, h⟩)
                          clear h7 h0 hE hE7 HAll
                          go_wp2
                          go_roundw
                          case rel => exact ⟨q + 1, by omega, by go_num, by rw [HE.out, ← HE7.out]; exact HCRr.out.pr, HCRr.out.bel⟩
                          case measure => simp [intOf]; omega
        · obtain rfl : q = n := by omega
          rw [HChk.out] at hpr
          obtain ⟨ao, cp, hs⟩ := own_form9 hpr
          subst hs
          have HF := Lib.hid hpr.pl
          have HFb := Lib.hid (HA.out.trans (hbw.mono HA.out.size))
          clear hpr hbw
          go_wp2
          go_ret
          exact ⟨_, rfl, HF.out, HFb.out⟩
end Go.Proofs.YtjfdolmcecgdgaaDoor
