/- libraryref02.Sort over lists of at most a thousand texts. -/
import Derived.Test.YtjfeckccmfbkhaaDoorKeyLaws
import Derived.Test.YtjfeckccmfbkhaaDoorCSortAll
import Derived.Test.YtjfeckccmfbkhaaDoorR02Cmp
import Derived.Deep.RegionHeld3
namespace Go.Proofs.YtjfeckccmfbkhaaDoor
open Go.RowKit Go.Sort

/-- Every world on the way from wr on keeps all that lay in it. -/
def Sees (w w' : World) : Prop := Below w.heap.size w w'
theorem Sees_drew (w w' : World) : Sees w w'.drew ↔ Sees w w' :=
  ⟨fun b => ⟨b.os, b.tape, b.output, b.size, b.block⟩, fun b => ⟨b.os, b.tape, b.output, b.size, b.block⟩⟩
theorem Sees.after {w w1 w2 : World} (h : Sees w w1) (hb : Below w1.heap.size w1 w2) : Sees w w2 := Below.trans h (hb.mono h.size)
theorem Sees.self (w : World) : Sees w w := Below.refl _ _

theorem own_empty (w : World) : (w.alloc (.cells #[] 9)).ownsRow w.heap.size 9 1 (.slice (some ⟨w.heap.size, 0, none⟩) 0 0) 0 [] := by
  refine ⟨rfl, .inr ⟨w.heap.size, 0, #[], rfl, Nat.le_refl _, heap_alloc_new w _, Nat.le_refl _, Nat.zero_le _, rfl, rfl⟩⟩
theorem own_base {w : World} {B B' e size n : Nat} {v : Value} {xs : List Value} (h : w.ownsRow B e size v n xs) (hb : B' ≤ B) : w.ownsRow B' e size v n xs := by
  refine ⟨h.1, ?_⟩
  rcases h.2 with hn | ⟨g, cap, cur, hv, hB, rest⟩
  · exact .inl hn
  · exact .inr ⟨g, cap, cur, hv, Nat.le_trans hb hB, rest⟩
theorem place_text (S : List Ent) (x : Ent) (s : ByteArray) (h : x.2 = s) (j : Nat) : (place S x j).map textV = (S.take j).map textV ++ [Value.string s] ++ (S.drop j).map textV := by
  subst h
  unfold place
  simp [textV]
theorem textV_at (S : List Ent) (i : Nat) (h : i < S.length) : (S.map textV)[i]? = some (.string S[i].2) := by
  rw [List.getElem?_map, List.getElem?_eq_getElem h]; rfl
/-- The entries of a list in order are entries of its texts. -/
theorem srt_mem (lang : ByteArray) (L : List (List Nat)) (i : Nat) (h : i < (srt (L.map (ent lang))).length) : ∃ c ∈ L, (srt (L.map (ent lang)))[i] = ent lang c := by
  have h1 : (srt (L.map (ent lang)))[i] ∈ L.map (ent lang) := (srt_perm _).mem_iff.1 (List.getElem_mem h)
  obtain ⟨c, hc, e⟩ := List.mem_map.1 h1
  exact ⟨c, hc, e.symm⟩

set_option maxHeartbeats 16000000 in
set_option maxRecDepth 100000 in
theorem refSort_any (lang : ByteArray) (L : List (List Nat)) (hL : ∀ x ∈ L, OKs x ∧ x.length ≤ 10000) (hz : L.length ≤ 1000) (v : Value) (w : World) (hv : SL v (L.map T) w) :
    Calls Tryd.prog 23 #[.string lang, v] w fun e w' => ∃ v', e = .returned v' ∧ SL v' ((srt (L.map (ent lang))).map Prod.snd) w' ∧ Below w.heap.size w w' := by
  obtain ⟨a, cap, rfl, hcap, hcell⟩ := hv
  rw [List.length_map] at hcap ⊢
  have HCell := Lib.hid hcell
  have HL := Lib.hid hL
  clear hcell hL
  obtain ⟨n, hN⟩ : ∃ n, L.length = n := ⟨_, rfl⟩
  rw [hN] at hcap hz ⊢
  have HN := Lib.hid hN
  clear hN
  obtain ⟨i9, hi9, hz90, hz91, hz92⟩ := info_parts infoStr
  have hown0 := own_empty w
  have hb0 : Below w.heap.size w (w.alloc (.cells #[] 9)) := (Below.refl _ w).alloc (Nat.le_refl _) _
  go_enter Tryd.func23, Tryd.ntmps23
  go_wp2
  go_loopw [5, 6] (fun v5 i wr => ∃ k : Nat, k ≤ n ∧ i = .int .i64 k ∧ wr.ownsRow w.heap.size 9 1 v5 k ((srt ((L.take k).map (ent lang))).map textV) ∧ v5 ≠ .slice none 0 0 ∧ Below w.heap.size w wr) (fun _ i _ => n - (intOf i).toNat)
  case atStart =>
    have e0 : (srt ((L.take 0).map (ent lang))).map textV = [] := by simp [srt]
    exact ⟨0, Nat.zero_le _, rfl, by rw [e0]; exact hown0, (fun h => by cases h), hb0⟩
  case round =>
    obtain ⟨k, hk, rfl, hown, hnn, hbw⟩ := hrel
    clear hown0 hb0
    by_cases hlt : k < n
    · have hkL : k < L.length := by have := HN.out; omega
      obtain ⟨g, o, rfl, hg, hc0⟩ := HCell.out k (T L[k]) (by rw [List.getElem?_map, List.getElem?_eq_getElem hkL]; rfl)
      have hc : wr.cell? ⟨g, o + k, none⟩ = some (.string (T L[k])) := (hbw.cell (p := ⟨g, o + k, none⟩) hg).trans hc0
      have hok := HL.out L[k] (List.getElem_mem hkL)
      obtain ⟨S, hSE⟩ : ∃ S, srt ((L.take k).map (ent lang)) = S := ⟨_, rfl⟩
      have hSl : S.length = k := by rw [← hSE, srt_len, List.length_map, List.length_take]; omega
      have cC : ∀ (i : Nat) (h : i < S.length) (W : World), Calls Tryd.prog 20 #[.string lang, .string S[i].2, .string (T L[k])] W fun e w' => e = .returned (.int .i64 (cmpE S[i] (ent lang L[k]))) ∧ Below W.heap.size W w' := by
        intro i h W
        subst hSE
        obtain ⟨c, hc, e⟩ := srt_mem lang (L.take k) i h
        have hokc := HL.out c (List.mem_of_mem_take hc)
        have := refCompare_any lang c L[k] hokc.1 hok.1 hokc.2 hok.2 (T c) (T L[k]) rfl rfl W
        rw [cmpT_cmpE] at this
        rw [e]
        exact this
      have hplace : ∀ j, j ≤ S.length → (0 < j → ∀ y, S[j - 1]? = some y → cmpE y (ent lang L[k]) ≤ 0) → (∀ i, j ≤ i → ∀ y, S[i]? = some y → 0 < cmpE y (ent lang L[k])) → srt ((L.take (k + 1)).map (ent lang)) = place S (ent lang L[k]) j := by
        intro j hj h1 h2
        rw [List.take_succ_eq_append_getElem hkL, List.map_append, List.map_cons, List.map_nil, ← place_srt _ _ j (by rw [hSE]; exact hj) (by rw [hSE]; exact h1) (by rw [hSE]; exact h2), hSE]
      rw [hSE] at hown
      have HPlace := Lib.hid hplace
      have CC := Lib.hid cC
      have HSl := Lib.hid hSl
      have Hbw := Lib.hid hbw
      have hsz := hbw.size
      have hx2 : (ent lang L[k]).2 = T L[k] := rfl
      clear hplace cC hSl hbw hok hSE
      generalize ent lang L[k] = x at HPlace CC hx2
      generalize T L[k] = s at CC hc hx2 hc0
      obtain ⟨gs, cs, rfl, hB, hgs, hcs⟩ := own_slice hown hnn
      have HOwn := Lib.hid hown
      clear hown hnn hc0 hcap
      have i1 : (0 : Int) ≤ (k : Int) := by omega
      have i2 : (k : Int) < (n : Int) := by omega
      obtain ⟨wo, rfl⟩ : ∃ wo : World, wo = wr := ⟨_, rfl⟩
      go_wp2
      go_loopw [7] (fun c wr => ∃ j : Nat, j ≤ k ∧ c = .int .i64 j ∧ RowKit.Hid (∀ i, j ≤ i → ∀ y, S[i]? = some y → 0 < cmpE y x) ∧ Sees wo wr) (fun c _ => (intOf c).toNat)
      case atStart =>
        refine ⟨k, Nat.le_refl _, rfl, ?_, Sees.self _⟩
        intro i hi y hy
        have := (List.getElem?_eq_some_iff.1 hy).1
        have := HSl.out
        omega
      case round =>
        obtain ⟨j, hj, rfl, HAb, hse⟩ := hrel
        have hAb2 : True := trivial
        obtain ⟨bb, hbb⟩ : ∃ bb : Bool, (decide (0 < j) && (match S[j - 1]? with | some y => decide (0 < cmpE y x) | none => false)) = bb := ⟨_, rfl⟩
        go_upto_region 6 with fail
        go_cut [33] from 18 to 33 (fun s33 wx => s33 = .bool bb ∧ Sees wo wx)
        case first =>
          by_cases hj0 : j = 0
          · subst hj0
            obtain rfl : bb = false := by rw [← hbb]; rfl
            go_region
            all_goals (go_wp2_with fail; go_meet; exact ⟨rfl, (Sees_drew _ _).2 hse⟩)
          · have hjS : j - 1 < S.length := by have := HSl.out; omega
            have hbr : bb = decide (0 < cmpE S[j - 1] x) := by
              rw [← hbb, List.getElem?_eq_getElem hjS, decide_eq_true (show 0 < j by omega), Bool.true_and]
            have cJ := Lib.hid (CC.out (j - 1) hjS)
            have k1 : wr.cell? ⟨gs, j - 1, none⟩ = some (.string S[j - 1].2) := by
              have h1 := HOwn.out.cells (g := gs) rfl (j - 1) _ (textV_at S (j - 1) hjS)
              have hadd : (⟨gs, 0, none⟩ : Addr).add (j - 1) = ⟨gs, j - 1, none⟩ := by unfold Addr.add; split <;> simp_all
              rw [hadd] at h1
              exact (Below.cell hse (p := ⟨gs, j - 1, none⟩) hgs).trans h1
            have k2 : wr.cell? ⟨g, o + k, none⟩ = some (.string s) := (Below.cell hse (p := ⟨g, o + k, none⟩) (Nat.lt_of_lt_of_le hg hsz)).trans hc
            clear hbb hAb2
            generalize cmpE S[j - 1] x = r at cJ hbr
            generalize S[j - 1].2 = y2 at cJ k1
            obtain ⟨m, rfl⟩ : ∃ m, j = m + 1 := ⟨j - 1, by omega⟩
            rw [show m + 1 - 1 = m by omega] at k1
            have cS : ∀ W, (W.cell? ⟨gs, m, none⟩ = some (.string y2) ∧ W.cell? ⟨g, o + k, none⟩ = some (.string s) ∧ Sees wo W) → Calls Tryd.prog 20 #[.string lang, .string y2, .string s] W fun e w' => e = .returned (.int .i64 r) ∧ w'.cell? ⟨gs, m, none⟩ = some (.string y2) ∧ w'.cell? ⟨g, o + k, none⟩ = some (.string s) ∧ Sees wo w' := by
              intro W ⟨h1, h2, h3⟩
              refine (cJ.out W).mono fun e w' ⟨he, hb⟩ => ⟨he, ?_, ?_, h3.after hb⟩
              · exact (hb.cell (p := ⟨gs, m, none⟩) (Nat.lt_of_lt_of_le hgs h3.size)).trans h1
              · exact (hb.cell (p := ⟨g, o + k, none⟩) (Nat.lt_of_lt_of_le (Nat.lt_of_lt_of_le hg hsz) h3.size)).trans h2
            have CS := Lib.hid cS
            have e1 : ((m + 1 : Nat) : Int) - 1 = (m : Int) := by omega
            have i3 : (0 : Int) ≤ (m : Int) := by omega
            have i4 : (m : Int) < (k : Int) := by omega
            have d0 : decide ((0 : Int) < ((m + 1 : Nat) : Int)) = true := by simp
            have d1 : decide ((0 : Int) < (m : Int) + 1) = true := by simp
            have e2 : IntKind.i64.wrap (((m + 1 : Nat) : Int) - 1) = (m : Int) := by rw [IntKind.wrap_i64]; omega
            have e3 : IntKind.i64.wrap ((m : Int) + 1 - 1) = (m : Int) := by rw [IntKind.wrap_i64]; omega
            have e4 : IntKind.i64.wrap (m : Int) = (m : Int) := by rw [IntKind.wrap_i64]; omega
            clear cS cJ
            have hBB := Lib.hid hbr
            clear hbr
            go_region_held3 (fun w' => w'.cell? ⟨gs, m, none⟩ = some (.string y2) ∧ w'.cell? ⟨g, o + k, none⟩ = some (.string s) ∧ Sees wo w') (simp [*, Sees_drew])
              (first | (go_at_call 20; refine (CS.out _ ?_).mono ?_; (refine ⟨?_, ?_, ?_⟩ <;> first | assumption | (rw [Sees_drew]; assumption)); rintro e w' ⟨rfl, k1, k2, hse⟩))
            all_goals (go_wp2_with fail; go_meet; refine ⟨?_, ?_⟩ <;> first | (rw [hBB.out]) | assumption | (rw [Sees_drew]; assumption))
        case rest =>
          obtain ⟨rfl, hse⟩ := hcut
          have hAB := HAb.out
          cases bb
          · have hle : 0 < j → ∀ y, S[j - 1]? = some y → cmpE y x ≤ 0 := by
              intro h0 y hy
              rw [decide_eq_true h0, hy] at hbb
              simpa using hbb
            have HP := Lib.hid (HPlace.out j (by rw [HSl.out]; exact hj) hle hAB)
            have c1 : (0 : Int) ≤ (j : Int) := by omega
            have c2 : (j : Int) ≤ (cs : Int) := by omega
            have c3 : (j : Int) ≤ (k : Int) := by omega
            have hsz2 := hse.size
            have hgs2 : gs < wc.heap.size := by omega
            have hown1 := own_empty wc
            have hcS : ∀ i (hi : i < S.length) (W : World), Below wc.heap.size wc W → W.cell? ⟨gs, i, none⟩ = some (.string S[i].2) := by
              intro i hi W hW
              have h1 := HOwn.out.cells (g := gs) rfl i _ (textV_at S i hi)
              have hadd : (⟨gs, 0, none⟩ : Addr).add i = ⟨gs, i, none⟩ := by unfold Addr.add; split <;> simp_all
              rw [hadd] at h1
              rw [hW.cell (p := ⟨gs, i, none⟩) hgs2]
              exact (Below.cell hse (p := ⟨gs, i, none⟩) hgs).trans h1
            have HCS := Lib.hid hcS
            clear hbb hle hcS hAB
            go_wp2_with (at_builtin; refine wpList_append_own _ rfl _ _ 23 rfl wc.heap.size 9 i9 (.string ⟨#[]⟩) 1 16 Tryd.underlying23 hi9 hz90 hz91 hz92 rfl (by decide) _ _ _ rfl hown1 ⟨gs, 0, none⟩ j cs ((S.take j).map textV) rfl ?a1 ?a2 ?a3 ?a4 ?a5 ?a6 ?_)
            case a1 => rw [List.length_map, List.length_take]; have := HSl.out; omega
            case a2 =>
              intro i u hu
              have hi : i < ((S.take j).map textV).length := (List.getElem?_eq_some_iff.1 hu).1
              rw [List.length_map, List.length_take] at hi
              have hi2 : i < S.length := by omega
              have e0 : u = .string S[i].2 := by
                rw [List.getElem?_map, List.getElem?_take_of_lt (by omega), List.getElem?_eq_getElem hi2] at hu
                exact (Option.some.inj hu).symm
              have hadd : (⟨gs, 0, none⟩ : Addr).add i = ⟨gs, i, none⟩ := by unfold Addr.add; split <;> simp_all
              rw [hadd, e0]
              exact HCS.out i hi2 _ ((Below.refl _ wc).alloc (Nat.le_refl _) _)
            case a3 => intro u hu; obtain ⟨y, _, rfl⟩ := List.mem_map.1 hu; rfl
            case a4 => unfold maxLen; omega
            case a5 => omega
            case a6 => simp
            intro v1 W1 hown2 hgrow1 hnil1
            have hB1 : Below wc.heap.size wc W1 := ((Below.refl _ wc).alloc (Nat.le_refl _) _).grown hgrow1 (by simp) (fun q hq => (hown1.lt q hq).1)
            have HO2 := Lib.hid hown2
            have HB1 := Lib.hid hB1
            have hW1 := hB1.size
            have k2 : W1.cell? ⟨g, o + k, none⟩ = some (.string s) := (hB1.cell (p := ⟨g, o + k, none⟩) (by show g < wc.heap.size; omega)).trans ((Below.cell hse (p := ⟨g, o + k, none⟩) (Nat.lt_of_lt_of_le hg hsz)).trans hc)
            clear hgrow1 hnil1 hown1 hown2 hB1
            go_wp2_with (at_builtin; refine wpList_append_own _ rfl _ _ 23 rfl wc.heap.size 9 i9 (.string ⟨#[]⟩) 1 16 Tryd.underlying23 hi9 hz90 hz91 hz92 rfl (by decide) _ _ _ rfl (HO2.out.alloc _) ⟨W1.heap.size, 0, none⟩ 1 1 [.string s] rfl rfl (cells_one _ _ _) (by intro u hu; simp at hu; subst hu; rfl) (by unfold maxLen; omega) (by omega) (by simp; omega) ?_)
            intro v2 W2 hown3 hgrow2 hnil2
            have hB2 : Below wc.heap.size wc W2 := (HB1.out.alloc hW1 _).grown hgrow2 (by simp; omega) (fun q hq => ((HO2.out.alloc (.cells #[.string s] 9)).lt q hq).1)
            have HO3 := Lib.hid hown3
            have HB2 := Lib.hid hB2
            have hW2 := hB2.size
            clear hgrow2 hnil2 hown3 hB2 k2
            have hlN : ((S.map textV).drop j).length = (k - j) * 1 := by rw [List.length_drop, List.length_map]; have := HSl.out; omega
            have hN1 : ∀ u ∈ (S.map textV).drop j, u.oneCell' = true := by intro u hu; obtain ⟨y, _, rfl⟩ := List.mem_map.1 (List.mem_of_mem_drop hu); rfl
            have hNA : ∀ i u, ((S.map textV).drop j)[i]? = some u → W2.cell? ((⟨gs, j, none⟩ : Addr).add i) = some u := by
              intro i u hu
              have hi : i < ((S.map textV).drop j).length := (List.getElem?_eq_some_iff.1 hu).1
              rw [List.length_drop, List.length_map] at hi
              have hi2 : j + i < S.length := by omega
              have e0 : u = .string S[j + i].2 := by
                rw [List.getElem?_drop, List.getElem?_map, List.getElem?_eq_getElem hi2] at hu
                exact (Option.some.inj hu).symm
              have hadd : (⟨gs, j, none⟩ : Addr).add i = ⟨gs, j + i, none⟩ := by unfold Addr.add; split <;> simp_all
              rw [hadd, e0]
              exact HCS.out (j + i) hi2 _ HB2.out
            have hNB : cs = j → ∀ i u, ((S.map textV).drop j)[i]? = some u → W2.cell? ((⟨gs, 0, none⟩ : Addr).add i) = some u := by
              intro hcj i u hu
              have hi : i < ((S.map textV).drop j).length := (List.getElem?_eq_some_iff.1 hu).1
              rw [hlN] at hi
              omega
            have hNC : ∀ i u, ((S.map textV).drop j)[i]? = some u → W2.cell? ((if cs = j then (⟨gs, 0, none⟩ : Addr) else ⟨gs, j, none⟩).add i) = some u := by
              intro i u hu
              by_cases hq : cs = j
              · rw [if_pos hq]; exact hNB hq i u hu
              · rw [if_neg hq]; exact hNA i u hu
            have HlN := Lib.hid hlN
            have HN1 := Lib.hid hN1
            have HNC := Lib.hid hNC
            clear hlN hN1 hNA hNB hNC
            go_wp2_with (at_builtin; go_loud (refine wpList_append_own _ rfl _ _ 23 rfl wc.heap.size 9 i9 (.string ⟨#[]⟩) 1 16 Tryd.underlying23 hi9 hz90 hz91 hz92 rfl (by decide) _ _ _ rfl HO3.out (if cs = j then (⟨gs, 0, none⟩ : Addr) else ⟨gs, j, none⟩) (k - j) (cs - j) ((S.map textV).drop j) (by change Value.slice (if cs = j then some (⟨gs, 0, none⟩ : Addr) else some ⟨gs, j, none⟩) (k - j) (cs - j) = _; split <;> rfl) HlN.out HNC.out HN1.out (by unfold maxLen; omega) (by omega) hW2 ?_))
            all_goals
              intro v3 W3 hown4 hgrow3 hnil3
              have hB3 : RowKit.Below wc.heap.size wc W3 := HB2.out.grown hgrow3 hW2 (fun q hq => (HO3.out.lt q hq).1)
              have e1 : j + 1 + (k - j) = k + 1 := by omega
              rw [e1] at hown4
              have hn3 : v3 ≠ .slice none 0 0 := by
                intro h
                rcases hown4.2 with ⟨_, h0⟩ | ⟨_, _, _, hv, _⟩
                · omega
                · rw [h] at hv; cases hv
              have hown5 : W3.ownsRow w.heap.size 9 1 v3 (k + 1) ((srt ((L.take (k + 1)).map (ent lang))).map textV) := by
                rw [HP.out, place_text S x s hx2 j, List.map_take, List.map_drop, List.append_assoc]
                have hO : W3.ownsRow wc.heap.size 9 1 v3 (k + 1) ((S.map textV).take j ++ ([Value.string s] ++ (S.map textV).drop j)) := hown4
                exact own_base hO (by omega)
              have HO5 := Lib.hid hown5
              have HN3 := Lib.hid hn3
              have HB3 := Lib.hid (Hbw.out.trans ((Below.trans hse (hB3.mono hsz2)).mono hsz))
              clear hown5 hn3 hown4 hgrow3 hnil3 hB3
              go_wp2
              go_roundw
              case rel => exact ⟨k + 1, by omega, by go_num, HO5.out, HN3.out, HB3.out⟩
              case measure => simp [intOf]; omega
          · have h0 : 0 < j := by
              rcases Nat.eq_zero_or_pos j with h | h
              · subst h; simp at hbb
              · exact h
            obtain ⟨m, rfl⟩ : ∃ m, j = m + 1 := ⟨j - 1, by omega⟩
            have hAC : ∀ i, m ≤ i → ∀ y, S[i]? = some y → 0 < cmpE y x := by
              intro i hi y hy
              by_cases he : i = m
              · subst he
                rw [show i + 1 - 1 = i by omega, hy, Bool.and_eq_true] at hbb
                simpa using hbb.2
              · exact hAB i (by omega) y hy
            have HAC := Lib.hid hAC
            clear hAC hAB hbb HAb
            have e2 : IntKind.i64.wrap (((m + 1 : Nat) : Int) - 1) = (m : Int) := by rw [IntKind.wrap_i64]; omega
            have e3 : IntKind.i64.wrap ((m : Int) + 1 - 1) = (m : Int) := by rw [IntKind.wrap_i64]; omega
            have e4 : IntKind.i64.wrap (m : Int) = (m : Int) := by rw [IntKind.wrap_i64]; omega
            go_wp2
            go_roundw
            case rel => exact ⟨m, by omega, by go_num, HAC, hse⟩
            case measure => simp [intOf]
    · have hke : k = n := by omega
      subst hke
      have htl : L.take k = L := by rw [← HN.out, List.take_length]
      rw [htl] at hown
      obtain ⟨S, hSE⟩ : ∃ S, srt (L.map (ent lang)) = S := ⟨_, rfl⟩
      have hSl : S.length = k := by rw [← hSE, srt_len, List.length_map]; exact HN.out
      rw [hSE] at hown
      obtain ⟨g8, cap8, rfl, hB8, hg8, hc8⟩ := own_slice hown hnn
      have hSL : SL (.slice (some ⟨g8, 0, none⟩) k cap8) (S.map Prod.snd) wr := by
        refine ⟨some ⟨g8, 0, none⟩, cap8, ?_, ?_, fun i x hi => ⟨g8, 0, rfl, hg8, ?_⟩⟩
        · rw [List.length_map, hSl]
        · rw [List.length_map, hSl]; exact hc8
        · have := hown.cells (g := g8) rfl i (.string x) (by
            rw [List.getElem?_map] at hi ⊢
            obtain ⟨y, hy, rfl⟩ := Option.map_eq_some_iff.1 hi
            rw [hy]; rfl)
          have hadd : (⟨g8, 0, none⟩ : Addr).add i = ⟨g8, 0 + i, none⟩ := by rw [Nat.zero_add]; unfold Addr.add; split <;> simp_all
          rwa [hadd] at this
      have HF := Lib.hid hbw
      have HSL := Lib.hid hSL
      have HSE := Lib.hid hSE
      clear hSL hown hbw hSE hSl
      go_wp2
      go_ret
      rw [HSE.out]
      exact ⟨_, rfl, HSL.out, HF.out⟩
end Go.Proofs.YtjfeckccmfbkhaaDoor
