/- The statement CollatePermutes of layer 2 over this translation: it returns true, wherever the program's table and the list lie. -/
import Derived.Test.YtjfeckccmfbkhaaDoorSorts
import Derived.Deep.QuietTactic
import Derived.Deep.CutBlock
import Derived.Deep.DeepCutAuto
namespace Go.Proofs.YtjfeckccmfbkhaaDoor
open Go.RowKit Go.Sort

/-- What a list of entries is: the entries of these texts. -/
theorem entries_of (lang : ByteArray) (L : List (List Nat)) : ∀ S : List Ent, (∀ y ∈ S, ∃ c ∈ L, y = ent lang c) → ∃ L2 : List (List Nat), S = L2.map (ent lang) ∧ ∀ c ∈ L2, c ∈ L
  | [], _ => ⟨[], rfl, fun c hc => by cases hc⟩
  | y :: S, h => by
    obtain ⟨c, hc, rfl⟩ := h y (by simp)
    obtain ⟨L2, rfl, h2⟩ := entries_of lang L S (fun y hy => h y (by simp [hy]))
    refine ⟨c :: L2, rfl, fun d hd => ?_⟩
    rcases List.mem_cons.1 hd with rfl | hd
    · exact hc
    · exact h2 d hd
theorem srt_entries (lang : ByteArray) (L : List (List Nat)) : ∃ L2 : List (List Nat), srt (L.map (ent lang)) = L2.map (ent lang) ∧ ∀ c ∈ L2, c ∈ L := by
  refine entries_of lang L _ fun y hy => ?_
  obtain ⟨c, hc, e⟩ := List.mem_map.1 ((srt_perm _).mem_iff.1 hy)
  exact ⟨c, hc, e.symm⟩
theorem ent_texts (lang : ByteArray) (L : List (List Nat)) : (L.map (ent lang)).map Prod.snd = L.map T := by
  rw [List.map_map]; rfl

theorem Sees_drewN (w : World) (n : Nat) : Sees w (w.drewN n) := ⟨rfl, rfl, rfl, Nat.le_refl _, fun _ _ => rfl⟩

set_option maxHeartbeats 16000000 in
set_option maxRecDepth 100000 in
theorem permutes_any (lang : ByteArray) (v : Value) (l : List ByteArray) (w : World) (hv : SL v l w) (hE : Acc w) :
    Calls Tryd.prog 8 #[.string lang, v] w fun e w' => e = .returned (.bool true) ∧ Below w.heap.size w w' := by
  have HE := Lib.hid hE
  have CA := Lib.hid (fun W hE => alive_any W hE)
  clear hE
  cases hb : smallB l
  · have cS := Lib.hid (small_any v l w hv false hb)
    clear hb hv
    go_enter Tryd.func8, Tryd.ntmps8
    go_wp2_with fail
    refine cS.out.mono ?_
    rintro e w1 ⟨rfl, b1⟩
    go_wp2_with fail
    refine (CA.out _ (HE.out.after b1)).mono ?_
    rintro e w2 ⟨rfl, b2'⟩
    have b2 := b1.trans (b2'.mono b1.size)
    clear b2' b1
    go_wp2
    go_ret
    exact ⟨rfl, b2⟩
  · have cS := Lib.hid (small_any v l w hv true hb)
    unfold smallB at hb
    rw [Bool.and_eq_true] at hb
    obtain ⟨hn, ha⟩ := hb
    have hn40 : l.length ≤ 40 := by simpa using hn
    obtain ⟨L, rfl, hL⟩ := texts_small l ha
    rw [List.length_map] at hn40
    obtain ⟨L2, hS2, hL2⟩ := srt_entries lang L
    have hlen : L2.length = L.length := by have := congrArg List.length hS2; rw [srt_len, List.length_map, List.length_map] at this; omega
    have hperm : (L2.map T).Perm (L.map T) := by
      have := (srt_perm (L.map (ent lang))).map Prod.snd
      rwa [hS2, ent_texts, ent_texts] at this
    have hsort := srt_sorted (L.map (ent lang))
    rw [hS2] at hsort
    have hagain : srt (L2.map (ent lang)) = L2.map (ent lang) := by rw [← hS2, srt_srt]
    have c1 := Lib.hid (fun u W hv hE => csort_any lang L (fun x hx => ⟨(hL x hx).1, Nat.le_trans (hL x hx).2 (by omega)⟩) (by omega) u W hv hE)
    rw [hS2, ent_texts] at c1
    have c2 := Lib.hid (fun u W hv hE => csort_any lang L2 (fun x hx => ⟨(hL x (hL2 x hx)).1, Nat.le_trans (hL x (hL2 x hx)).2 (by omega)⟩) (by omega) u W hv hE)
    rw [hagain, ent_texts] at c2
    have cC : ∀ (i : Nat) (h : i + 1 < L2.length), ∃ r : Int, r ≤ 0 ∧ ∀ W, Acc W → Calls Tryd.prog 19 #[.string lang, .string (T L2[i]), .string (T L2[i + 1])] W fun e w' => e = .returned (.int .i64 r) ∧ Below W.heap.size W w' := by
      intro i h
      have h1 := hL _ (hL2 _ (List.getElem_mem (show i < L2.length by omega)))
      have h2 := hL _ (hL2 _ (List.getElem_mem h))
      have h3 := List.pairwise_iff_getElem.1 hsort i (i + 1) (by rw [List.length_map]; omega) (by rw [List.length_map]; exact h) (by omega)
      rw [List.getElem_map, List.getElem_map] at h3
      exact ⟨_, h3, fun W hE => ccompare_any lang L2[i] L2[i + 1] h1.1 h2.1 (by omega) (by omega) _ _ rfl rfl _ rfl W hE⟩
    have HC := Lib.hid cC
    have HPerm := Lib.hid hperm
    have HV := Lib.hid hv
    clear hn ha hL hL2 hv hS2 hsort hagain cC hperm
    obtain ⟨n, hN⟩ : ∃ n, L.length = n := ⟨_, rfl⟩
    rw [hN] at hn40 hlen
    have HN := Lib.hid hN
    have HN2 := Lib.hid hlen
    clear hN hlen
    obtain ⟨a, cap, rfl, hcap, hcell⟩ := HV.out
    rw [List.length_map] at hcap cS HV ⊢
    rw [HN.out] at hcap cS HV ⊢
    clear hcell
    go_enter Tryd.func8, Tryd.ntmps8
    go_wp2_with fail
    refine cS.out.mono ?_
    rintro e w1 ⟨rfl, b1⟩
    have HV1 := Lib.hid (HV.out.after b1)
    have HE1 := Lib.hid (HE.out.after b1)
    clear HV
    go_wp2_with fail
    refine (c1.out _ _ HV1.out HE1.out).mono ?_
    rintro e w2 ⟨v1, rfl, hS1, b2'⟩
    obtain ⟨a1, cap1, hv1, hcap1, hcell1⟩ := hS1
    rw [List.length_map, HN2.out] at hv1 hcap1
    subst hv1
    have hSL1 : SL (.slice a1 n cap1) (L2.map T) w2 := ⟨a1, cap1, by rw [List.length_map, HN2.out], by rw [List.length_map, HN2.out]; exact hcap1, hcell1⟩
    have HV2 := Lib.hid (HV1.out.after b2')
    have HE2 := Lib.hid (HE1.out.after b2')
    have b2 := b1.trans (b2'.mono b1.size)
    have HS1 := Lib.hid hSL1
    clear b2' b1 hSL1 HV1 HE1 hcell1
    go_wp2_with fail
    refine (c2.out _ _ HS1.out HE2.out).mono ?_
    rintro e w3 ⟨v3, rfl, hS3, b3'⟩
    have HS3 := Lib.hid hS3
    have HS1' := Lib.hid (HS1.out.after b3')
    have HV3 := Lib.hid (HV2.out.after b3')
    have b3 := b2.trans (b3'.mono b2.size)
    clear b3' b2 hS3 HS1 HV2 HE2
    go_wp2_with fail
    refine (same_any v3 _ (L2.map T) (by rw [List.length_map, HN2.out]; omega) _ HS3.out HS1'.out).mono ?_
    rintro e w4 ⟨rfl, b4'⟩
    have HS4 := Lib.hid (HS1'.out.after b4')
    have HV4 := Lib.hid (HV3.out.after b4')
    have b4 := b3.trans (b4'.mono b3.size)
    have HE4 := Lib.hid (HE.out.after b4)
    clear b4' b3 HS3 HS1' HV3
    go_wp2
    go_loopw [29] (fun i wr => ∃ k : Nat, k ≤ n ∧ i = .int .i64 k ∧ Sees w4 wr) (fun i _ => n - (intOf i).toNat)
    case atStart => exact ⟨0, Nat.zero_le _, rfl, Sees.self _⟩
    case round =>
      obtain ⟨k, hk, rfl, hse⟩ := hrel
      by_cases hlt : k < n
      · have hkL : k < L2.length := by have := HN2.out; omega
        obtain ⟨a', cap', hv', _, hx1⟩ := HS4.out
        simp only [Value.slice.injEq] at hv'
        obtain ⟨rfl, hnn, rfl⟩ := hv'
        clear hnn
        obtain ⟨g, o, rfl, hg, hc0⟩ := hx1 k (T L2[k]) (by rw [List.getElem?_map, List.getElem?_eq_getElem hkL]; rfl)
        have hgr : g < wr.heap.size := Nat.lt_of_lt_of_le hg hse.size
        have hc : wr.cell? ⟨g, o + k, none⟩ = some (.string (T L2[k])) := (Below.cell hse (p := ⟨g, o + k, none⟩) hg).trans hc0
        have hSr : SL (.slice (some ⟨g, o, none⟩) n cap1) (L2.map T) wr := HS4.out.after hse
        have hVr : SL (.slice a n cap) (L.map T) wr := HV4.out.after hse
        have cN : ∀ W u, (u = .slice (some ⟨g, o, none⟩) n cap1 ∨ u = .slice a n cap) → Sees wr W → Calls Tryd.prog 24 #[u, .string (T L2[k])] W fun e w' => e = .returned (.int .i64 (cnt (L.map T) (T L2[k]) : Nat)) ∧ w' = W := by
          intro W u hu hs
          rcases hu with rfl | rfl
          · have := count_any _ (L2.map T) (T L2[k]) (by rw [List.length_map]; have := HN2.out; omega) W (hSr.after hs)
            rwa [cnt_perm HPerm.out] at this
          · exact count_any _ (L.map T) (T L2[k]) (by rw [List.length_map]; have := HN.out; omega) W (hVr.after hs)
        have CN := Lib.hid cN
        have i1 : (0 : Int) ≤ (k : Int) := by omega
        have i2 : (k : Int) < (n : Int) := by omega
        have HX1 := Lib.hid hx1
        clear cN hSr hVr hc0 hx1
        go_upto_region 9 with fail
        go_cut [62] from 32 to 62 (fun s62 wx => s62 = .bool false ∧ Sees wr wx)
        case first =>
          by_cases hk0 : k = 0
          · subst hk0
            generalize T L2[0] = x at CN hc
            generalize ((cnt (L.map T) x : Nat) : Int) = R at CN
            have hs0 := Sees.self wr
            rw [Nat.add_zero] at hc
            have d0 : decide ((0 : Int) < ((0 : Nat) : Int)) = false := rfl
            have d1 : ((0 : Nat) : Int) = 0 := rfl
            go_quiet (first | (go_at_call 24; exact Calls.quiet_of_same (CN.out _ _ (by first | exact .inl rfl | exact .inr rfl) (Sees_drewN _ _))))
            all_goals (go_wp2_with fail; go_meet; exact ⟨rfl, Sees_drewN _ _⟩)
          · obtain ⟨m, rfl⟩ : ∃ m, k = m + 1 := ⟨k - 1, by omega⟩
            have hm : m < L2.length := by omega
            obtain ⟨g', o', hgo, hg', hcm0⟩ := HX1.out m (T L2[m]) (by rw [List.getElem?_map, List.getElem?_eq_getElem hm]; rfl)
            simp only [Option.some.injEq, Addr.mk.injEq, and_true] at hgo
            obtain ⟨rfl, rfl⟩ := hgo
            have hcm : wr.cell? ⟨g, o + m, none⟩ = some (.string (T L2[m])) := (Below.cell hse (p := ⟨g, o + m, none⟩) hg').trans hcm0
            have hAr : Acc wr := HE4.out.after hse
            obtain ⟨r, hr, hCmp⟩ := HC.out m hkL
            generalize T L2[m + 1] = x at CN hc hCmp
            generalize T L2[m] = y at hcm hCmp
            generalize ((cnt (L.map T) x : Nat) : Int) = R at CN
            have cS : ∀ W, Sees wr W → Calls Tryd.prog 19 #[.string lang, .string y, .string x] W fun e w' => e = .returned (.int .i64 r) ∧ w'.cell? ⟨g, o + m, none⟩ = some (.string y) ∧ w'.cell? ⟨g, o + (m + 1), none⟩ = some (.string x) ∧ Sees wr w' := by
              intro W hs
              refine (hCmp W (hAr.after hs)).mono fun e w' ⟨he, hb⟩ => ⟨he, ?_, ?_, hs.after hb⟩
              · exact (Below.cell (hs.after hb) (p := ⟨g, o + m, none⟩) hgr).trans hcm
              · exact (Below.cell (hs.after hb) (p := ⟨g, o + (m + 1), none⟩) hgr).trans hc
            have CS := Lib.hid cS
            have hs0 := Sees.self wr
            have i3 : (0 : Int) ≤ (m : Int) := by omega
            have i4 : (m : Int) < (n : Int) := by omega
            have i5 : (0 : Int) ≤ (m : Int) + 1 := by omega
            have i6 : (m : Int) + 1 < (n : Int) := by omega
            have d0 : decide ((0 : Int) < ((m + 1 : Nat) : Int)) = true := by simp
            have d1 : decide ((0 : Int) < (m : Int) + 1) = true := by simp
            have d2 : decide ((0 : Int) < r) = false := by simp; omega
            have e2 : IntKind.i64.wrap (((m + 1 : Nat) : Int) - 1) = (m : Int) := by rw [IntKind.wrap_i64]; omega
            have e3 : IntKind.i64.wrap ((m : Int) + 1 - 1) = (m : Int) := by rw [IntKind.wrap_i64]; omega
            have e4 : IntKind.i64.wrap (m : Int) = (m : Int) := by rw [IntKind.wrap_i64]; omega
            have i7 : (0 : Int) ≤ ((m + 1 : Nat) : Int) := by omega
            have i8 : ((m + 1 : Nat) : Int) < (n : Int) := by omega
            clear cS hCmp hAr hcm0
            go_region_held3 (fun w' => w'.cell? ⟨g, o + m, none⟩ = some (.string y) ∧ w'.cell? ⟨g, o + (m + 1), none⟩ = some (.string x) ∧ Sees wr w') (simp [*, Sees_drew])
              (first
                | (go_at_call 24; refine (CN.out _ _ ?_ ?_).mono ?_; (first | exact .inl rfl | exact .inr rfl); (first | assumption | (rw [Sees_drew]; assumption)); rintro e w' ⟨rfl, rfl⟩)
                | (go_at_call 19; refine (CS.out _ ?_).mono ?_; (first | assumption | (rw [Sees_drew]; assumption)); rintro e w' ⟨rfl, k1, k2, hse3⟩))
            all_goals (go_wp2_with fail; go_meet; refine ⟨rfl, ?_⟩; first | assumption | (rw [Sees_drew]; assumption))
        case rest =>
          obtain ⟨rfl, hse2⟩ := hcut
          go_wp2
          go_roundw
          case rel => exact ⟨k + 1, by omega, by go_num, hse.after hse2⟩
          case measure => simp [intOf]; omega
      · have hke : k = n := by omega
        have hb := b4.trans (hse.mono b4.size)
        go_wp2_with fail
        refine (CA.out _ (HE.out.after hb)).mono ?_
        rintro e w5 ⟨rfl, b5'⟩
        have b5 := hb.trans (b5'.mono hb.size)
        clear b5' hb
        go_wp2
        go_ret
        exact ⟨rfl, b5⟩
end Go.Proofs.YtjfeckccmfbkhaaDoor
