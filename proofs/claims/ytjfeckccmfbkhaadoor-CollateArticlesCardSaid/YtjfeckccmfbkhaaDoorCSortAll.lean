/- The program's Sort, over lists of at most a thousand texts. -/
import Derived.Test.YtjfeckccmfbkhaaDoorCSort
namespace Go.Proofs.YtjfeckccmfbkhaaDoor
open Go.RowKit Go.Sort

/-- A slice of these strings. -/
def SL (v : Value) (l : List ByteArray) (w : World) : Prop :=
  ∃ a cap, v = .slice a l.length cap ∧ l.length ≤ cap ∧ ∀ (i : Nat) (x : ByteArray), l[i]? = some x → ∃ g o, a = some ⟨g, o, none⟩ ∧ g < w.heap.size ∧ w.cell? ⟨g, o + i, none⟩ = some (.string x)
theorem SL.after {v : Value} {l : List ByteArray} {w w' : World} (h : SL v l w) (hb : Below w.heap.size w w') : SL v l w' := by
  obtain ⟨a, cap, rfl, hc, hx⟩ := h
  refine ⟨a, cap, rfl, hc, fun i x hi => ?_⟩
  obtain ⟨g, o, rfl, hg, hcell⟩ := hx i x hi
  exact ⟨g, o, rfl, Nat.lt_of_lt_of_le hg hb.size, (hb.cell (p := ⟨g, o + i, none⟩) hg).trans hcell⟩
theorem own_after {w w' : World} {B e size n : Nat} {v : Value} {xs : List Value} (h : w.ownsRow B e size v n xs) (hb : Below w.heap.size w w') : w'.ownsRow B e size v n xs := by
  refine ⟨h.1, ?_⟩
  rcases h.2 with hn | ⟨g, cap, cur, hv, hB', hg, rest⟩
  · exact .inl hn
  · have hlt : g < w.heap.size := (Array.getElem?_eq_some_iff.1 hg).1
    exact .inr ⟨g, cap, cur, hv, hB', (hb.block g hlt).trans hg, rest⟩
theorem own_slice {w : World} {B e size n : Nat} {v : Value} {xs : List Value} (h : w.ownsRow B e size v n xs) (hne : v ≠ .slice none 0 0) : ∃ g cap, v = .slice (some ⟨g, 0, none⟩) n cap ∧ B ≤ g ∧ g < w.heap.size ∧ n ≤ cap := by
  rcases h.2 with ⟨h0, _⟩ | ⟨g, cap, cur, hv, hB, hg, hc, _⟩
  · exact absurd h0 hne
  · exact ⟨g, cap, hv, hB, (Array.getElem?_eq_some_iff.1 hg).1, hc⟩
theorem infoE : (Tryd.prog.info? 47).map (fun i => (i.zero, i.size, i.bytes)) = some (some (.agg #[.string ⟨#[]⟩, .string ⟨#[]⟩]), 2, 32) := by kernel_rfl
theorem cells_two (w : World) (x y : Value) (t : TypeId) : ∀ j u, [x, y][j]? = some u → (w.alloc (.cells #[x, y] t)).cell? ((⟨w.heap.size, 0, none⟩ : Addr).add j) = some u := by
  intro j u hj
  match j, hj with
  | 0, hj => simp at hj; subst hj; simp [Addr.add]
  | 1, hj => simp at hj; subst hj; simp [Addr.add]
  | (j + 2), hj => simp at hj
theorem cells_one (w : World) (x : Value) (t : TypeId) : ∀ j u, [x][j]? = some u → (w.alloc (.cells #[x] t)).cell? ((⟨w.heap.size, 0, none⟩ : Addr).add j) = some u := by
  intro j u hj
  match j, hj with
  | 0, hj => simp at hj; subst hj; simp [Addr.add]
  | (j + 1), hj => simp at hj
def textV (x : Ent) : Value := .string x.2

set_option maxHeartbeats 8000000 in
theorem csort_any (lang : ByteArray) (L : List (List Nat)) (hL : ∀ x ∈ L, OKs x ∧ x.length ≤ 100000) (hz : L.length ≤ 1000) (v : Value) (w : World) (hv : SL v (L.map T) w) (hE : Acc w) :
    Calls Tryd.prog 22 #[.string lang, v] w fun e w' => ∃ v', e = .returned v' ∧ SL v' ((srt (L.map (ent lang))).map Prod.snd) w' ∧ Below w.heap.size w w' := by
  obtain ⟨a, cap, rfl, hcap, hcell⟩ := hv
  rw [List.length_map] at hcap ⊢
  have HCell := Lib.hid hcell
  have HL := Lib.hid hL
  have HE := Lib.hid hE
  clear hcell hL hE
  obtain ⟨n, hN⟩ : ∃ n, L.length = n := ⟨_, rfl⟩
  rw [hN] at hcap hz ⊢
  have HN := Lib.hid hN
  clear hN
  obtain ⟨i0, hi, hz0, hz1, hz2⟩ := info_parts infoE
  obtain ⟨i9, hi9, hz90, hz91, hz92⟩ := info_parts infoStr
  obtain ⟨W0, hmk, hown0, hg0⟩ := run_make_own (P := Tryd.prog) w w.heap.size 50 47 i0 _ 2 Tryd.underlying50 hi hz0 hz1 .i64 .i64 n (by rw [hz2]; omega) (by unfold maxLen; omega) (Nat.le_refl _)
  have hb0 : Below w.heap.size w W0 := (Below.refl _ w).grown hg0 (Nat.le_refl _) (fun k hk => by cases hk)
  clear hg0
  go_enter Tryd.func22, Tryd.ntmps22
  go_wp2
  go_loopw [5, 16] (fun v5 i wr => ∃ k : Nat, k ≤ n ∧ i = .int .i64 k ∧ wr.ownsRow w.heap.size 47 2 v5 k (cellsE ((L.take k).map (ent lang))) ∧ v5 ≠ .slice none 0 0 ∧ Below w.heap.size w wr) (fun _ i _ => n - (intOf i).toNat)
  case atStart => exact ⟨0, Nat.zero_le _, rfl, hown0, (fun h => by cases h), hb0⟩
  case round =>
    obtain ⟨k, hk, rfl, hown, hnn, hbw⟩ := hrel
    by_cases hlt : k < n
    · have hkL : k < L.length := by have := HN.out; omega
      obtain ⟨g, o, rfl, hg, hc0⟩ := HCell.out k (T L[k]) (by rw [List.getElem?_map, List.getElem?_eq_getElem hkL]; rfl)
      have hc : wr.cell? ⟨g, o + k, none⟩ = some (.string (T L[k])) := (hbw.cell (p := ⟨g, o + k, none⟩) hg).trans hc0
      have hok := HL.out L[k] (List.getElem_mem hkL)
      have cE := Lib.hid (fun W hE => entry_any lang L[k] hok.1 (T L[k]) (T (keyL lang L[k])) rfl hok.2 rfl W hE)
      have HS : RowKit.Hid (cellsE ((L.take (k + 1)).map (ent lang)) = cellsE ((L.take k).map (ent lang)) ++ [Value.string (T (keyL lang L[k])), Value.string (T L[k])]) := by
        unfold RowKit.Hid
        rw [List.take_succ_eq_append_getElem hkL, List.map_append, List.map_cons, List.map_nil, cellsE_snoc]
        rfl
      have HA := Lib.hid (HE.out.after hbw)
      clear hc0 hok
      generalize T (keyL lang L[k]) = key at cE HS
      generalize T L[k] = s at cE HS hc
      have i1 : (0 : Int) ≤ (k : Int) := by omega
      have i2 : (k : Int) < (n : Int) := by omega
      have hsz := hbw.size
      have HOwn := Lib.hid hown
      have Hbw := Lib.hid hbw
      clear hown hbw hmk hb0 hown0
      go_wp2_with fail
      refine (cE.out _ HA.out).mono ?_
      rintro e W1 ⟨rfl, b1⟩
      have hown2 := own_after HOwn.out b1
      have hb2 := Hbw.out.trans (b1.mono hsz)
      have hsz1 := b1.size
      clear b1
      go_wp2_with (at_builtin; refine wpList_append_own _ rfl _ _ 50 rfl w.heap.size 47 i0 (.agg #[.string ⟨#[]⟩, .string ⟨#[]⟩]) 2 32 Tryd.underlying50 hi hz0 hz1 hz2 rfl (by decide) _ _ _ rfl (hown2.alloc _) ⟨W1.heap.size, 0, none⟩ 1 1 [.string key, .string s] rfl rfl (cells_two _ _ _ _) (by intro u hu; simp at hu; rcases hu with rfl | rfl <;> rfl) (by unfold maxLen; omega) (by omega) (by simp; omega) ?_; intro v3 w3 hown3 hgrow3 hnil3)
      go_roundw
      case rel =>
        have hX := hown2.alloc (.cells #[.string key, .string s] 47)
        refine ⟨k + 1, by omega, by go_num, ?_, (fun h => by have := (hnil3.1 h).2; omega), (hb2.alloc (by omega) _).grown hgrow3 (by simp; omega) (fun j hj => (hX.lt j hj).1)⟩
        rw [HS.out]
        exact hown3
      case measure => simp [intOf]; omega
    · have hke : k = n := by omega
      subst hke
      have htl : L.take k = L := by rw [← HN.out, List.take_length]
      rw [htl] at hown
      obtain ⟨blk, cap5, rfl, hB, hblt, _⟩ := own_slice hown hnn
      have HSort := Lib.hid (sortE_any w.heap.size blk k cap5 (L.map (ent lang)) (by rw [List.length_map]; exact HN.out) (by omega) wr hown)
      have hsz := hbw.size
      have hSn : (srt (L.map (ent lang))).length = k := by rw [srt_len, List.length_map]; exact HN.out
      obtain ⟨S, hSE⟩ : ∃ S, srt (L.map (ent lang)) = S := ⟨_, rfl⟩
      rw [hSE] at HSort hSn
      have HSE := Lib.hid hSE
      clear hSE
      have HSn := Lib.hid hSn
      clear hSn hown hnn hmk hb0 hown0 htl hlt hk
      obtain ⟨wo, rfl⟩ : ∃ wo : World, wo = wr := ⟨_, rfl⟩
      go_wp2_with fail
      refine HSort.out.mono ?_
      rintro e W2 ⟨rfl, hcS, hblk2, b2⟩
      have hb2 : Below w.heap.size w W2 := hbw.trans (b2.mono hB)
      have hsz2 := hb2.size
      have HCS := Lib.hid hcS
      clear hcS b2 hbw
      obtain ⟨W3, hmk3, hown3, hg3⟩ := run_make_own (P := Tryd.prog) W2 W2.heap.size 23 9 i9 _ 1 Tryd.underlying23 hi9 hz90 hz91 .i64 .i64 k (by rw [hz92]; omega) (by unfold maxLen; omega) (Nat.le_refl _)
      have hb3 : Below W2.heap.size W2 W3 := (Below.refl _ W2).grown hg3 (Nat.le_refl _) (fun j hj => by cases hj)
      clear hg3
      go_wp2
      go_loopw [8, 34] (fun v8 i wx => ∃ j : Nat, j ≤ k ∧ i = .int .i64 j ∧ wx.ownsRow W2.heap.size 9 1 v8 j ((S.take j).map textV) ∧ v8 ≠ .slice none 0 0 ∧ Below W2.heap.size W2 wx) (fun _ i _ => k - (intOf i).toNat)
      case atStart => exact ⟨0, Nat.zero_le _, rfl, hown3, (fun h => by cases h), hb3⟩
      case round =>
        obtain ⟨j, hj, rfl, hown, hnn, hbw⟩ := hrel
        clear hmk3 hown3 hb3
        have hsz3 := hbw.size
        by_cases hlt : j < k
        · have hjS : j < S.length := by have := HSn.out; omega
          obtain ⟨c0', c1'⟩ := HCS.out j S[j] (List.getElem?_eq_getElem hjS)
          have c0 : wr.cell? ⟨blk, j * 2, none⟩ = some (.string S[j].1) := (hbw.cell (p := ⟨blk, j * 2, none⟩) hblk2).trans c0'
          have c1 : wr.cell? ⟨blk, j * 2 + 1, none⟩ = some (.string S[j].2) := (hbw.cell (p := ⟨blk, j * 2 + 1, none⟩) hblk2).trans c1'
          have HS : RowKit.Hid ((S.take (j + 1)).map textV = (S.take j).map textV ++ [Value.string S[j].2]) := by
            unfold RowKit.Hid
            rw [List.take_succ_eq_append_getElem hjS, List.map_append]
            rfl
          clear c0' c1'
          generalize S[j].1 = key at c0
          generalize S[j].2 = s at c1 HS
          have i1 : (0 : Int) ≤ (j : Int) := by omega
          have i2 : (j : Int) < (k : Int) := by omega
          have HOwn := Lib.hid (hown.alloc (.cells #[.string key, .string s] 47))
          have Hbw := Lib.hid (hbw.alloc hsz3 (.cells #[.string key, .string s] 47))
          clear hown hbw
          go_wp2_with (at_builtin; refine wpList_append_own _ rfl _ _ 23 rfl W2.heap.size 9 i9 (.string ⟨#[]⟩) 1 16 Tryd.underlying23 hi9 hz90 hz91 hz92 rfl (by decide) _ _ _ rfl (HOwn.out.alloc _) ⟨wr.heap.size + 1, 0, none⟩ 1 1 [.string s] rfl rfl ?c1 ?c2 ?c3 ?c4 ?c5 ?_)
          case c1 =>
            have h1 := cells_one (wr.alloc (.cells #[.string key, .string s] 47)) (.string s) 9
            have e1 : (wr.alloc (.cells #[.string key, .string s] 47)).heap.size = wr.heap.size + 1 := by simp
            rw [e1] at h1
            exact h1
          case c2 => intro u hu; simp at hu; subst hu; rfl
          case c3 => unfold maxLen; omega
          case c4 => omega
          case c5 => simp; omega
          intro v3 w3 hown3 hgrow3 hnil3
          have HNN := Lib.hid (show v3 ≠ .slice none 0 0 from hnil3)
          clear hnil3
          go_wp2
          go_roundw
          case rel =>
            have hX := HOwn.out.alloc (.cells #[.string s] 9)
            refine ⟨j + 1, by omega, by go_num, ?_, HNN.out, (Hbw.out.alloc (by simp; omega) _).grown hgrow3 (by simp; omega) (fun m hm => (hX.lt m hm).1)⟩
            rw [HS.out, List.map_take]
            exact hown3
          case measure => simp [intOf]; omega
        · have hje : j = k := by omega
          subst hje
          have htl : S.take j = S := by rw [← HSn.out, List.take_length]
          rw [htl] at hown
          obtain ⟨g8, cap8, rfl, hB8, hg8, hc8⟩ := own_slice hown hnn
          have hfin : Below w.heap.size w wr := hb2.trans (hbw.mono hsz2)
          have hSL : SL (.slice (some ⟨g8, 0, none⟩) j cap8) (S.map Prod.snd) wr := by
            refine ⟨some ⟨g8, 0, none⟩, cap8, ?_, ?_, fun i x hi => ⟨g8, 0, rfl, hg8, ?_⟩⟩
            · rw [List.length_map, HSn.out]
            · rw [List.length_map, HSn.out]; exact hc8
            · have := hown.cells (g := g8) rfl i (.string x) (by
                rw [List.getElem?_map] at hi ⊢
                obtain ⟨y, hy, rfl⟩ := Option.map_eq_some_iff.1 hi
                rw [hy]; rfl)
              have hadd : (⟨g8, 0, none⟩ : Addr).add i = ⟨g8, 0 + i, none⟩ := by rw [Nat.zero_add]; unfold Addr.add; split <;> simp_all
              rwa [hadd] at this
          have HF := Lib.hid hfin
          have HSL := Lib.hid hSL
          clear hfin hSL hown hbw
          go_wp2
          go_ret
          rw [HSE.out]
          exact ⟨_, rfl, HSL.out, HF.out⟩
end Go.Proofs.YtjfeckccmfbkhaaDoor
