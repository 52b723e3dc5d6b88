/- Merged: RO15, RegImpE, Plain15F. -/
import Derived.Test.YtfjfpefpdlecbaaGreatDoorQ43
import Derived.Test.YtfjfpefpdlecbaaGreatDoorQ34
import Derived.Test.YtfjfpefpdlecbaaGreatDoorQ37
import Derived.Test.YtfjfpefpdlecbaaGreatDoorQ07
import Derived.Test.YtfjfpefpdlecbaaGreatDoorQ35
namespace Go.Proofs.YtfjfpefpdlecbaaGreatDoor

section
open Go.RowKit Go.PlainAid
def IN (N : Nat) (v : Value) (L : List Int) (w : World) : Prop := rowE N 3 1 v L.length (L.map intV) w
theorem IN.after {N : Nat} {v : Value} {L : List Int} {w w' : World} (h : IN N v L w) (hb : Below w.heap.size w w') : IN N v L w' := rowE.after h hb
theorem rowE_base {N N' : Nat} {e : TypeId} {sz : Nat} {v : Value} {n : Nat} {cs : List Value} {w : World} (h : rowE N' e sz v n cs w) (hN : N ≤ N') : rowE N e sz v n cs w := by
  refine ⟨⟨h.1.1, ?_⟩, h.2⟩
  rcases h.1.2 with h0 | ⟨g, cap, cur, hv, hb, rest⟩
  · exact .inl h0
  · exact .inr ⟨g, cap, cur, hv, Nat.le_trans hN hb, rest⟩
theorem rowE_opened {N : Nat} {e : TypeId} {sz : Nat} {v : Value} {n : Nat} {cs : List Value} {w : World} (h : rowE N e sz v n cs w) : ∃ g cap, v = .slice (some ⟨g, 0, none⟩) n cap ∧ n ≤ cap ∧ cap ≤ maxLen ∧ N ≤ g ∧ g < w.heap.size ∧ ∀ W, Below w.heap.size w W → ∀ j u, cs[j]? = some u → W.cell? ⟨g, j, none⟩ = some u := by
  rcases h.1.2 with ⟨h0, _⟩ | ⟨g, cap, cur, rfl, hb, hg, hc, hm, hs, ht⟩
  · exact absurd h0 h.2
  · have hlt := (Array.getElem?_eq_some_iff.1 hg).1
    refine ⟨g, cap, rfl, hc, hm, hb, hlt, fun W hW j u hu => ?_⟩
    have t0 := h.1.cells (g := g) rfl j u hu
    have hadd : (⟨g, 0, none⟩ : Addr).add j = ⟨g, j, none⟩ := by unfold Addr.add; split <;> simp_all
    rw [hadd] at t0
    exact (hW.cell (p := ⟨g, j, none⟩) hlt).trans t0
theorem IN.opened {N : Nat} {v : Value} {L : List Int} {w : World} (h : IN N v L w) : ∃ g cap, v = .slice (some ⟨g, 0, none⟩) L.length cap ∧ L.length ≤ cap ∧ cap ≤ maxLen ∧ N ≤ g ∧ g < w.heap.size ∧ ∀ W, Below w.heap.size w W → ∀ j, j < L.length → W.cell? ⟨g, j, none⟩ = some (.int .i64 (L.getD j 0)) := by
  obtain ⟨g, cap, h1, h2, h3, h4, h5, h6⟩ := rowE_opened h
  refine ⟨g, cap, h1, h2, h3, h4, h5, fun W hW j hj => h6 W hW j _ ?_⟩
  rw [List.getElem?_map, List.getD_eq_getElem?_getD, List.getElem?_eq_getElem hj]
  rfl
theorem IN.il {N : Nat} {v : Value} {L : List Int} {w : World} (h : IN N v L w) : IL v L w := IR.il (B := N) h.1
theorem IN.empty (w : World) : IN w.heap.size (.slice (some ⟨w.heap.size, 0, none⟩) 0 0) [] (w.alloc (.cells #[] 3)) :=
  ⟨⟨by simp, .inr ⟨w.heap.size, 0, #[], rfl, Nat.le_refl _, heap_alloc_new w _, Nat.le_refl _, Nat.zero_le _, by simp, by simp⟩⟩, fun e => by cases e⟩
theorem runI15 {N : Nat} {v : Value} {n : Nat} {cs : List Value} {W : World} (h : rowE N 3 1 v n cs W) (hN : N ≤ W.heap.size) (ty : TypeId) (ad : Addr) (m c : Nat) (news : List Value) (hl : news.length = m) (hnews : ∀ j u, news[j]? = some u → W.cell? (ad.add j) = some u) (h1 : ∀ u ∈ news, u.oneCell' = true) (hz : n + m ≤ 100000) :
    ∃ v' w', (Builtin.append_ #[46, 46] ty #[v, .slice (some ad) m c]).run Tryz.prog W = .ok v' w' ∧ w'.ownsRow N 3 1 v' (n + m) (cs ++ news) ∧ v' ≠ nilS ∧ W.grownBy w' v.ownBlock ∧ (v'.ownBlock = v.ownBlock ∨ v'.ownBlock = some W.heap.size) := by
  obtain ⟨i0, hi, hz0, hz1, hz2⟩ := info_int13
  obtain ⟨v', w', hr, hown, hg, hnil, hat⟩ := run_append_own_at (P := Tryz.prog) W N 46 ty 3 i0 (.int .i64 0) 1 8 Tryz.underlying46 hi hz0 hz1 hz2 rfl (by decide) v n cs h.1 ad m c news (by rw [hl, Nat.mul_one]) hnews h1 (by unfold maxLen; omega) (by omega) hN
  exact ⟨v', w', hr, hown, fun e => h.2 (hnil.1 e).1, hg, hat⟩
theorem runP15 {N : Nat} {v : Value} {n : Nat} {cs : List Value} {W : World} (h : rowE N 59 2 v n cs W) (hN : N ≤ W.heap.size) (ty : TypeId) (ad : Addr) (m c : Nat) (news : List Value) (hl : news.length = m * 2) (hnews : ∀ j u, news[j]? = some u → W.cell? (ad.add j) = some u) (h1 : ∀ u ∈ news, u.oneCell' = true) (hz : n + m ≤ 100000) :
    ∃ v' w', (Builtin.append_ #[50, 50] ty #[v, .slice (some ad) m c]).run Tryz.prog W = .ok v' w' ∧ w'.ownsRow N 59 2 v' (n + m) (cs ++ news) ∧ v' ≠ nilS ∧ W.grownBy w' v.ownBlock ∧ (v'.ownBlock = v.ownBlock ∨ v'.ownBlock = some W.heap.size) := by
  obtain ⟨i0, h0, h2⟩ := Option.map_eq_some_iff.1 infoTwo15
  simp only [Prod.mk.injEq] at h2
  obtain ⟨v', w', hr, hown, hg, hnil, hat⟩ := run_append_own_at (P := Tryz.prog) W N 50 ty 59 i0 (.agg #[.int .i64 0, .int .i64 0]) 2 16 Tryz.underlying50 h0 h2.1 h2.2.1 h2.2.2 rfl (by decide) v n cs h.1 ad m c news hl hnews h1 (by unfold maxLen; omega) (by omega) hN
  exact ⟨v', w', hr, hown, fun e => h.2 (hnil.1 e).1, hg, hat⟩
theorem intV_one (L : List Int) : ∀ u ∈ L.map intV, u.oneCell' = true := by
  intro u hu
  obtain ⟨x, -, rfl⟩ := List.mem_map.1 hu
  rfl
theorem add_zero15 (g o j : Nat) : (⟨g, o, none⟩ : Addr).add j = ⟨g, o + j, none⟩ := by
  cases j with
  | zero => simp [Addr.add]
  | succ j => simp [Addr.add]
end

section
open Go.RowKit
theorem wp_region_ime {P : Program} {id : Nat} {ops : Array Oper} {Q : Exit → Act → World → Prop} {a0 : Act} {w0 : World} (imp : Nat → Bool) (X : (Nat → Bool) → (Nat → Value) → World → Prop)
    (hX0 : ∀ vs, X (fun _ => false) vs w0.drew) (hXst : ∀ d vs u w, X d vs u → Below u.heap.size u w → X d vs w) (hXo : ∀ d vs w i v, imp i = false → X d vs w → X (updB d i) (upd vs i v) w)
    (V : List (Value → Prop)) (A : (Nat → Value) → Act) (n f : Nat) (ol : Oper)
    (hm : P.follows .mixedOrders = true) (hd : distinctB (ops.toList.take n) = true) (hb : backB ops.toList 0 = true) (hA : ∀ vs, puts (ops.toList.take n) vs 0 a0 = A vs)
    (hlast : lastB ops f n = true) (hol : ops[n]? = some ol)
    (hob : ObsI imp X P Q ops A V (ops.toList.take n) 0)
    (hfin : ∀ d vs w, (∀ k, k < n → d k = true) → X d vs w → (∀ k, k < n → imp k = false → (V.getD k (fun _ => True)) (vs k)) →
      if Region.wanted ol (yielded ops (A vs).tmps) = true then Oper.wp P ol (A vs) w (fun a w' => Q .normal a w') Q else Q .normal ((A vs).put ol.dst undef) w) :
    (Code.region id ops true).wp P Q a0 w0 := by
  unfold lastB at hlast
  rw [Bool.and_eq_true, decide_eq_true_eq] at hlast
  obtain ⟨hn, hreach⟩ := hlast
  have hdf : ∀ (l : Array Bool) i, i < l.size → (fun j => (l.setIfInBounds i true).getD j false) = updB (fun j => l.getD j false) i := fun l i hi => by
    funext j
    unfold updB
    by_cases h : j = i
    · subst h; simp [hi]
    · rw [if_neg h, getD_set_ne false (Ne.symm h)]
  refine wp_region_any hm ?_
  refine wpAny_inv (I := fun l a w => l.size = ops.size ∧ ((l.getD n false = true ∧ (∀ k, k < ops.size → l.getD k false = true) ∧ Q .normal a w) ∨ (l.getD n false = false ∧ (∀ k o, ops[k]? = some o → l.getD k false = true → ∀ e, e ∈ o.after → Region.binds .any e = true → l.getD e.on false = true) ∧
    ∃ vs, a = A vs ∧ X (fun j => l.getD j false) vs w ∧ ∀ k, l.getD k false = true → imp k = false → (V.getD k (fun _ => True)) (vs k)))) (fun l a w h => h.1) ?_ ?_ _ _ _ _ ?_ ?_
  · rintro l a w i ⟨hl, hI⟩ hi
    obtain ⟨h0, o, ho, hall⟩ := mem_ready.1 hi
    have hlt : i < ops.size := (Array.getElem?_eq_some_iff.1 ho).1
    have hil : i < l.size := by omega
    have hif : l.getD i false = false := by simpa [hil] using h0
    rcases hI with ⟨_, hall2, _⟩ | ⟨hnf, hc, vs, rfl, hw, hk⟩
    · rw [hall2 i hlt] at hif
      cases hif
    by_cases hin : i = n
    · subst hin
      obtain rfl : o = ol := by rw [hol] at ho; exact (Option.some.inj ho).symm
      have hdone : ∀ j, j < i → l.getD j false = true := fun j hj => by
        have hr := List.all_eq_true.1 hreach j (List.mem_range.2 hj)
        exact reach_done hc f i j o ho (fun e he hx => hall e he hx) hr
      have hst := hfin _ vs w hdone hw (fun k hk' => hk k (hdone k hk'))
      have hfin2 : ∀ a' w', Q .normal a' w' → (l.setIfInBounds i true).size = ops.size ∧ (((l.setIfInBounds i true).getD i false = true ∧ (∀ k, k < ops.size → (l.setIfInBounds i true).getD k false = true) ∧ Q .normal a' w') ∨ ((l.setIfInBounds i true).getD i false = false ∧ (∀ k o, ops[k]? = some o → (l.setIfInBounds i true).getD k false = true → ∀ e, e ∈ o.after → Region.binds .any e = true → (l.setIfInBounds i true).getD e.on false = true) ∧
          ∃ vs, a' = A vs ∧ X (fun j => (l.setIfInBounds i true).getD j false) vs w' ∧ ∀ k, (l.setIfInBounds i true).getD k false = true → imp k = false → (V.getD k (fun _ => True)) (vs k))) := by
        intro a' w' hq
        have hself : (l.setIfInBounds i true).getD i false = true := by simp [hil]
        refine ⟨by simpa using hl, .inl ⟨hself, fun k hk' => ?_, hq⟩⟩
        by_cases hki : k = i
        · subst hki; exact hself
        · rw [getD_set_ne false (Ne.symm hki)]
          exact hdone k (by omega)
      unfold wpOp
      simp only [ho]
      split
      · rename_i hw'
        rw [if_pos hw'] at hst
        exact .inl (Oper.wp_mono (fun a' w' h => hfin2 a' w' h) hst)
      · rename_i hw'
        rw [if_neg hw'] at hst
        exact hfin2 _ _ hst
    · have hi2 : i < n := by omega
      have hO := ObsI.at imp X P Q ops A V (ops.toList.take n) 0 i o hob (by rw [List.getElem?_take_of_lt hi2]; simpa using ho)
      rw [Nat.zero_add] at hO
      have hput : ∀ v, (A vs).put o.dst v = A (upd vs i v) := fun v => by
        rw [← hA, ← hA, puts_upd (ops.toList.take n) vs 0 i a0 o v hd (by rw [List.getElem?_take_of_lt hi2]; simpa using ho), Nat.zero_add]
      have hst1 := hO (fun j => l.getD j false) vs w hif (fun j hj => dep_done (fun e he hx => hall e he hx) hj) (fun i' q j hq hj hd' => dep_done (fun e he hx => hc i' q hq hd' e he hx) hj)
        (fun j hj => hk _ (dep_done (fun e he hx => hall e he hx) hj)) hw (fun a' w' => (l.setIfInBounds i true).size = ops.size ∧ (((l.setIfInBounds i true).getD n false = true ∧ (∀ k, k < ops.size → (l.setIfInBounds i true).getD k false = true) ∧ Q .normal a' w') ∨ ((l.setIfInBounds i true).getD n false = false ∧ (∀ k o, ops[k]? = some o → (l.setIfInBounds i true).getD k false = true → ∀ e, e ∈ o.after → Region.binds .any e = true → (l.setIfInBounds i true).getD e.on false = true) ∧
          ∃ vs, a' = A vs ∧ X (fun j => (l.setIfInBounds i true).getD j false) vs w' ∧ ∀ k, (l.setIfInBounds i true).getD k false = true → imp k = false → (V.getD k (fun _ => True)) (vs k))))
        (by
          intro v w' hv1 hv2
          have hmono : ∀ j, l.getD j false = true → (l.setIfInBounds i true).getD j false = true := fun j hj => by
            by_cases hji : j = i
            · subst hji; rw [hj] at hif; cases hif
            · rw [getD_set_ne false (Ne.symm hji)]; exact hj
          refine ⟨by simpa using hl, .inr ⟨by rw [getD_set_ne false hin]; exact hnf, fun k o' ho' hk' e he hx => ?_, upd vs i v, hput v, ?_, fun k hk' hik => ?_⟩⟩
          · by_cases hki : k = i
            · subst hki
              obtain rfl : o = o' := Option.some.inj (ho.symm.trans ho')
              exact hmono _ (hall e he hx)
            · rw [getD_set_ne false (Ne.symm hki)] at hk'
              exact hmono _ (hc k o' ho' hk' e he hx)
          · rw [hdf l i hil]
            cases hi : imp i with
            | true => exact hv1 hi
            | false => exact hXo _ _ _ i v hi (hXst _ _ _ _ hw (hv2 hi).2)
          · by_cases hki : k = i
            · subst hki
              have e : upd vs k v k = v := by simp [upd]
              rw [e]
              exact (hv2 hik).1
            · have e : upd vs i v k = vs k := by unfold upd; rw [if_neg hki]
              rw [e]
              refine hk k ?_ hik
              rwa [getD_set_ne false (Ne.symm hki)] at hk')
      unfold wpOp
      simp only [ho]
      split
      · rename_i hw'
        rw [if_pos hw'] at hst1
        exact .inl hst1
      · rename_i hw'
        rw [if_neg hw'] at hst1
        exact hst1
  · rintro l a w ⟨hl, hI⟩ hr
    rcases hI with ⟨_, _, hq⟩ | ⟨hnf, _⟩
    · exact hq
    · rw [ready_all hb hl hr n (by omega)] at hnf
      cases hnf
  · simp
  · obtain ⟨vs, hvs⟩ := puts_self (ops.toList.take n) 0 a0
    have hf : ∀ k, (Array.replicate ops.size false).getD k false = false := fun k => by
      by_cases h : k < ops.size
      · simp [h]
      · simp [h]
    have hf2 : (fun j => (Array.replicate ops.size false).getD j false) = fun _ => false := funext hf
    refine ⟨by simp, .inr ⟨hf n, fun k _ _ hk => ?_, vs, by rw [← hA, hvs], by rw [hf2]; exact hX0 vs, fun k hk => ?_⟩⟩
    · rw [hf k] at hk; cases hk
    · rw [hf k] at hk; cases hk
end

section
open Go.RowKit Go.PlainAid
/-- What has been found among the first i. -/
def sfM (m : MRule) (l : List Rec) (r : Rec) (i : Nat) : List (Int × Int) := (hitsM m (l.take i) r).foldl (insO ltF) []
theorem sf_zero (m : MRule) (l : List Rec) (r : Rec) : sfM m l r 0 = [] := by simp [sfM, hitsM]
theorem sf_len (m : MRule) (l : List Rec) (r : Rec) (i : Nat) : (sfM m l r i).length ≤ i := by
  unfold sfM
  rw [ins_fold_len]
  have := hits_len m (l.take i) r
  rw [List.length_take] at this
  simp only [List.length_nil]
  omega
theorem sf_end (m : MRule) (l : List Rec) (r : Rec) : (sfM m l r l.length).map (·.2) = findM m l r := by
  unfold sfM findM foundM
  rw [List.take_length]
theorem sf_step (m : MRule) (l : List Rec) (r : Rec) (i : Nat) (h : i < l.length) : sfM m l r (i + 1) = if (l.getD i rec0).id ≠ r.id ∧ m.need ≤ scoreM m (l.getD i rec0) r then insO ltF (sfM m l r i) (scoreM m (l.getD i rec0) r, (l.getD i rec0).id) else sfM m l r i := by
  unfold sfM
  rw [hits_snoc m l r i h, scoreM_comm m r, List.foldl_append]
  split <;> rfl
theorem ins_parts15 {lt : Int × Int → Int × Int → Bool} {S0 : List (Int × Int)} {x : Int × Int} {k : Nat} (hp : plcO lt S0 x = k) (f : Int × Int → Int) :
    (((S0.map f).map intV).take k ++ [.int .i64 (f x)]) ++ ((S0.map f).map intV).drop k = ((insO lt S0 x).map f).map intV := by
  unfold insO
  rw [hp]
  simp [List.map_take, List.map_drop, intV]
theorem ins_len15 {lt : Int × Int → Int × Int → Bool} {S0 : List (Int × Int)} {x : Int × Int} {k : Nat} (hk : k ≤ S0.length) : k + 1 + (S0.length - k) = (insO lt S0 x).length := by
  rw [insO_len]
  omega
theorem src_take15 {cs : List Value} {k j : Nat} {u : Value} (h : (cs.take k)[j]? = some u) : cs[j]? = some u := by
  rw [List.getElem?_take] at h
  split at h
  · exact h
  · cases h
theorem src_drop15 {cs : List Value} {k j : Nat} {u : Value} (h : (cs.drop k)[j]? = some u) : cs[k + j]? = some u := by rwa [List.getElem?_drop] at h
theorem one_take15 {cs : List Value} {k : Nat} (h : ∀ u ∈ cs, u.oneCell' = true) : ∀ u ∈ cs.take k, u.oneCell' = true := fun u hu => h u (List.mem_of_mem_take hu)
theorem one_drop15 {cs : List Value} {k : Nat} (h : ∀ u ∈ cs, u.oneCell' = true) : ∀ u ∈ cs.drop k, u.oneCell' = true := fun u hu => h u (List.mem_of_mem_drop hu)
end

end Go.Proofs.YtfjfpefpdlecbaaGreatDoor
