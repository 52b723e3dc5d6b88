/- Merged: RegEnd. -/
import Derived.Test.YtiledacfdaenbaaDoorQ19
namespace Go.Proofs.YtiledacfdaenbaaDoor

section
open Go.RowKit
theorem wp_region_end {P : Program} {id : Nat} {ops : Array Oper} {Q : Exit → Act → World → Prop} {a0 : Act} {w0 : World} (R : World → World → Prop) (htrans : ∀ u v w, R u v → R v w → R u w) (hdrew : R w0 w0.drew)
    (V : List (SPR R)) (A : (Nat → Value) → Act) (n f : Nat) (ol : Oper)
    (hm : P.follows .mixedOrders = true) (hd : distinctB (ops.toList.take n) = true) (hb : backB ops.toList 0 = true) (hA : ∀ vs, puts (ops.toList.take n) vs 0 a0 = A vs)
    (hlast : lastB ops f n = true) (hol : ops[n]? = some ol)
    (hob : ObsR R P Q ops A w0 V (ops.toList.take n) 0)
    (hfin : ∀ vs w, R w0 w → (∀ k, k < n → (V.getD k (SPR.any R)).p (vs k) w) →
      if Region.wanted ol (yielded ops (A vs).tmps) = true then Oper.wp P ol (A vs) w (fun a w' => Q .normal a w') Q else Q .normal ((A vs).put ol.dst undef) w) :
    (Code.region id ops true).wp P Q a0 w0 := by
  unfold lastB at hlast
  rw [Bool.and_eq_true, decide_eq_true_eq] at hlast
  obtain ⟨hn, hreach⟩ := hlast
  refine wp_region_any hm ?_
  refine wpAny_inv (I := fun l a w => l.size = ops.size ∧ ((l.getD n false = true ∧ (∀ k, k < ops.size → l.getD k false = true) ∧ Q .normal a w) ∨ (l.getD n false = false ∧ (∀ k o, ops[k]? = some o → l.getD k false = true → ∀ e, e ∈ o.after → Region.binds .any e = true → l.getD e.on false = true) ∧
    ∃ vs, a = A vs ∧ R w0 w ∧ ∀ k, l.getD k false = true → (V.getD k (SPR.any R)).p (vs k) w))) (fun l a w h => h.1) ?_ ?_ _ _ _ _ ?_ ?_
  · rintro l a w i ⟨hl, hI⟩ hi
    obtain ⟨h0, o, ho, hall⟩ := mem_ready.1 hi
    have hlt : i < ops.size := (Array.getElem?_eq_some_iff.1 ho).1
    have hif : l.getD i false = false := by
      have : i < l.size := by omega
      simpa [this] using h0
    rcases hI with ⟨_, hall2, _⟩ | ⟨hnf, hc, vs, rfl, hw, hk⟩
    · rw [hall2 i hlt] at hif
      cases hif
    by_cases hin : i = n
    · subst hin
      obtain rfl : o = ol := by rw [hol] at ho; exact (Option.some.inj ho).symm
      have hdone : ∀ j, j < i → l.getD j false = true := fun j hj => by
        have hr := List.all_eq_true.1 hreach j (List.mem_range.2 hj)
        exact reach_done hc f i j o ho (fun e he hx => hall e he hx) hr
      have hst := hfin vs w hw (fun k hk' => hk k (hdone k hk'))
      have hfin2 : ∀ a' w', Q .normal a' w' → (l.setIfInBounds i true).size = ops.size ∧ (((l.setIfInBounds i true).getD i false = true ∧ (∀ k, k < ops.size → (l.setIfInBounds i true).getD k false = true) ∧ Q .normal a' w') ∨ ((l.setIfInBounds i true).getD i false = false ∧ (∀ k o, ops[k]? = some o → (l.setIfInBounds i true).getD k false = true → ∀ e, e ∈ o.after → Region.binds .any e = true → (l.setIfInBounds i true).getD e.on false = true) ∧
          ∃ vs, a' = A vs ∧ R w0 w' ∧ ∀ k, (l.setIfInBounds i true).getD k false = true → (V.getD k (SPR.any R)).p (vs k) w')) := by
        intro a' w' hq
        have hself : (l.setIfInBounds i true).getD i false = true := by
          have : i < l.size := by omega
          simp [this]
        refine ⟨by simpa using hl, .inl ⟨hself, fun k hk' => ?_, hq⟩⟩
        by_cases hki : k = i
        · subst hki; exact hself
        · rw [getD_set_ne false (Ne.symm hki)]
          exact hdone k (by omega)
      unfold wpOp
      simp only [ho]
      split
      · rename_i hw'
        rw [if_pos hw'] at hst
        exact .inl (Oper.wp_mono (fun a' w' h => hfin2 a' w' h) hst)
      · rename_i hw'
        rw [if_neg hw'] at hst
        exact hfin2 _ _ hst
    · have hi2 : i < n := by omega
      have hO := ObsR.at R P Q ops A w0 V (ops.toList.take n) 0 i o hob (by rw [List.getElem?_take_of_lt hi2]; simpa using ho)
      rw [Nat.zero_add] at hO
      have hput : ∀ v, (A vs).put o.dst v = A (upd vs i v) := fun v => by
        rw [← hA, ← hA, puts_upd (ops.toList.take n) vs 0 i a0 o v hd (by rw [List.getElem?_take_of_lt hi2]; simpa using ho), Nat.zero_add]
      have hst := hO vs w hw (fun j hj => hk _ (dep_done (fun e he hx => hall e he hx) hj)) (fun a' w' => (l.setIfInBounds i true).size = ops.size ∧ (((l.setIfInBounds i true).getD n false = true ∧ (∀ k, k < ops.size → (l.setIfInBounds i true).getD k false = true) ∧ Q .normal a' w') ∨ ((l.setIfInBounds i true).getD n false = false ∧ (∀ k o, ops[k]? = some o → (l.setIfInBounds i true).getD k false = true → ∀ e, e ∈ o.after → Region.binds .any e = true → (l.setIfInBounds i true).getD e.on false = true) ∧
          ∃ vs, a' = A vs ∧ R w0 w' ∧ ∀ k, (l.setIfInBounds i true).getD k false = true → (V.getD k (SPR.any R)).p (vs k) w')))
        (by
          intro v w' hv hbw
          have hmono : ∀ j, l.getD j false = true → (l.setIfInBounds i true).getD j false = true := fun j hj => by
            by_cases hji : j = i
            · subst hji; rw [hj] at hif; cases hif
            · rw [getD_set_ne false (Ne.symm hji)]; exact hj
          refine ⟨by simpa using hl, .inr ⟨by rw [getD_set_ne false hin]; exact hnf, fun k o' ho' hk' e he hx => ?_, upd vs i v, hput v, htrans _ _ _ hw hbw, fun k hk' => ?_⟩⟩
          · by_cases hki : k = i
            · subst hki
              obtain rfl : o = o' := Option.some.inj (ho.symm.trans ho')
              exact hmono _ (hall e he hx)
            · rw [getD_set_ne false (Ne.symm hki)] at hk'
              exact hmono _ (hc k o' ho' hk' e he hx)
          · by_cases hki : k = i
            · subst hki
              have e : upd vs k v k = v := by simp [upd]
              rw [e]
              exact hv
            · have e : upd vs i v k = vs k := by unfold upd; rw [if_neg hki]
              rw [e]
              refine (V.getD k (SPR.any R)).st _ _ _ (hk k ?_) hbw
              rwa [getD_set_ne false (Ne.symm hki)] at hk')
      unfold wpOp
      simp only [ho]
      split
      · rename_i hw'
        rw [if_pos hw'] at hst
        exact .inl hst
      · rename_i hw'
        rw [if_neg hw'] at hst
        exact hst
  · rintro l a w ⟨hl, hI⟩ hr
    rcases hI with ⟨_, _, hq⟩ | ⟨hnf, _⟩
    · exact hq
    · rw [ready_all hb hl hr n (by omega)] at hnf
      cases hnf
  · simp
  · obtain ⟨vs, hvs⟩ := puts_self (ops.toList.take n) 0 a0
    have hf : ∀ k, (Array.replicate ops.size false).getD k false = false := fun k => by
      by_cases h : k < ops.size
      · simp [h]
      · simp [h]
    refine ⟨by simp, .inr ⟨hf n, fun k _ _ hk => ?_, vs, by rw [← hA, hvs], hdrew, fun k hk => ?_⟩⟩
    · rw [hf k] at hk; cases hk
    · rw [hf k] at hk; cases hk
end

end Go.Proofs.YtiledacfdaenbaaDoor
