/- Merged: RegImp, RegIm0, Chain3. -/
import Derived.Test.YtceneblmllpdnaaDoorQ21
import Derived.Maps.AppendAt
namespace Go.Proofs.YtceneblmllpdnaaDoor

section
open Go.RowKit
def updB (d : Nat → Bool) (i : Nat) : Nat → Bool := fun j => if j = i then true else d j
section
variable (imp : Nat → Bool) (X : (Nat → Bool) → (Nat → Value) → World → Prop) (P : Program) (Q : Exit → Act → World → Prop) (ops : Array Oper) (A : (Nat → Value) → Act) (V : List (Value → Prop))
def ObI (k : Nat) (o : Oper) : Prop :=
  ∀ (d : Nat → Bool) (vs : Nat → Value) (w : World), d k = false → (∀ j, depB o j = true → d j = true) → (∀ i q j, ops[i]? = some q → depB q j = true → d i = true → d j = true) →
    (∀ j, depB o j = true → imp j = false → (V.getD j (fun _ => True)) (vs j)) → X d vs w → ∀ K : Act → World → Prop,
    RowKit.Hid (∀ v w', (imp k = true → X (updB d k) (upd vs k v) w') → (imp k = false → (V.getD k (fun _ => True)) v ∧ Below w.heap.size w w') → K ((A vs).put o.dst v) w') →
    if Region.wanted o (yielded ops (A vs).tmps) = true then Oper.wp P o (A vs) w K Q else K ((A vs).put o.dst undef) w
def ObsI : List Oper → Nat → Prop
  | [], _ => True
  | o :: r, k => ObI imp X P Q ops A V k o ∧ ObsI r (k + 1)
theorem ObsI.at : ∀ (r : List Oper) (k q : Nat) (o : Oper), ObsI imp X P Q ops A V r k → r[q]? = some o → ObI imp X P Q ops A V (k + q) o
  | [], _, _, _, _, h => by cases h
  | o' :: r, k, 0, o, hO, h => by
    obtain rfl : o' = o := by simpa using h
    exact hO.1
  | o' :: r, k, q + 1, o, hO, h => by
    have := ObsI.at r (k + 1) q o hO.2 (by simpa using h)
    rwa [show k + 1 + q = k + (q + 1) by omega] at this
theorem ObsI.nil {k : Nat} : ObsI imp X P Q ops A V [] k := trivial
theorem ObsI.cons {o : Oper} {r : List Oper} {k : Nat} (h : ObI imp X P Q ops A V k o) (t : ObsI imp X P Q ops A V r (k + 1)) : ObsI imp X P Q ops A V (o :: r) k := ⟨h, t⟩
end

theorem wp_region_imp {P : Program} {id : Nat} {ops : Array Oper} {Q : Exit → Act → World → Prop} {a0 : Act} {w0 : World} (imp : Nat → Bool) (X : (Nat → Bool) → (Nat → Value) → World → Prop)
    (hX0 : ∀ vs, X (fun _ => false) vs w0.drew) (hXst : ∀ d vs u w, X d vs u → Below u.heap.size u w → X d vs w) (hXo : ∀ d vs w i v, imp i = false → X d vs w → X (updB d i) (upd vs i v) w)
    (V : List (Value → Prop)) (A : (Nat → Value) → Act) (n f : Nat) (ol : Oper)
    (hm : P.follows .mixedOrders = true) (hd : distinctB ops.toList = true) (hb : backB ops.toList 0 = true) (hA : ∀ vs, puts ops.toList vs 0 a0 = A vs)
    (hlast : lastB ops f n = true) (hol : ops[n]? = some ol)
    (hob : ObsI imp X P Q ops A V (ops.toList.take n) 0)
    (hfin : ∀ d vs w, (∀ k, k < n → d k = true) → X d vs w → (∀ k, k < n → imp k = false → (V.getD k (fun _ => True)) (vs k)) →
      if Region.wanted ol (yielded ops (A vs).tmps) = true then Oper.wp P ol (A vs) w (fun a w' => Q .normal a w') Q else Q .normal ((A vs).put ol.dst undef) w) :
    (Code.region id ops true).wp P Q a0 w0 := by
  unfold lastB at hlast
  rw [Bool.and_eq_true, decide_eq_true_eq] at hlast
  obtain ⟨hn, hreach⟩ := hlast
  have hdf : ∀ (l : Array Bool) i, i < l.size → (fun j => (l.setIfInBounds i true).getD j false) = updB (fun j => l.getD j false) i := fun l i hi => by
    funext j
    unfold updB
    by_cases h : j = i
    · subst h; simp [hi]
    · rw [if_neg h, getD_set_ne false (Ne.symm h)]
  refine wp_region_any hm ?_
  refine wpAny_inv (I := fun l a w => l.size = ops.size ∧ ((l.getD n false = true ∧ (∀ k, k < ops.size → l.getD k false = true) ∧ Q .normal a w) ∨ (l.getD n false = false ∧ (∀ k o, ops[k]? = some o → l.getD k false = true → ∀ e, e ∈ o.after → Region.binds .any e = true → l.getD e.on false = true) ∧
    ∃ vs, a = A vs ∧ X (fun j => l.getD j false) vs w ∧ ∀ k, l.getD k false = true → imp k = false → (V.getD k (fun _ => True)) (vs k)))) (fun l a w h => h.1) ?_ ?_ _ _ _ _ ?_ ?_
  · rintro l a w i ⟨hl, hI⟩ hi
    obtain ⟨h0, o, ho, hall⟩ := mem_ready.1 hi
    have hlt : i < ops.size := (Array.getElem?_eq_some_iff.1 ho).1
    have hil : i < l.size := by omega
    have hif : l.getD i false = false := by simpa [hil] using h0
    rcases hI with ⟨_, hall2, _⟩ | ⟨hnf, hc, vs, rfl, hw, hk⟩
    · rw [hall2 i hlt] at hif
      cases hif
    by_cases hin : i = n
    · subst hin
      obtain rfl : o = ol := by rw [hol] at ho; exact (Option.some.inj ho).symm
      have hdone : ∀ j, j < i → l.getD j false = true := fun j hj => by
        have hr := List.all_eq_true.1 hreach j (List.mem_range.2 hj)
        exact reach_done hc f i j o ho (fun e he hx => hall e he hx) hr
      have hst := hfin _ vs w hdone hw (fun k hk' => hk k (hdone k hk'))
      have hfin2 : ∀ a' w', Q .normal a' w' → (l.setIfInBounds i true).size = ops.size ∧ (((l.setIfInBounds i true).getD i false = true ∧ (∀ k, k < ops.size → (l.setIfInBounds i true).getD k false = true) ∧ Q .normal a' w') ∨ ((l.setIfInBounds i true).getD i false = false ∧ (∀ k o, ops[k]? = some o → (l.setIfInBounds i true).getD k false = true → ∀ e, e ∈ o.after → Region.binds .any e = true → (l.setIfInBounds i true).getD e.on false = true) ∧
          ∃ vs, a' = A vs ∧ X (fun j => (l.setIfInBounds i true).getD j false) vs w' ∧ ∀ k, (l.setIfInBounds i true).getD k false = true → imp k = false → (V.getD k (fun _ => True)) (vs k))) := by
        intro a' w' hq
        have hself : (l.setIfInBounds i true).getD i false = true := by simp [hil]
        refine ⟨by simpa using hl, .inl ⟨hself, fun k hk' => ?_, hq⟩⟩
        by_cases hki : k = i
        · subst hki; exact hself
        · rw [getD_set_ne false (Ne.symm hki)]
          exact hdone k (by omega)
      unfold wpOp
      simp only [ho]
      split
      · rename_i hw'
        rw [if_pos hw'] at hst
        exact .inl (Oper.wp_mono (fun a' w' h => hfin2 a' w' h) hst)
      · rename_i hw'
        rw [if_neg hw'] at hst
        exact hfin2 _ _ hst
    · have hi2 : i < n := by omega
      have hO := ObsI.at imp X P Q ops A V (ops.toList.take n) 0 i o hob (by rw [List.getElem?_take_of_lt hi2]; simpa using ho)
      rw [Nat.zero_add] at hO
      have hput : ∀ v, (A vs).put o.dst v = A (upd vs i v) := fun v => by
        rw [← hA, ← hA, puts_upd ops.toList vs 0 i a0 o v hd (by simpa using ho), Nat.zero_add]
      have hst1 := hO (fun j => l.getD j false) vs w hif (fun j hj => dep_done (fun e he hx => hall e he hx) hj) (fun i' q j hq hj hd' => dep_done (fun e he hx => hc i' q hq hd' e he hx) hj)
        (fun j hj => hk _ (dep_done (fun e he hx => hall e he hx) hj)) hw (fun a' w' => (l.setIfInBounds i true).size = ops.size ∧ (((l.setIfInBounds i true).getD n false = true ∧ (∀ k, k < ops.size → (l.setIfInBounds i true).getD k false = true) ∧ Q .normal a' w') ∨ ((l.setIfInBounds i true).getD n false = false ∧ (∀ k o, ops[k]? = some o → (l.setIfInBounds i true).getD k false = true → ∀ e, e ∈ o.after → Region.binds .any e = true → (l.setIfInBounds i true).getD e.on false = true) ∧
          ∃ vs, a' = A vs ∧ X (fun j => (l.setIfInBounds i true).getD j false) vs w' ∧ ∀ k, (l.setIfInBounds i true).getD k false = true → imp k = false → (V.getD k (fun _ => True)) (vs k))))
        (by
          intro v w' hv1 hv2
          have hmono : ∀ j, l.getD j false = true → (l.setIfInBounds i true).getD j false = true := fun j hj => by
            by_cases hji : j = i
            · subst hji; rw [hj] at hif; cases hif
            · rw [getD_set_ne false (Ne.symm hji)]; exact hj
          refine ⟨by simpa using hl, .inr ⟨by rw [getD_set_ne false hin]; exact hnf, fun k o' ho' hk' e he hx => ?_, upd vs i v, hput v, ?_, fun k hk' hik => ?_⟩⟩
          · by_cases hki : k = i
            · subst hki
              obtain rfl : o = o' := Option.some.inj (ho.symm.trans ho')
              exact hmono _ (hall e he hx)
            · rw [getD_set_ne false (Ne.symm hki)] at hk'
              exact hmono _ (hc k o' ho' hk' e he hx)
          · rw [hdf l i hil]
            cases hi : imp i with
            | true => exact hv1 hi
            | false => exact hXo _ _ _ i v hi (hXst _ _ _ _ hw (hv2 hi).2)
          · by_cases hki : k = i
            · subst hki
              have e : upd vs k v k = v := by simp [upd]
              rw [e]
              exact (hv2 hik).1
            · have e : upd vs i v k = vs k := by unfold upd; rw [if_neg hki]
              rw [e]
              refine hk k ?_ hik
              rwa [getD_set_ne false (Ne.symm hki)] at hk')
      unfold wpOp
      simp only [ho]
      split
      · rename_i hw'
        rw [if_pos hw'] at hst1
        exact .inl hst1
      · rename_i hw'
        rw [if_neg hw'] at hst1
        exact hst1
  · rintro l a w ⟨hl, hI⟩ hr
    rcases hI with ⟨_, _, hq⟩ | ⟨hnf, _⟩
    · exact hq
    · rw [ready_all hb hl hr n (by omega)] at hnf
      cases hnf
  · simp
  · obtain ⟨vs, hvs⟩ := puts_self ops.toList 0 a0
    have hf : ∀ k, (Array.replicate ops.size false).getD k false = false := fun k => by
      by_cases h : k < ops.size
      · simp [h]
      · simp [h]
    have hf2 : (fun j => (Array.replicate ops.size false).getD j false) = fun _ => false := funext hf
    refine ⟨by simp, .inr ⟨hf n, fun k _ _ hk => ?_, vs, by rw [← hA, hvs], by rw [hf2]; exact hX0 vs, fun k hk => ?_⟩⟩
    · rw [hf k] at hk; cases hk
    · rw [hf k] at hk; cases hk
end

section
open Go.RowKit
theorem wp_region_im0 {P : Program} {id : Nat} {ops : Array Oper} {Q : Exit → Act → World → Prop} {a0 : Act} {w0 : World} (imp : Nat → Bool) (X : (Nat → Bool) → (Nat → Value) → World → Prop)
    (hX0 : ∀ vs, X (fun _ => false) vs w0.drew) (hXst : ∀ d vs u w, X d vs u → Below u.heap.size u w → X d vs w) (hXo : ∀ d vs w i v, imp i = false → X d vs w → X (updB d i) (upd vs i v) w)
    (V : List (Value → Prop)) (A : (Nat → Value) → Act)
    (hm : P.follows .mixedOrders = true) (hd : distinctB ops.toList = true) (hb : backB ops.toList 0 = true) (hA : ∀ vs, puts ops.toList vs 0 a0 = A vs)
    (hob : ObsI imp X P Q ops A V ops.toList 0)
    (hfin : ∀ d vs w, (∀ k, k < ops.size → d k = true) → X d vs w → (∀ k, k < ops.size → imp k = false → (V.getD k (fun _ => True)) (vs k)) → Q .normal (A vs) w) :
    (Code.region id ops true).wp P Q a0 w0 := by
  have hdf : ∀ (l : Array Bool) i, i < l.size → (fun j => (l.setIfInBounds i true).getD j false) = updB (fun j => l.getD j false) i := fun l i hi => by
    funext j
    unfold updB
    by_cases h : j = i
    · subst h; simp [hi]
    · rw [if_neg h, getD_set_ne false (Ne.symm h)]
  refine wp_region_any hm ?_
  refine wpAny_inv (I := fun l a w => l.size = ops.size ∧ (∀ k o, ops[k]? = some o → l.getD k false = true → ∀ e, e ∈ o.after → Region.binds .any e = true → l.getD e.on false = true) ∧
    ∃ vs, a = A vs ∧ X (fun j => l.getD j false) vs w ∧ ∀ k, l.getD k false = true → imp k = false → (V.getD k (fun _ => True)) (vs k)) (fun l a w h => h.1) ?_ ?_ _ _ _ _ ?_ ?_
  · rintro l a w i ⟨hl, hc, vs, rfl, hw, hk⟩ hi
    obtain ⟨h0, o, ho, hall⟩ := mem_ready.1 hi
    have hlt : i < ops.size := (Array.getElem?_eq_some_iff.1 ho).1
    have hil : i < l.size := by omega
    have hif : l.getD i false = false := by simpa [hil] using h0
    have hO := ObsI.at imp X P Q ops A V ops.toList 0 i o hob (by simpa using ho)
    rw [Nat.zero_add] at hO
    have hput : ∀ v, (A vs).put o.dst v = A (upd vs i v) := fun v => by
      rw [← hA, ← hA, puts_upd ops.toList vs 0 i a0 o v hd (by simpa using ho), Nat.zero_add]
    have hst1 := hO (fun j => l.getD j false) vs w hif (fun j hj => dep_done (fun e he hx => hall e he hx) hj) (fun i' q j hq hj hd' => dep_done (fun e he hx => hc i' q hq hd' e he hx) hj)
      (fun j hj => hk _ (dep_done (fun e he hx => hall e he hx) hj)) hw (fun a' w' => (l.setIfInBounds i true).size = ops.size ∧ (∀ k o, ops[k]? = some o → (l.setIfInBounds i true).getD k false = true → ∀ e, e ∈ o.after → Region.binds .any e = true → (l.setIfInBounds i true).getD e.on false = true) ∧
        ∃ vs, a' = A vs ∧ X (fun j => (l.setIfInBounds i true).getD j false) vs w' ∧ ∀ k, (l.setIfInBounds i true).getD k false = true → imp k = false → (V.getD k (fun _ => True)) (vs k))
      (by
        intro v w' hv1 hv2
        have hmono : ∀ j, l.getD j false = true → (l.setIfInBounds i true).getD j false = true := fun j hj => by
          by_cases hji : j = i
          · subst hji; rw [hj] at hif; cases hif
          · rw [getD_set_ne false (Ne.symm hji)]; exact hj
        refine ⟨by simpa using hl, fun k o' ho' hk' e he hx => ?_, upd vs i v, hput v, ?_, fun k hk' hik => ?_⟩
        · by_cases hki : k = i
          · subst hki
            obtain rfl : o = o' := Option.some.inj (ho.symm.trans ho')
            exact hmono _ (hall e he hx)
          · rw [getD_set_ne false (Ne.symm hki)] at hk'
            exact hmono _ (hc k o' ho' hk' e he hx)
        · rw [hdf l i hil]
          cases hi : imp i with
          | true => exact hv1 hi
          | false => exact hXo _ _ _ i v hi (hXst _ _ _ _ hw (hv2 hi).2)
        · by_cases hki : k = i
          · subst hki
            have e : upd vs k v k = v := by simp [upd]
            rw [e]
            exact (hv2 hik).1
          · have e : upd vs i v k = vs k := by unfold upd; rw [if_neg hki]
            rw [e]
            refine hk k ?_ hik
            rwa [getD_set_ne false (Ne.symm hki)] at hk')
    unfold wpOp
    simp only [ho]
    split
    · rename_i hw'
      rw [if_pos hw'] at hst1
      exact .inl hst1
    · rename_i hw'
      rw [if_neg hw'] at hst1
      exact hst1
  · rintro l a w ⟨hl, hc, vs, rfl, hw, hk⟩ hr
    exact hfin _ vs w (fun k hk' => ready_all hb hl hr k hk') hw (fun k hk' => hk k (ready_all hb hl hr k hk'))
  · simp
  · obtain ⟨vs, hvs⟩ := puts_self ops.toList 0 a0
    have hf : ∀ k, (Array.replicate ops.size false).getD k false = false := fun k => by
      by_cases h : k < ops.size
      · simp [h]
      · simp [h]
    have hf2 : (fun j => (Array.replicate ops.size false).getD j false) = fun _ => false := funext hf
    refine ⟨by simp, fun k _ _ hk => ?_, vs, by rw [← hA, hvs], by rw [hf2]; exact hX0 vs, fun k hk => ?_⟩
    · rw [hf k] at hk; cases hk
    · rw [hf k] at hk; cases hk
end

section
open Go.RowKit
def nilS : Value := .slice none 0 0
def rowE (N : Nat) (e : TypeId) (sz : Nat) (v : Value) (n : Nat) (cs : List Value) (w : World) : Prop := w.ownsRow N e sz v n cs ∧ v ≠ nilS
theorem rowE.after {N : Nat} {e : TypeId} {sz : Nat} {v : Value} {n : Nat} {cs : List Value} {w w' : World} (h : rowE N e sz v n cs w) (hb : Below w.heap.size w w') : rowE N e sz v n cs w' := by
  refine ⟨⟨h.1.1, ?_⟩, h.2⟩
  rcases h.1.2 with hn | ⟨g, cap, cur, hv, hB', hg, rest⟩
  · exact .inl hn
  · exact .inr ⟨g, cap, cur, hv, hB', (hb.block g (Array.getElem?_eq_some_iff.1 hg).1).trans hg, rest⟩
structure Ch (i0 i1 i2 i3 i4 N : Nat) (W0 : World) (e : TypeId) (sz k m : Nat) (cA cx cB : List Value) (d : Nat → Bool) (vs : Nat → Value) (w : World) : Prop where
  low : Below N W0 w
  size : N ≤ w.heap.size
  c0 : d i0 = true → d i1 = false → rowE N e sz (vs i0) 0 [] w
  c1 : d i1 = true → d i3 = false → rowE N e sz (vs i1) k cA w
  c2 : d i2 = true → d i3 = false → ∃ b, vs i2 = .slice (some ⟨b, 0, none⟩) 1 1 ∧ w.heap[b]? = some (.cells cx.toArray e (0, 0)) ∧ (d i1 = true → (vs i1).ownBlock ≠ some b) ∧ (d i0 = true → d i1 = false → (vs i0).ownBlock ≠ some b)
  c3 : d i3 = true → d i4 = false → rowE N e sz (vs i3) (k + 1) (cA ++ cx) w
  c4 : d i4 = true → rowE N e sz (vs i4) (k + 1 + m) (cA ++ cx ++ cB) w
theorem upd_at (vs : Nat → Value) (i : Nat) (v : Value) : upd vs i v i = v := by simp [upd]
theorem upd_ne (vs : Nat → Value) (i j : Nat) (v : Value) (h : j ≠ i) : upd vs i v j = vs j := by unfold upd; rw [if_neg h]
theorem updB_at (d : Nat → Bool) (i : Nat) : updB d i i = true := by simp [updB]
theorem updB_ne (d : Nat → Bool) (i j : Nat) (h : j ≠ i) : updB d i j = d j := by unfold updB; rw [if_neg h]
section
variable {i0 i1 i2 i3 i4 N : Nat} {W0 : World} {e : TypeId} {sz k m : Nat} {cA cx cB : List Value} {d : Nat → Bool} {vs : Nat → Value} {w : World}
theorem Ch.init (h : Below N W0 w) (hs : N ≤ w.heap.size) (vs : Nat → Value) : Ch i0 i1 i2 i3 i4 N W0 e sz k m cA cx cB (fun _ => false) vs w :=
  ⟨h, hs, (fun h => by cases h), (fun h => by cases h), (fun h => by cases h), (fun h => by cases h), (fun h => by cases h)⟩
theorem Ch.below (h : Ch i0 i1 i2 i3 i4 N W0 e sz k m cA cx cB d vs w) {w' : World} (hb : Below w.heap.size w w') : Ch i0 i1 i2 i3 i4 N W0 e sz k m cA cx cB d vs w' := by
  refine ⟨h.low.trans (hb.mono h.size), Nat.le_trans h.size hb.size, fun a b => (h.c0 a b).after hb, fun a b => (h.c1 a b).after hb, fun a b => ?_, fun a b => (h.c3 a b).after hb, fun a => (h.c4 a).after hb⟩
  obtain ⟨b', h1, h2, h3⟩ := h.c2 a b
  exact ⟨b', h1, (hb.block b' (Array.getElem?_eq_some_iff.1 h2).1).trans h2, h3⟩
theorem Ch.other (h : Ch i0 i1 i2 i3 i4 N W0 e sz k m cA cx cB d vs w) (i : Nat) (v : Value) (n0 : i0 ≠ i) (n1 : i1 ≠ i) (n2 : i2 ≠ i) (n3 : i3 ≠ i) (n4 : i4 ≠ i) : Ch i0 i1 i2 i3 i4 N W0 e sz k m cA cx cB (updB d i) (upd vs i v) w := by
  constructor <;> (try simp only [updB_ne _ _ _ n0, updB_ne _ _ _ n1, updB_ne _ _ _ n2, updB_ne _ _ _ n3, updB_ne _ _ _ n4, upd_ne _ _ _ _ n0, upd_ne _ _ _ _ n1, upd_ne _ _ _ _ n2, upd_ne _ _ _ _ n3, upd_ne _ _ _ _ n4])
  · exact h.low
  · exact h.size
  · exact h.c0
  · exact h.c1
  · exact h.c2
  · exact h.c3
  · exact h.c4
theorem rowE.ltE {N : Nat} {e : TypeId} {sz : Nat} {v : Value} {n : Nat} {cs : List Value} {w : World} (h : rowE N e sz v n cs w) (b : Nat) (hb : v.ownBlock = some b) : N ≤ b ∧ b < w.heap.size := h.1.lt b hb
/-- The empty row. -/
theorem Ch.s0 (h : Ch i0 i1 i2 i3 i4 N W0 e sz k m cA cx cB d vs w) (hne : [i0, i1, i2, i3, i4].Nodup) :
    Ch i0 i1 i2 i3 i4 N W0 e sz k m cA cx cB (updB d i0) (upd vs i0 (.slice (some ⟨w.heap.size, 0, none⟩) 0 0)) (w.alloc (.cells #[] e)) := by
  simp only [List.nodup_cons, List.mem_cons, List.not_mem_nil, or_false, not_or, List.nodup_nil, and_true, not_false_eq_true] at hne
  obtain ⟨⟨n1, n2, n3, n4⟩, _⟩ := hne
  have hb := (Below.refl w.heap.size w).alloc (Nat.le_refl _) (.cells #[] e)
  have g := h.below hb
  constructor <;> (try simp only [updB_at, upd_at, updB_ne _ _ _ (Ne.symm n1), updB_ne _ _ _ (Ne.symm n2), updB_ne _ _ _ (Ne.symm n3), updB_ne _ _ _ (Ne.symm n4), upd_ne _ _ _ _ (Ne.symm n1), upd_ne _ _ _ _ (Ne.symm n2), upd_ne _ _ _ _ (Ne.symm n3), upd_ne _ _ _ _ (Ne.symm n4)])
  · exact g.low
  · exact g.size
  · intro _ _
    exact ⟨⟨by simp, .inr ⟨w.heap.size, 0, #[], rfl, h.size, heap_alloc_new w _, Nat.le_refl _, Nat.zero_le _, by simp, by simp⟩⟩, fun e => by cases e⟩
  · exact g.c1
  · intro a b
    obtain ⟨b', k1, k2, k3, _⟩ := h.c2 a b
    have hl := (Array.getElem?_eq_some_iff.1 k2).1
    exact ⟨b', k1, (hb.block b' hl).trans k2, k3, fun _ _ e => by have e2 : w.heap.size = b' := Option.some.inj e; omega⟩
  · exact g.c3
  · exact g.c4
/-- The first append. -/
theorem Ch.s1 (h : Ch i0 i1 i2 i3 i4 N W0 e sz k m cA cx cB d vs w) (hne : [i0, i1, i2, i3, i4].Nodup) (h0 : d i0 = true) (h1 : d i1 = false) (h3 : d i3 = false) (h4 : d i4 = false) {v' : Value} {w' : World}
    (hown : w'.ownsRow N e sz v' k cA) (hnn : v' ≠ nilS) (hg : w.grownBy w' (vs i0).ownBlock) (hat : v'.ownBlock = (vs i0).ownBlock ∨ v'.ownBlock = some w.heap.size) :
    Ch i0 i1 i2 i3 i4 N W0 e sz k m cA cx cB (updB d i1) (upd vs i1 v') w' := by
  simp only [List.nodup_cons, List.mem_cons, List.not_mem_nil, or_false, not_or, List.nodup_nil, and_true, not_false_eq_true] at hne
  obtain ⟨⟨n01, _, _, _⟩, ⟨n12, n13, n14⟩, _⟩ := hne
  have hl := (h.c0 h0 h1).ltE
  constructor <;> (try simp only [updB_at, upd_at, updB_ne _ _ _ n01, updB_ne _ _ _ (Ne.symm n12), updB_ne _ _ _ (Ne.symm n13), updB_ne _ _ _ (Ne.symm n14), upd_ne _ _ _ _ n01, upd_ne _ _ _ _ (Ne.symm n12), upd_ne _ _ _ _ (Ne.symm n13), upd_ne _ _ _ _ (Ne.symm n14)])
  · exact h.low.grown hg h.size (fun j hj => (hl j hj).1)
  · exact Nat.le_trans h.size hg.size
  · intro _ c; cases c
  · intro _ _; exact ⟨hown, hnn⟩
  · intro a b
    obtain ⟨b', k1, k2, _, k4⟩ := h.c2 a b
    have hb := (Array.getElem?_eq_some_iff.1 k2).1
    have hne0 := k4 h0 h1
    refine ⟨b', k1, (hg.block b' hb (fun e => hne0 e.symm)).trans k2, fun _ => ?_, fun _ c => by cases c⟩
    rcases hat with e | e
    · rw [e]; exact hne0
    · rw [e]
      intro e2
      have := Option.some.inj e2
      omega
  · intro a; rw [h3] at a; cases a
  · intro a; rw [h4] at a; cases a
/-- The element that is laid. -/
theorem Ch.s2 (h : Ch i0 i1 i2 i3 i4 N W0 e sz k m cA cx cB d vs w) (hne : [i0, i1, i2, i3, i4].Nodup) (h3 : d i3 = false) (h4 : d i4 = false) :
    Ch i0 i1 i2 i3 i4 N W0 e sz k m cA cx cB (updB d i2) (upd vs i2 (.slice (some ⟨w.heap.size, 0, none⟩) 1 1)) (w.alloc (.cells cx.toArray e)) := by
  simp only [List.nodup_cons, List.mem_cons, List.not_mem_nil, or_false, not_or, List.nodup_nil, and_true, not_false_eq_true] at hne
  obtain ⟨⟨_, n02, _, _⟩, ⟨n12, _, _⟩, ⟨n23, n24⟩, _⟩ := hne
  have hb := (Below.refl w.heap.size w).alloc (Nat.le_refl _) (.cells cx.toArray e)
  have g := h.below hb
  constructor <;> (try simp only [updB_at, upd_at, updB_ne _ _ _ n02, updB_ne _ _ _ n12, updB_ne _ _ _ (Ne.symm n23), updB_ne _ _ _ (Ne.symm n24), upd_ne _ _ _ _ n02, upd_ne _ _ _ _ n12, upd_ne _ _ _ _ (Ne.symm n23), upd_ne _ _ _ _ (Ne.symm n24)])
  · exact g.low
  · exact g.size
  · exact g.c0
  · exact g.c1
  · intro _ _
    refine ⟨w.heap.size, rfl, heap_alloc_new w _, fun a e => ?_, fun a b e => ?_⟩
    · have := ((h.c1 a h3).ltE _ e).2
      omega
    · have := ((h.c0 a b).ltE _ e).2
      omega
  · intro a; rw [h3] at a; cases a
  · intro a; rw [h4] at a; cases a
/-- The second append. -/
theorem Ch.s3 (h : Ch i0 i1 i2 i3 i4 N W0 e sz k m cA cx cB d vs w) (hne : [i0, i1, i2, i3, i4].Nodup) (h1 : d i1 = true) (h3 : d i3 = false) (h4 : d i4 = false) {v' : Value} {w' : World}
    (hown : w'.ownsRow N e sz v' (k + 1) (cA ++ cx)) (hnn : v' ≠ nilS) (hg : w.grownBy w' (vs i1).ownBlock) :
    Ch i0 i1 i2 i3 i4 N W0 e sz k m cA cx cB (updB d i3) (upd vs i3 v') w' := by
  simp only [List.nodup_cons, List.mem_cons, List.not_mem_nil, or_false, not_or, List.nodup_nil, and_true, not_false_eq_true] at hne
  obtain ⟨⟨_, _, n03, _⟩, ⟨_, n13, _⟩, ⟨n23, _⟩, n34⟩ := hne
  have hl := (h.c1 h1 h3).ltE
  constructor <;> (try simp only [updB_at, upd_at, updB_ne _ _ _ n03, updB_ne _ _ _ n13, updB_ne _ _ _ n23, updB_ne _ _ _ (Ne.symm n34), upd_ne _ _ _ _ n03, upd_ne _ _ _ _ n13, upd_ne _ _ _ _ n23, upd_ne _ _ _ _ (Ne.symm n34)])
  · exact h.low.grown hg h.size (fun j hj => (hl j hj).1)
  · exact Nat.le_trans h.size hg.size
  · intro _ c; rw [h1] at c; cases c
  · intro _ c; cases c
  · intro _ c; cases c
  · intro _ _; exact ⟨hown, hnn⟩
  · intro a; rw [h4] at a; cases a
/-- The third append. -/
theorem Ch.s4 (h : Ch i0 i1 i2 i3 i4 N W0 e sz k m cA cx cB d vs w) (hne : [i0, i1, i2, i3, i4].Nodup) (h1 : d i1 = true) (h3 : d i3 = true) (h4 : d i4 = false) {v' : Value} {w' : World}
    (hown : w'.ownsRow N e sz v' (k + 1 + m) (cA ++ cx ++ cB)) (hnn : v' ≠ nilS) (hg : w.grownBy w' (vs i3).ownBlock) :
    Ch i0 i1 i2 i3 i4 N W0 e sz k m cA cx cB (updB d i4) (upd vs i4 v') w' := by
  simp only [List.nodup_cons, List.mem_cons, List.not_mem_nil, or_false, not_or, List.nodup_nil, and_true, not_false_eq_true] at hne
  obtain ⟨⟨_, _, _, n04⟩, ⟨_, _, n14⟩, ⟨_, n24⟩, n34⟩ := hne
  have hl := (h.c3 h3 h4).ltE
  constructor <;> (try simp only [updB_at, upd_at, updB_ne _ _ _ n04, updB_ne _ _ _ n14, updB_ne _ _ _ n24, updB_ne _ _ _ n34, upd_ne _ _ _ _ n04, upd_ne _ _ _ _ n14, upd_ne _ _ _ _ n24, upd_ne _ _ _ _ n34])
  · exact h.low.grown hg h.size (fun j hj => (hl j hj).1)
  · exact Nat.le_trans h.size hg.size
  · intro _ c; rw [h1] at c; cases c
  · intro _ c; rw [h3] at c; cases c
  · intro _ c; rw [h3] at c; cases c
  · intro _ c; cases c
  · intro _; exact ⟨hown, hnn⟩
end
end

end Go.Proofs.YtceneblmllpdnaaDoor
