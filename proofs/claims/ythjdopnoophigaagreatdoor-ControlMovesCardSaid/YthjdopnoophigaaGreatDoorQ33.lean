/- Merged: RegRel, KG14, KH14. -/
import Derived.Test.YthjdopnoophigaaGreatDoorQ04
import Derived.Test.YthjdopnoophigaaGreatDoorQ24
namespace Go.Proofs.YthjdopnoophigaaGreatDoor

section
open Go.RowKit
/-- What an operation yields, as long as the world only turns by R. -/
structure SPR (R : World → World → Prop) where
  p : Value → World → Prop
  st : ∀ v w w', p v w → R w w' → p v w'
def SPR.any (R : World → World → Prop) : SPR R := ⟨fun _ _ => True, fun _ _ _ _ _ => trivial⟩
def SPR.eq (R : World → World → Prop) (x : Value) : SPR R := ⟨fun v _ => v = x, fun _ _ _ h _ => h⟩

section
variable (R : World → World → Prop) (P : Program) (Q : Exit → Act → World → Prop) (ops : Array Oper) (A : (Nat → Value) → Act) (w0 : World) (V : List (SPR R))
def ObR (k : Nat) (o : Oper) : Prop :=
  ∀ (vs : Nat → Value) (w : World), R w0 w → (∀ j, depB o j = true → (V.getD j (SPR.any R)).p (vs j) w) → ∀ K : Act → World → Prop,
    RowKit.Hid (∀ v w', (V.getD k (SPR.any R)).p v w' → R w w' → K ((A vs).put o.dst v) w') →
    if Region.wanted o (yielded ops (A vs).tmps) = true then Oper.wp P o (A vs) w K Q else K ((A vs).put o.dst undef) w
def ObsR : List Oper → Nat → Prop
  | [], _ => True
  | o :: r, k => ObR R P Q ops A w0 V k o ∧ ObsR r (k + 1)
theorem ObsR.at : ∀ (r : List Oper) (k m : Nat) (o : Oper), ObsR R P Q ops A w0 V r k → r[m]? = some o → ObR R P Q ops A w0 V (k + m) o
  | [], _, _, _, _, h => by cases h
  | o' :: r, k, 0, o, hO, h => by
    obtain rfl : o' = o := by simpa using h
    exact hO.1
  | o' :: r, k, m + 1, o, hO, h => by
    have := ObsR.at r (k + 1) m o hO.2 (by simpa using h)
    rwa [show k + 1 + m = k + (m + 1) by omega] at this
theorem ObsR.nil {k : Nat} : ObsR R P Q ops A w0 V [] k := trivial
theorem ObsR.cons {o : Oper} {r : List Oper} {k : Nat} (h : ObR R P Q ops A w0 V k o) (t : ObsR R P Q ops A w0 V r (k + 1)) : ObsR R P Q ops A w0 V (o :: r) k := ⟨h, t⟩
end
theorem ready_all {ops : Array Oper} (hb : backB ops.toList 0 = true) {l : Array Bool} (hl : l.size = ops.size) (hr : Region.ready .any ops l = []) : ∀ k, k < ops.size → l.getD k false = true := by
  intro k
  induction k using Nat.strongRecOn with
  | ind k ih =>
    intro hk'
    cases hlk : l.getD k false with
    | true => rfl
    | false =>
      exfalso
      have : k ∈ Region.ready .any ops l := by
        rw [mem_ready]
        refine ⟨?_, ops[k], Array.getElem?_eq_getElem hk', fun e he hx => ?_⟩
        · have : k < l.size := by omega
          simpa [this] using hlk
        · have := back_at ops.toList 0 k ops[k] hb (by simp [hk']) e he hx
          exact ih e.on (by omega) (by omega)
      rw [hr] at this
      cases this

theorem wp_region_rel {P : Program} {id : Nat} {ops : Array Oper} {Q : Exit → Act → World → Prop} {a0 : Act} {w0 : World} (R : World → World → Prop) (htrans : ∀ u v w, R u v → R v w → R u w) (hdrew : R w0 w0.drew)
    (V : List (SPR R)) (A : (Nat → Value) → Act)
    (hm : P.follows .mixedOrders = true) (hd : distinctB ops.toList = true) (hb : backB ops.toList 0 = true) (hA : ∀ vs, puts ops.toList vs 0 a0 = A vs)
    (hob : ObsR R P Q ops A w0 V ops.toList 0)
    (hfin : ∀ vs w, R w0 w → (∀ k, k < ops.size → (V.getD k (SPR.any R)).p (vs k) w) → Q .normal (A vs) w) :
    (Code.region id ops true).wp P Q a0 w0 := by
  refine wp_region_any hm ?_
  refine wpAny_inv (I := fun l a w => l.size = ops.size ∧ ∃ vs, a = A vs ∧ R w0 w ∧ ∀ k, l.getD k false = true → (V.getD k (SPR.any R)).p (vs k) w) (fun l a w h => h.1) ?_ ?_ _ _ _ _ ?_ ?_
  · rintro l a w i ⟨hl, vs, rfl, hw, hk⟩ hi
    obtain ⟨h0, o, ho, hall⟩ := mem_ready.1 hi
    have hO := ObsR.at R P Q ops A w0 V ops.toList 0 i o hob (by simpa using ho)
    rw [Nat.zero_add] at hO
    have hput : ∀ v, (A vs).put o.dst v = A (upd vs i v) := fun v => by
      rw [← hA, ← hA, puts_upd ops.toList vs 0 i a0 o v hd (by simpa using ho), Nat.zero_add]
    have hst := hO vs w hw (fun j hj => by
      unfold depB at hj
      rw [Array.any_eq_true'] at hj
      obtain ⟨e, he, hx⟩ := hj
      rw [Bool.and_eq_true, decide_eq_true_eq] at hx
      obtain ⟨hx, rfl⟩ := hx
      exact hk _ (hall e he hx)) (fun a' w' => (l.setIfInBounds i true).size = ops.size ∧ ∃ vs, a' = A vs ∧ R w0 w' ∧ ∀ k, (l.setIfInBounds i true).getD k false = true → (V.getD k (SPR.any R)).p (vs k) w')
      (by
        intro v w' hv hbw
        refine ⟨by simpa using hl, upd vs i v, hput v, htrans _ _ _ hw hbw, fun k hk' => ?_⟩
        by_cases hki : k = i
        · subst hki
          have e : upd vs k v k = v := by simp [upd]
          rw [e]
          exact hv
        · have e : upd vs i v k = vs k := by unfold upd; rw [if_neg hki]
          rw [e]
          refine (V.getD k (SPR.any R)).st _ _ _ (hk k ?_) hbw
          rwa [getD_set_ne false (Ne.symm hki)] at hk')
    unfold wpOp
    simp only [ho]
    split
    · rename_i hw'
      rw [if_pos hw'] at hst
      exact .inl hst
    · rename_i hw'
      rw [if_neg hw'] at hst
      exact hst
  · rintro l a w ⟨hl, vs, rfl, hw, hk⟩ hr
    exact hfin vs w hw (fun k hk' => hk k (ready_all hb hl hr k hk'))
  · have : ∀ n : Nat, (List.replicate n false).count false = n := fun n => by simp
    simp
  · obtain ⟨vs, hvs⟩ := puts_self ops.toList 0 a0
    refine ⟨by simp, vs, by rw [← hA, hvs], hdrew, fun k hk => ?_⟩
    by_cases h : k < ops.size
    · simp [h] at hk
    · simp [h] at hk

/-- Does operation k wait for j, by way of others too? -/
def reachB (ops : Array Oper) : Nat → Nat → Nat → Bool
  | 0, _, _ => false
  | f + 1, k, j => match ops[k]? with
    | none => false
    | some o => depB o j || (List.range k).any fun m => depB o m && reachB ops f m j
/-- Does the last operation wait for all others? -/
def lastB (ops : Array Oper) (f n : Nat) : Bool := decide (n + 1 = ops.size) && (List.range n).all fun j => reachB ops f n j
theorem dep_done {o : Oper} {l : Array Bool} (h : ∀ e, e ∈ o.after → Region.binds .any e = true → l.getD e.on false = true) {j : Nat} (hj : depB o j = true) : l.getD j false = true := by
  unfold depB at hj
  rw [Array.any_eq_true'] at hj
  obtain ⟨e, he, hx⟩ := hj
  rw [Bool.and_eq_true, decide_eq_true_eq] at hx
  obtain ⟨hx, rfl⟩ := hx
  exact h e he hx
theorem reach_done {ops : Array Oper} {l : Array Bool} (hc : ∀ k o, ops[k]? = some o → l.getD k false = true → ∀ e, e ∈ o.after → Region.binds .any e = true → l.getD e.on false = true) :
    ∀ (f k j : Nat) (o : Oper), ops[k]? = some o → (∀ e, e ∈ o.after → Region.binds .any e = true → l.getD e.on false = true) → reachB ops f k j = true → l.getD j false = true
  | 0, _, _, _, _, _, h => by cases h
  | f + 1, k, j, o, ho, hd, h => by
    rw [reachB, ho] at h
    simp only [Bool.or_eq_true, List.any_eq_true, Bool.and_eq_true] at h
    rcases h with h | ⟨m, _, h1, h2⟩
    · exact dep_done hd h
    · have hm := dep_done hd h1
      cases hom : ops[m]? with
      | none => 
        cases f with
        | zero => cases h2
        | succ f => rw [reachB, hom] at h2; cases h2
      | some o2 => exact reach_done hc f m j o2 hom (hc m o2 hom hm) h2

theorem wp_region_last {P : Program} {id : Nat} {ops : Array Oper} {Q : Exit → Act → World → Prop} {a0 : Act} {w0 : World} (R : World → World → Prop) (htrans : ∀ u v w, R u v → R v w → R u w) (hdrew : R w0 w0.drew)
    (V : List (SPR R)) (A : (Nat → Value) → Act) (n f : Nat) (ol : Oper)
    (hm : P.follows .mixedOrders = true) (hd : distinctB ops.toList = true) (hb : backB ops.toList 0 = true) (hA : ∀ vs, puts ops.toList vs 0 a0 = A vs)
    (hlast : lastB ops f n = true) (hol : ops[n]? = some ol)
    (hob : ObsR R P Q ops A w0 V (ops.toList.take n) 0)
    (hfin : ∀ vs w, R w0 w → (∀ k, k < n → (V.getD k (SPR.any R)).p (vs k) w) →
      if Region.wanted ol (yielded ops (A vs).tmps) = true then Oper.wp P ol (A vs) w (fun a w' => Q .normal a w') Q else Q .normal ((A vs).put ol.dst undef) w) :
    (Code.region id ops true).wp P Q a0 w0 := by
  unfold lastB at hlast
  rw [Bool.and_eq_true, decide_eq_true_eq] at hlast
  obtain ⟨hn, hreach⟩ := hlast
  refine wp_region_any hm ?_
  refine wpAny_inv (I := fun l a w => l.size = ops.size ∧ ((l.getD n false = true ∧ (∀ k, k < ops.size → l.getD k false = true) ∧ Q .normal a w) ∨ (l.getD n false = false ∧ (∀ k o, ops[k]? = some o → l.getD k false = true → ∀ e, e ∈ o.after → Region.binds .any e = true → l.getD e.on false = true) ∧
    ∃ vs, a = A vs ∧ R w0 w ∧ ∀ k, l.getD k false = true → (V.getD k (SPR.any R)).p (vs k) w))) (fun l a w h => h.1) ?_ ?_ _ _ _ _ ?_ ?_
  · rintro l a w i ⟨hl, hI⟩ hi
    obtain ⟨h0, o, ho, hall⟩ := mem_ready.1 hi
    have hlt : i < ops.size := (Array.getElem?_eq_some_iff.1 ho).1
    have hif : l.getD i false = false := by
      have : i < l.size := by omega
      simpa [this] using h0
    rcases hI with ⟨_, hall2, _⟩ | ⟨hnf, hc, vs, rfl, hw, hk⟩
    · rw [hall2 i hlt] at hif
      cases hif
    by_cases hin : i = n
    · subst hin
      obtain rfl : o = ol := by rw [hol] at ho; exact (Option.some.inj ho).symm
      have hdone : ∀ j, j < i → l.getD j false = true := fun j hj => by
        have hr := List.all_eq_true.1 hreach j (List.mem_range.2 hj)
        exact reach_done hc f i j o ho (fun e he hx => hall e he hx) hr
      have hst := hfin vs w hw (fun k hk' => hk k (hdone k hk'))
      have hfin2 : ∀ a' w', Q .normal a' w' → (l.setIfInBounds i true).size = ops.size ∧ (((l.setIfInBounds i true).getD i false = true ∧ (∀ k, k < ops.size → (l.setIfInBounds i true).getD k false = true) ∧ Q .normal a' w') ∨ ((l.setIfInBounds i true).getD i false = false ∧ (∀ k o, ops[k]? = some o → (l.setIfInBounds i true).getD k false = true → ∀ e, e ∈ o.after → Region.binds .any e = true → (l.setIfInBounds i true).getD e.on false = true) ∧
          ∃ vs, a' = A vs ∧ R w0 w' ∧ ∀ k, (l.setIfInBounds i true).getD k false = true → (V.getD k (SPR.any R)).p (vs k) w')) := by
        intro a' w' hq
        have hself : (l.setIfInBounds i true).getD i false = true := by
          have : i < l.size := by omega
          simp [this]
        refine ⟨by simpa using hl, .inl ⟨hself, fun k hk' => ?_, hq⟩⟩
        by_cases hki : k = i
        · subst hki; exact hself
        · rw [getD_set_ne false (Ne.symm hki)]
          exact hdone k (by omega)
      unfold wpOp
      simp only [ho]
      split
      · rename_i hw'
        rw [if_pos hw'] at hst
        exact .inl (Oper.wp_mono (fun a' w' h => hfin2 a' w' h) hst)
      · rename_i hw'
        rw [if_neg hw'] at hst
        exact hfin2 _ _ hst
    · have hi2 : i < n := by omega
      have hO := ObsR.at R P Q ops A w0 V (ops.toList.take n) 0 i o hob (by rw [List.getElem?_take_of_lt hi2]; simpa using ho)
      rw [Nat.zero_add] at hO
      have hput : ∀ v, (A vs).put o.dst v = A (upd vs i v) := fun v => by
        rw [← hA, ← hA, puts_upd ops.toList vs 0 i a0 o v hd (by simpa using ho), Nat.zero_add]
      have hst := hO vs w hw (fun j hj => hk _ (dep_done (fun e he hx => hall e he hx) hj)) (fun a' w' => (l.setIfInBounds i true).size = ops.size ∧ (((l.setIfInBounds i true).getD n false = true ∧ (∀ k, k < ops.size → (l.setIfInBounds i true).getD k false = true) ∧ Q .normal a' w') ∨ ((l.setIfInBounds i true).getD n false = false ∧ (∀ k o, ops[k]? = some o → (l.setIfInBounds i true).getD k false = true → ∀ e, e ∈ o.after → Region.binds .any e = true → (l.setIfInBounds i true).getD e.on false = true) ∧
          ∃ vs, a' = A vs ∧ R w0 w' ∧ ∀ k, (l.setIfInBounds i true).getD k false = true → (V.getD k (SPR.any R)).p (vs k) w')))
        (by
          intro v w' hv hbw
          have hmono : ∀ j, l.getD j false = true → (l.setIfInBounds i true).getD j false = true := fun j hj => by
            by_cases hji : j = i
            · subst hji; rw [hj] at hif; cases hif
            · rw [getD_set_ne false (Ne.symm hji)]; exact hj
          refine ⟨by simpa using hl, .inr ⟨by rw [getD_set_ne false hin]; exact hnf, fun k o' ho' hk' e he hx => ?_, upd vs i v, hput v, htrans _ _ _ hw hbw, fun k hk' => ?_⟩⟩
          · by_cases hki : k = i
            · subst hki
              obtain rfl : o = o' := Option.some.inj (ho.symm.trans ho')
              exact hmono _ (hall e he hx)
            · rw [getD_set_ne false (Ne.symm hki)] at hk'
              exact hmono _ (hc k o' ho' hk' e he hx)
          · by_cases hki : k = i
            · subst hki
              have e : upd vs k v k = v := by simp [upd]
              rw [e]
              exact hv
            · have e : upd vs i v k = vs k := by unfold upd; rw [if_neg hki]
              rw [e]
              refine (V.getD k (SPR.any R)).st _ _ _ (hk k ?_) hbw
              rwa [getD_set_ne false (Ne.symm hki)] at hk')
      unfold wpOp
      simp only [ho]
      split
      · rename_i hw'
        rw [if_pos hw'] at hst
        exact .inl hst
      · rename_i hw'
        rw [if_neg hw'] at hst
        exact hst
  · rintro l a w ⟨hl, hI⟩ hr
    rcases hI with ⟨_, _, hq⟩ | ⟨hnf, _⟩
    · exact hq
    · rw [ready_all hb hl hr n (by omega)] at hnf
      cases hnf
  · simp
  · obtain ⟨vs, hvs⟩ := puts_self ops.toList 0 a0
    have hf : ∀ k, (Array.replicate ops.size false).getD k false = false := fun k => by
      by_cases h : k < ops.size
      · simp [h]
      · simp [h]
    refine ⟨by simp, .inr ⟨hf n, fun k _ _ hk => ?_, vs, by rw [← hA, hvs], hdrew, fun k hk => ?_⟩⟩
    · rw [hf k] at hk; cases hk
    · rw [hf k] at hk; cases hk
end

section
open Go.RowKit Go.PlainAid
theorem rcells14 {w : World} {b : Nat} {c0 c1 c2 c3 c4 : Value} (h : w.heap[b]? = some (.cells #[c0, c1, c2, c3, c4] 33 (0, 0))) :
    (w.cell? ⟨b, 0, none⟩ = some c0 ∧ w.cell? ⟨b, 1, none⟩ = some c1 ∧ w.cell? ⟨b, 2, none⟩ = some c2 ∧ w.cell? ⟨b, 3, none⟩ = some c3 ∧ w.cell? ⟨b, 4, none⟩ = some c4) ∧
    (w.frozen? ⟨b, 0, none⟩ = false ∧ w.frozen? ⟨b, 1, none⟩ = false ∧ w.frozen? ⟨b, 2, none⟩ = false ∧ w.frozen? ⟨b, 3, none⟩ = false ∧ w.frozen? ⟨b, 4, none⟩ = false) := rec_cells h
def setR14 (w : World) (b : Nat) (x0 x1 x2 x3 x4 : Value) : World := ((((w.setCell ⟨b, 0, none⟩ x0).setCell ⟨b, 1, none⟩ x1).setCell ⟨b, 2, none⟩ x2).setCell ⟨b, 3, none⟩ x3).setCell ⟨b, 4, none⟩ x4
theorem setR14_other {w : World} {b : Nat} (x0 x1 x2 x3 x4 : Value) (g : Nat) (hg : g ≠ b) : (setR14 w b x0 x1 x2 x3 x4).heap[g]? = w.heap[g]? := by
  unfold setR14
  rw [heap_setn _ _ _ _ hg, heap_setn _ _ _ _ hg, heap_setn _ _ _ _ hg, heap_setn _ _ _ _ hg, heap_setn _ _ _ _ hg]
theorem setR14_size (w : World) (b : Nat) (x0 x1 x2 x3 x4 : Value) : (setR14 w b x0 x1 x2 x3 x4).heap.size = w.heap.size := by
  unfold setR14
  simp [World.setCell]
def SPR.cl14 (f : Fld) (N : Nat) : SPR (fun u v => Below u.heap.size u v) := ⟨fun v w => ∃ v', v = FV f v' ∧ SB N v' f.subs w ∧ N ≤ w.heap.size, fun _ _ _ h hb => by
  obtain ⟨v', h1, h2, h3⟩ := h
  exact ⟨v', h1, h2.after hb, Nat.le_trans h3 hb.size⟩⟩
def SPR.ch14 (c : Fld → Fld) (f : Fld) (N : Nat) : SPR (fun u v => Below u.heap.size u v) := ⟨fun v w => ∃ u', v = FV (c f) u' ∧ New N (QL u' (c f).subs) w, fun _ _ _ h hb => by
  obtain ⟨v', h1, h2⟩ := h
  exact ⟨v', h1, h2.after hb⟩⟩

set_option maxHeartbeats 16000000 in
set_option maxRecDepth 100000 in
theorem changed_any (c : Fld → Fld) (F : Nat) (caps : Array Value) (r : Rec) (u : Value) (w : World) (hu : FL u r.fields w) (hz : r.fields.length ≤ 100000) (hsz : ∀ f ∈ r.fields, f.subs.length ≤ 100000)
    (hEn : ∀ (args : Array Value) (W : World), (callFunc F args).run Tryz.prog W = .ok (.enter F args) W)
    (hF : ∀ f ∈ r.fields, ∀ (v : Value) (N : Nat) (W : World), Below w.heap.size w W → SB N v f.subs W → w.heap.size ≤ N → N ≤ W.heap.size →
      Calls Tryz.prog F (#[FV f v] ++ caps) W fun e W' => ∃ u', e = .returned (FV (c f) u') ∧ New N (QL u' (c f).subs) W' ∧ Below W.heap.size W W') :
    Calls Tryz.prog 46 #[RV r u, .func (.func F) #[] caps] w fun e w' => ∃ v', e = .returned (RV (mapRec c r) v') ∧ New w.heap.size (FL v' (r.fields.map c)) w' ∧ Below w.heap.size w w' := by
  obtain ⟨Q, hQ⟩ : ∃ Q, (fun (e : Ending) (w' : World) => ∃ v', e = .returned (RV (mapRec c r) v') ∧ New w.heap.size (FL v' (r.fields.map c)) w' ∧ Below w.heap.size w w') = Q := ⟨_, rfl⟩
  rw [hQ]
  have HQ : RowKit.Hid (∀ v' W, New w.heap.size (FL v' (r.fields.map c)) W → Below w.heap.size w W → Q (.returned (RV (mapRec c r) v')) W) := by
    rw [← hQ]
    exact fun v' W h1 h2 => ⟨v', rfl, h1, h2⟩
  have HS := Lib.hid hsz
  have HF := Lib.hid hF
  have HEn := Lib.hid hEn
  clear hEn
  obtain ⟨a, cp0, hua, hcap, hmax⟩ := hu.length
  obtain ⟨L, hL⟩ : ∃ L, r.fields = L := ⟨_, rfl⟩
  obtain ⟨W0, hW0⟩ : ∃ W0, (w.alloc (.cells #[.int .i64 r.id, .int .i64 r.ver, .int .i64 r.kind, .string (S r.lang), u] 33)).alloc (.cells #[.int .i64 0, .int .i64 0, .int .i64 0, .string ⟨#[]⟩, .slice none 0 0] 33) = W0 := ⟨_, rfl⟩
  have b0 : Below w.heap.size w W0 := by rw [← hW0]; exact ((Below.refl w.heap.size w).alloc (Nat.le_refl _) _).alloc (by simp) _
  have hsz0 : W0.heap.size = w.heap.size + 2 := by rw [← hW0]; simp
  have hX : W0.heap[w.heap.size]? = some (.cells #[.int .i64 r.id, .int .i64 r.ver, .int .i64 r.kind, .string (S r.lang), u] 33 (0, 0)) := by
    rw [← hW0]
    exact (Below.heap_alloc _ _ _ (by simp)).trans (heap_alloc_new w _)
  have hR : W0.heap[w.heap.size + 1]? = some (.cells #[.int .i64 0, .int .i64 0, .int .i64 0, .string ⟨#[]⟩, .slice none 0 0] 33 (0, 0)) := by
    rw [← hW0]
    have := heap_alloc_new (w.alloc (.cells #[.int .i64 r.id, .int .i64 r.ver, .int .i64 r.kind, .string (S r.lang), u] 33)) (.cells #[.int .i64 0, .int .i64 0, .int .i64 0, .string ⟨#[]⟩, .slice none 0 0] 33)
    simpa using this
  have cK := Lib.hid (fclone_any w r.fields u W0 b0 hu hz)
  rw [hsz0] at cK
  have HW0 := Lib.hid hW0
  have HX := Lib.hid (fun (W : World) (h : Below (w.heap.size + 2) W0 W) => (h.block w.heap.size (by omega)).trans hX)
  have HR := Lib.hid (fun (W : World) (h : Below (w.heap.size + 2) W0 W) => (h.block (w.heap.size + 1) (by omega)).trans hR)
  have HB0 := Lib.hid b0
  have HSz := Lib.hid hsz0
  have k4 : W0.cell? ⟨w.heap.size, 4, none⟩ = some u := (rcells14 hX).1.2.2.2.2
  have hRV : RV (mapRec c r) = fun v' => .agg #[.int .i64 r.id, .int .i64 r.ver, .int .i64 r.kind, .string (S r.lang), v'] := rfl
  rw [hRV] at HQ
  unfold RV
  rw [hL] at HS HF cK hcap HQ hz hua
  clear hQ hu hsz hF hW0 hX hR b0 hsz0 hRV
  obtain ⟨n, hn⟩ : ∃ n, L.length = n := ⟨_, rfl⟩
  have HN := Lib.hid hn
  rw [hn] at hcap hz hua
  clear hn
  generalize S r.lang = lg at *
  generalize r.id = rid at *
  generalize r.ver = rver at *
  generalize r.kind = rkind at *
  subst hua
  go_enter Tryz.func46, Tryz.ntmps46
  go_upto_region 1 with fail
  rw [HW0.out]
  go_wp2_with fail
  refine cK.out.mono ?_
  rintro e w1 ⟨v, rfl, hfq, hb1⟩
  have hX1 := HX.out w1 hb1
  have hR1 := HR.out w1 hb1
  obtain ⟨⟨x0, x1, x2, x3, x4⟩, f0, f1, f2, f3, f4⟩ := rcells14 hX1
  have HSz1 : RowKit.Hid (w.heap.size + 2 ≤ w1.heap.size) := by have := hb1.size; have := HSz.out; unfold RowKit.Hid; omega
  have HB1 : RowKit.Hid (Below w.heap.size w (w1.setCell ⟨w.heap.size, 4, none⟩ v)) := (HB0.out.trans (hb1.mono (by omega))).setCell (p := ⟨w.heap.size, 4, none⟩) (Nat.le_refl _) _
  have HC1 : RowKit.Hid (CH w (w.heap.size + 2) v c L 0 (w1.setCell ⟨w.heap.size, 4, none⟩ v)) := (CH.start hfq).on (by simp [World.setCell]) (fun i hi _ => heap_setn _ _ _ _ (by simp; omega))
  have HX1 : RowKit.Hid ((w1.setCell ⟨w.heap.size, 4, none⟩ v).heap[w.heap.size]? = some (.cells #[.int .i64 rid, .int .i64 rver, .int .i64 rkind, .string lg, v] 33 (0, 0))) := by
    unfold RowKit.Hid
    simp [World.setCell, Array.getElem?_modify, hX1]
  have HR1 : RowKit.Hid ((w1.setCell ⟨w.heap.size, 4, none⟩ v).heap[w.heap.size + 1]? = some (.cells #[.int .i64 0, .int .i64 0, .int .i64 0, .string ⟨#[]⟩, .slice none 0 0] 33 (0, 0))) :=
    (heap_setn _ _ _ _ (by simp)).trans hR1
  obtain ⟨ao, cp, hv⟩ := HC1.out.form
  rw [HN.out] at hv
  subst hv
  clear hfq hb1 hX1 hR1 cK k4
  go_upto_region 2 with fail
  obtain ⟨w2, hw2⟩ : ∃ w2, w1.setCell ⟨w.heap.size, 4, none⟩ (.slice ao n cp) = w2 := ⟨_, rfl⟩
  rw [hw2] at HC1 HB1 HX1 HR1 ⊢
  have hs2 : w1.heap.size = w2.heap.size := by rw [← hw2]; simp [World.setCell]
  rw [hs2] at HSz1
  clear x0 x1 x2 x3 x4 f0 f1 f2 f3 f4 hw2 hs2
  have y4 : w2.cell? ⟨w.heap.size, 4, none⟩ = some (.slice ao n cp) := (rcells14 HX1.out).1.2.2.2.2
  go_wp2
  clear y4
  go_loopw [14] (fun s14 wr => ∃ k : Nat, s14 = .int .i64 (k : Int) ∧ k ≤ n ∧ RowKit.Hid (CH w (w.heap.size + 2) (.slice ao n cp) c L k wr) ∧ RowKit.Hid (wr.heap[w.heap.size]? = some (.cells #[.int .i64 rid, .int .i64 rver, .int .i64 rkind, .string lg, .slice ao n cp] 33 (0, 0))) ∧
    RowKit.Hid (wr.heap[w.heap.size + 1]? = some (.cells #[.int .i64 0, .int .i64 0, .int .i64 0, .string ⟨#[]⟩, .slice none 0 0] 33 (0, 0))) ∧ RowKit.Hid (Below w.heap.size w wr ∧ w.heap.size + 2 ≤ wr.heap.size)) (fun s14 _ => n - (intOf s14).toNat)
  case atStart => exact ⟨0, rfl, Nat.zero_le _, HC1.out, HX1.out, HR1.out, HB1.out, HSz1.out⟩
  case round =>
    obtain ⟨k, rfl, hk, HC, HX, HR, HB⟩ := hrel
    clear HC1 HX1 HR1 HB1 HSz1
    by_cases hkn : k < n
    · have i1 : (0 : Int) ≤ (k : Int) := by omega
      have i2 : (k : Int) < (n : Int) := by omega
      obtain ⟨g, cap, ux0, hv, hg1, hg2, hc1, hc2, ⟨c0, c1, c2, c3⟩, hfz, hq⟩ := HC.out.open (by rw [HN.out]; exact hkn)
      rw [HN.out] at hv
      obtain ⟨rfl, -, rfl⟩ := Value.slice.inj hv
      obtain ⟨ux, cx, hux, hx1, hx2⟩ := hq.length
      have hmem : L.getD k fd0 ∈ L := by
        rw [List.getD_eq_getElem?_getD, List.getElem?_eq_getElem (by rw [HN.out]; exact hkn)]
        exact List.getElem_mem _
      obtain ⟨f, hf⟩ : ∃ f, L.getD k fd0 = f := ⟨_, rfl⟩
      have HPut := Lib.hid (fun (W : World) (h : CH w (w.heap.size + 2) (.slice (some ⟨g, 0, none⟩) n cp) c L k W) (u : Value) (N : Nat) (hu : New N (QL u (c (L.getD k fd0)).subs) W) (h1 : g < N) (h2 : w.heap.size + 2 ≤ N) => CH.put h HN.out hkn u hu h1 h2)
      rw [hf] at c0 c1 c3 hq hux hmem HPut
      obtain ⟨wb, hwb⟩ : ∃ W, wr.alloc (.cells #[.string (S f.tag), .string (S f.ind), ux0, .int .i64 f.auth] 24) = W := ⟨_, rfl⟩
      have bb : Below wr.heap.size wr wb := by rw [← hwb]; exact (Below.refl _ _).alloc (Nat.le_refl _) _
      have hFx : wb.heap[wr.heap.size]? = some (.cells #[.string (S f.tag), .string (S f.ind), ux0, .int .i64 f.auth] 24 (0, 0)) := by rw [← hwb]; exact heap_alloc_new wr _
      have hsb : wb.heap.size = wr.heap.size + 1 := by rw [← hwb]; simp
      have HBb : RowKit.Hid (Below w.heap.size w wb) := HB.out.1.trans (bb.mono HB.out.1.size)
      have HCb : RowKit.Hid (CH w (w.heap.size + 2) (.slice (some ⟨g, 0, none⟩) n cp) c L k wb) := HC.out.after bb
      have HBox := Lib.hid (fun (W : World) (h : Below wb.heap.size wb W) => (h.block w.heap.size (by have := HB.out.2; omega)).trans ((bb.block w.heap.size (by have := HB.out.2; omega)).trans HX.out))
      have HRes := Lib.hid (fun (W : World) (h : Below wb.heap.size wb W) => (h.block (w.heap.size + 1) (by have := HB.out.2; omega)).trans ((bb.block (w.heap.size + 1) (by have := HB.out.2; omega)).trans HR.out))
      have HFx := Lib.hid (fun (W : World) (h : Below wb.heap.size wb W) => (h.block wr.heap.size (by omega)).trans hFx)
      have cC := Lib.hid (fun (W : World) (h : Below wb.heap.size wb W) => pclone_any f ux0 W (hq.after (HBb.out.trans (h.mono HBb.out.size))) (HS.out f hmem))
      have cF := Lib.hid (fun (v : Value) (W : World) (h : Below wb.heap.size wb W) (hs : SB wb.heap.size v f.subs W) (hN : wb.heap.size ≤ W.heap.size) => HF.out f hmem v wb.heap.size W (HBb.out.trans (h.mono HBb.out.size)) hs HBb.out.size hN)
      have HG : RowKit.Hid (g < wb.heap.size ∧ w.heap.size + 2 ≤ wb.heap.size ∧ w.heap.size + 2 ≤ g) := ⟨by omega, by have := HB.out.2; omega, hg1⟩
      have HWb := Lib.hid hwb
      subst hux
      have hux : ∀ v', FV f v' = .agg #[.string (S f.tag), .string (S f.ind), v', .int .i64 f.auth] := fun _ => rfl
      rw [hux] at cC
      obtain ⟨nx, hnx⟩ : ∃ nx, f.subs.length = nx := ⟨_, rfl⟩
      rw [hnx] at c2 hwb HWb HFx cC
      obtain ⟨bx, hbx⟩ : ∃ b, wr.heap.size = b := ⟨_, rfl⟩
      rw [hbx] at HFx
      clear hv hq hux hx1 hx2 hmem hf hwb hFx hsb hfz hnx hg1 hg2 hc1 hc2 bb HC HX HR
      go_upto_region 5 with fail
      rw [HWb.out]
      try rw [hbx]
      clear c0 c1 c2 c3 HWb
      apply wp_region_last (R := fun u v => Below u.heap.size u v) (V := [SPR.eq _ (.pointer (some ⟨w.heap.size, 4, none⟩)), SPR.eq _ (.slice (some ⟨g, 0, none⟩) n cp), SPR.eq _ (.int .i64 (k : Int)), SPR.eq _ (.func (.func F) #[] caps), SPR.eq _ (.agg #[.string (S f.tag), .string (S f.ind), .slice ux nx cx, .int .i64 f.auth]), SPR.cl14 f wb.heap.size, SPR.ch14 c f wb.heap.size, SPR.eq _ (.pointer (some ⟨g, k * 4, none⟩))]) (n := 8) (f := 10)
      case htrans => exact fun _ _ _ h k => h.trans (k.mono h.size)
      case hdrew => exact (Below.refl _ _).drew
      case hm => kernel_rfl
      case hd => kernel_rfl
      case hb => kernel_rfl
      case hA =>
        intro vs
        simp only [puts, Act.put, List.setIfInBounds_toArray, List.set_cons_zero, List.set_cons_succ]
        exact rfl
      case hlast => kernel_rfl
      case hol => exact rfl
      case hob =>
        refine ObsR.cons _ _ _ _ _ _ _ ?o0 (ObsR.cons _ _ _ _ _ _ _ ?o1 (ObsR.cons _ _ _ _ _ _ _ ?o2 (ObsR.cons _ _ _ _ _ _ _ ?o3 (ObsR.cons _ _ _ _ _ _ _ ?o4 (ObsR.cons _ _ _ _ _ _ _ ?o5 (ObsR.cons _ _ _ _ _ _ _ ?o6 (ObsR.cons _ _ _ _ _ _ _ ?o7 (ObsR.nil _ _ _ _ _ _ _))))))))
        case o0 =>
          intro vs W hw hd K hK
          go_simp
          exact hK.out _ _ rfl (Below.refl _ _)
        case o1 =>
          intro vs W hw hd K hK
          have h0 : vs 0 = .pointer (some ⟨w.heap.size, 4, none⟩) := hd 0 (by kernel_rfl)
          obtain ⟨⟨b40, b41, b42, b43, b44⟩, -⟩ := rcells14 (HBox.out W hw)
          simp only [Nat.reduceAdd, h0] at hK ⊢
          go_simp
          exact hK.out _ _ rfl (Below.refl _ _)
        case o2 =>
          intro vs W hw hd K hK
          go_simp
          exact hK.out _ _ rfl (Below.refl _ _)
        case o3 =>
          intro vs W hw hd K hK
          go_simp
          exact hK.out _ _ rfl (Below.refl _ _)
        case o4 =>
          intro vs W hw hd K hK
          obtain ⟨⟨p0, p1, p2, p3⟩, -⟩ := fcells4 (HFx.out W hw)
          go_simp
          exact hK.out _ _ rfl (Below.refl _ _)
        case o5 =>
          intro vs W hw hd K hK
          have h4 : vs 4 = .agg #[.string (S f.tag), .string (S f.ind), .slice ux nx cx, .int .i64 f.auth] := hd 4 (by kernel_rfl)
          simp only [Nat.reduceAdd, h4] at hK ⊢
          go_simp
          refine (cC.out W hw).mono ?_
          rintro e W' ⟨v', rfl, hs, hb'⟩
          exact hK.out _ _ ⟨v', rfl, hs.base (by have := hw.size; omega), by have := hb'.size; have := hw.size; omega⟩ hb'
        case o6 =>
          intro vs W hw hd K hK
          have h3 : vs 3 = .func (.func F) #[] caps := hd 3 (by kernel_rfl)
          obtain ⟨v', e5, hs5, hN5⟩ : ∃ v', vs 5 = FV f v' ∧ SB wb.heap.size v' f.subs W ∧ wb.heap.size ≤ W.heap.size := hd 5 (by kernel_rfl)
          simp only [Nat.reduceAdd, h3, e5] at hK ⊢
          go_simp
          rw [HEn.out, Oper.upon_enter]
          refine (cF.out v' W hw hs5 hN5).mono ?_
          rintro e W' ⟨u', rfl, hn, hb'⟩
          exact hK.out _ _ ⟨u', rfl, hn⟩ hb'
        case o7 =>
          intro vs W hw hd K hK
          have h1 : vs 1 = .slice (some ⟨g, 0, none⟩) n cp := hd 1 (by kernel_rfl)
          have h2 : vs 2 = .int .i64 (k : Int) := hd 2 (by kernel_rfl)
          simp only [Nat.reduceAdd, h1, h2] at hK ⊢
          go_simp
          exact hK.out _ _ rfl (Below.refl _ _)
      case hfin =>
        intro vs W hw hv'
        obtain ⟨u', e6, hn6⟩ : ∃ u', vs 6 = FV (c f) u' ∧ New wb.heap.size (QL u' (c f).subs) W := hv' 6 (by decide)
        have e7 : vs 7 = .pointer (some ⟨g, k * 4, none⟩) := hv' 7 (by decide)
        have hCW := HCb.out.after hw
        obtain ⟨au, cu, hu', -, -⟩ := hn6.here.length
        obtain ⟨g', cap', ux', hv2, -, -, -, -, ⟨d0, d1, d2, d3⟩, hfz, -⟩ := hCW.open (by rw [HN.out]; exact hkn)
        rw [HN.out] at hv2
        obtain ⟨hgg, -, -⟩ := Value.slice.inj hv2
        obtain rfl : g = g' := by simpa using hgg
        have z0 := hfz (k * 4)
        have z1 := hfz (k * 4 + 1)
        have z2 := hfz (k * 4 + 2)
        have z3 := hfz (k * 4 + 3)
        have HP := Lib.hid (HPut.out W hCW u' wb.heap.size hn6 HG.out.1 HG.out.2.1)
        have HXP : RowKit.Hid ((setF4at W g (k * 4) (.string (S (c f).tag)) (.string (S (c f).ind)) u' (.int .i64 (c f).auth)).heap[w.heap.size]? = some (.cells #[.int .i64 rid, .int .i64 rver, .int .i64 rkind, .string lg, .slice (some ⟨g, 0, none⟩) n cp] 33 (0, 0))) :=
          (setF4at_other _ _ _ _ _ (by have := HG.out.2.2; omega)).trans (HBox.out W hw)
        have HRP : RowKit.Hid ((setF4at W g (k * 4) (.string (S (c f).tag)) (.string (S (c f).ind)) u' (.int .i64 (c f).auth)).heap[w.heap.size + 1]? = some (.cells #[.int .i64 0, .int .i64 0, .int .i64 0, .string ⟨#[]⟩, .slice none 0 0] 33 (0, 0))) :=
          (setF4at_other _ _ _ _ _ (by have := HG.out.2.2; omega)).trans (HRes.out W hw)
        have HBP : RowKit.Hid (Below w.heap.size w (setF4at W g (k * 4) (.string (S (c f).tag)) (.string (S (c f).ind)) u' (.int .i64 (c f).auth)) ∧ w.heap.size + 2 ≤ (setF4at W g (k * 4) (.string (S (c f).tag)) (.string (S (c f).ind)) u' (.int .i64 (c f).auth)).heap.size) :=
          ⟨setF4at_below (HBb.out.trans (hw.mono HBb.out.size)) (by have := HG.out.2.2; omega) _ _ _ _ _, by rw [setF4at_size]; have := HG.out.2.1; have := hw.size; omega⟩
        unfold FV at e6
        subst hu'
        unfold setF4at at HP HXP HRP HBP
        clear hv' hCW hv2 hgg hfz hn6 cC cF HPut HBox HRes HFx HCb
        simp only [Nat.reduceAdd, e6, e7]
        go_simp
        go_wp2
        go_roundw
        case rel => exact ⟨k + 1, by go_num, by omega, HP.out, HXP.out, HRP.out, HBP.out⟩
        case measure => simp [intOf]; omega
    · obtain rfl : k = n := by omega
      have hfn : CH w (w.heap.size + 2) (.slice ao k cp) c L L.length wr := by rw [HN.out]; exact HC.out
      have hfn2 := hfn.fn
      obtain ⟨⟨x0, x1, x2, x3, x4⟩, f0, f1, f2, f3, f4⟩ := rcells14 HX.out
      obtain ⟨⟨r0, r1, r2, r3, r4⟩, s0, s1, s2, s3, s4⟩ := rcells14 HR.out
      have HFin : RowKit.Hid ((setR14 wr (w.heap.size + 1) (.int .i64 rid) (.int .i64 rver) (.int .i64 rkind) (.string lg) (.slice ao k cp)).heap[w.heap.size + 1]? = some (.cells #[.int .i64 rid, .int .i64 rver, .int .i64 rkind, .string lg, .slice ao k cp] 33 (0, 0))) := rec_set HR.out
      have HBF : RowKit.Hid (Below w.heap.size w (setR14 wr (w.heap.size + 1) (.int .i64 rid) (.int .i64 rver) (.int .i64 rkind) (.string lg) (.slice ao k cp))) := rec_below HB.out.1 (Nat.le_succ _) _ _ _ _ _
      have HNF : RowKit.Hid (New w.heap.size (FL (.slice ao k cp) (L.map c)) (setR14 wr (w.heap.size + 1) (.int .i64 rid) (.int .i64 rver) (.int .i64 rkind) (.string lg) (.slice ao k cp))) :=
        (hfn2.on (Nat.le_of_eq (setR14_size _ _ _ _ _ _ _).symm) (fun i hi _ => setR14_other _ _ _ _ _ i (by omega))).new.mono (by omega)
      have HGood := Lib.hid (HQ.out _ _ HNF.out HBF.out)
      unfold setR14 at HFin HGood
      clear hfn hfn2 HC HX HR HB HNF HBF HQ
      go_wp2
      (try simp only [Exit.inBlock, Exit.then])
      refine bodyPost_ret (results_cell_row rfl _ _ (w.heap.size + 1) _ _ _ _ rfl HFin.out Tryz.underlying33 rfl (by kernel_rfl)) rfl ?_
      exact HGood.out
end

section
open Go.RowKit Go.PlainAid
set_option maxHeartbeats 8000000 in
set_option maxRecDepth 100000 in
theorem turnF_any (a b : Int) (ba bb : Nat) (f : Fld) (v : Value) (N : Nat) (W : World) (hs : SB N v f.subs W) (_hN : N ≤ W.heap.size) (ha : W.heap[ba]? = some (.cells #[.int .i64 a] 3 (0, 0))) (hb : W.heap[bb]? = some (.cells #[.int .i64 b] 3 (0, 0))) :
    Calls Tryz.prog 44 #[FV f v, .pointer (some ⟨ba, 0, none⟩), .pointer (some ⟨bb, 0, none⟩)] W fun e W' => ∃ u', e = .returned (FV (turnX a b f) u') ∧ New N (QL u' (turnX a b f).subs) W' ∧ Below W.heap.size W W' := by
  obtain ⟨Q, hQ⟩ : ∃ Q, (fun (e : Ending) (W' : World) => ∃ u', e = .returned (FV (turnX a b f) u') ∧ New N (QL u' (turnX a b f).subs) W' ∧ Below W.heap.size W W') = Q := ⟨_, rfl⟩
  rw [hQ]
  have hsub : (turnX a b f).subs = f.subs := by unfold turnX; split <;> rfl
  have htag : (turnX a b f).tag = f.tag := by unfold turnX; split <;> rfl
  have hind : (turnX a b f).ind = f.ind := by unfold turnX; split <;> rfl
  have haut : (turnX a b f).auth = if 0 < a ∧ f.auth = a then b else f.auth := by unfold turnX; split <;> rfl
  obtain ⟨W0, hW0⟩ : ∃ W0, (W.alloc (.cells #[.string (S f.tag), .string (S f.ind), v, .int .i64 f.auth] 24)).alloc (.cells #[.string ⟨#[]⟩, .string ⟨#[]⟩, .slice none 0 0, .int .i64 0] 24) = W0 := ⟨_, rfl⟩
  have b0 : Below W.heap.size W W0 := by rw [← hW0]; exact ((Below.refl W.heap.size W).alloc (Nat.le_refl _) _).alloc (by simp) _
  have hF : W0.heap[W.heap.size]? = some (.cells #[.string (S f.tag), .string (S f.ind), v, .int .i64 f.auth] 24 (0, 0)) := by
    rw [← hW0]
    exact (Below.heap_alloc _ _ _ (by simp)).trans (heap_alloc_new W _)
  have hR : W0.heap[W.heap.size + 1]? = some (.cells #[.string ⟨#[]⟩, .string ⟨#[]⟩, .slice none 0 0, .int .i64 0] 24 (0, 0)) := by
    rw [← hW0]
    have := heap_alloc_new (W.alloc (.cells #[.string (S f.tag), .string (S f.ind), v, .int .i64 f.auth] 24)) (.cells #[.string ⟨#[]⟩, .string ⟨#[]⟩, .slice none 0 0, .int .i64 0] 24)
    simpa using this
  have hla : ba < W.heap.size := (Array.getElem?_eq_some_iff.1 ha).1
  have hlb : bb < W.heap.size := (Array.getElem?_eq_some_iff.1 hb).1
  have ka : W0.cell? ⟨ba, 0, none⟩ = some (.int .i64 a) := by rw [Lib.cell_of_heap ((b0.block ba hla).trans ha)]; rfl
  have kb : W0.cell? ⟨bb, 0, none⟩ = some (.int .i64 b) := by rw [Lib.cell_of_heap ((b0.block bb hlb).trans hb)]; rfl
  obtain ⟨ao, cp, hv⟩ := hs.form
  obtain ⟨⟨p0, p1, p2, p3⟩, q0, q1, q2, q3⟩ := fcells4 hF
  obtain ⟨⟨r0, r1, r2, r3⟩, s0, s1, s2, s3⟩ := fcells4 hR
  have HQ : RowKit.Hid (∀ x W1, x = (turnX a b f).auth → (W1 = W0 ∨ W1 = W0.setCell ⟨W.heap.size, 3, none⟩ (.int .i64 x)) →
      (setF4 W1 (W.heap.size + 1) (.string (S f.tag)) (.string (S f.ind)) v (.int .i64 x)).heap[W.heap.size + 1]? = some (.cells #[.string (S f.tag), .string (S f.ind), v, .int .i64 x] 24 (0, 0)) ∧
      Q (.returned (.agg #[.string (S f.tag), .string (S f.ind), v, .int .i64 x])) (setF4 W1 (W.heap.size + 1) (.string (S f.tag)) (.string (S f.ind)) v (.int .i64 x))) := by
    rintro x W1 rfl hW1
    have hR1 : W1.heap[W.heap.size + 1]? = some (.cells #[.string ⟨#[]⟩, .string ⟨#[]⟩, .slice none 0 0, .int .i64 0] 24 (0, 0)) := by
      rcases hW1 with rfl | rfl
      · exact hR
      · exact (heap_setn _ _ _ _ (by simp)).trans hR
    have hb1 : Below W.heap.size W W1 := by
      rcases hW1 with rfl | rfl
      · exact b0
      · exact b0.setCell (p := ⟨W.heap.size, 3, none⟩) (Nat.le_refl _) _
    have hs1 : SB N v f.subs (setF4 W1 (W.heap.size + 1) (.string (S f.tag)) (.string (S f.ind)) v (.int .i64 (turnX a b f).auth)) :=
      hs.kept (fun i _ hl => (setF4_other _ _ _ _ i (by omega)).trans (hb1.block i hl))
    refine ⟨setF4_heap hR1, ?_⟩
    rw [← hQ]
    refine ⟨v, ?_, by rw [hsub]; exact hs1.new, setF4_below hb1 (Nat.le_succ _) _ _ _ _⟩
    unfold FV
    rw [htag, hind]
  have HX := Lib.hid haut
  have HW0 := Lib.hid hW0
  unfold FV
  subst hv
  clear hQ hsub htag hind haut hW0 hF hR b0 ha hb hs
  generalize f.subs.length = n at *
  generalize S f.tag = t0 at *
  generalize S f.ind = t1 at *
  generalize (turnX a b f).auth = res at *
  generalize f.auth = t3 at *
  unfold setF4 at HQ
  go_enter Tryz.func44, Tryz.ntmps44
  go_upto_region 1 with fail
  rw [HW0.out]
  by_cases h1 : 1 ≤ a
  · have d1 : decide (1 ≤ a) = true := decide_eq_true h1
    by_cases h2 : t3 = a
    · have d2 : (t3 == a) = true := by simpa using h2
      have hx := HX.out
      rw [if_pos ⟨by omega, h2⟩] at hx
      subst hx
      obtain ⟨hfin, hg⟩ := HQ.out _ _ rfl (.inr rfl)
      have HFin := Lib.hid hfin
      have HG := Lib.hid hg
      clear HQ HX h1 h2 hfin hg HW0
      go_wp2
      (try simp only [Exit.inBlock, Exit.then])
      refine bodyPost_ret (results_cell_row rfl _ _ (W.heap.size + 1) _ _ _ _ rfl HFin.out Tryz.underlying24 rfl (by kernel_rfl)) rfl ?_
      exact HG.out
    · have d2 : (t3 == a) = false := by simpa using h2
      have hx := HX.out
      rw [if_neg (fun h => h2 h.2)] at hx
      subst hx
      obtain ⟨hfin, hg⟩ := HQ.out _ _ rfl (.inl rfl)
      have HFin := Lib.hid hfin
      have HG := Lib.hid hg
      clear HQ HX h1 h2 hfin hg HW0
      go_wp2
      (try simp only [Exit.inBlock, Exit.then])
      refine bodyPost_ret (results_cell_row rfl _ _ (W.heap.size + 1) _ _ _ _ rfl HFin.out Tryz.underlying24 rfl (by kernel_rfl)) rfl ?_
      exact HG.out
  · have d1 : decide (1 ≤ a) = false := decide_eq_false h1
    have hx := HX.out
    rw [if_neg (fun h => h1 (by omega))] at hx
    subst hx
    obtain ⟨hfin, hg⟩ := HQ.out _ _ rfl (.inl rfl)
    have HFin := Lib.hid hfin
    have HG := Lib.hid hg
    clear HQ HX h1 hfin hg HW0
    go_wp2
    (try simp only [Exit.inBlock, Exit.then])
    refine bodyPost_ret (results_cell_row rfl _ _ (W.heap.size + 1) _ _ _ _ rfl HFin.out Tryz.underlying24 rfl (by kernel_rfl)) rfl ?_
    exact HG.out
theorem enter_turn (args : Array Value) (W : World) : (callFunc 44 args).run Tryz.prog W = .ok (.enter 44 args) W := by kernel_rfl
theorem enter_link (args : Array Value) (W : World) : (callFunc 61 args).run Tryz.prog W = .ok (.enter 61 args) W := by kernel_rfl
theorem enter_follow (args : Array Value) (W : World) : (callFunc 63 args).run Tryz.prog W = .ok (.enter 63 args) W := by kernel_rfl
end

end Go.Proofs.YthjdopnoophigaaGreatDoor
