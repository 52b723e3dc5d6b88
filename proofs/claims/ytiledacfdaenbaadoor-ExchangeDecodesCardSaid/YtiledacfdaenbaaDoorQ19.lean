/- Merged: RegRel, BX10, PD10. -/
import Derived.Test.YtiledacfdaenbaaDoorQ14
import Derived.Test.YtiledacfdaenbaaDoorQ18
import Derived.Lib.FrozenHead2
import Derived.Lib.UnsafeStr
import Derived.RegionTactic
import Derived.BigRegion
namespace Go.Proofs.YtiledacfdaenbaaDoor

section
open Go.RowKit
/-- What an operation yields, as long as the world only turns by R. -/
structure SPR (R : World → World → Prop) where
  p : Value → World → Prop
  st : ∀ v w w', p v w → R w w' → p v w'
def SPR.any (R : World → World → Prop) : SPR R := ⟨fun _ _ => True, fun _ _ _ _ _ => trivial⟩
def SPR.eq (R : World → World → Prop) (x : Value) : SPR R := ⟨fun v _ => v = x, fun _ _ _ h _ => h⟩

section
variable (R : World → World → Prop) (P : Program) (Q : Exit → Act → World → Prop) (ops : Array Oper) (A : (Nat → Value) → Act) (w0 : World) (V : List (SPR R))
def ObR (k : Nat) (o : Oper) : Prop :=
  ∀ (vs : Nat → Value) (w : World), R w0 w → (∀ j, depB o j = true → (V.getD j (SPR.any R)).p (vs j) w) → ∀ K : Act → World → Prop,
    RowKit.Hid (∀ v w', (V.getD k (SPR.any R)).p v w' → R w w' → K ((A vs).put o.dst v) w') →
    if Region.wanted o (yielded ops (A vs).tmps) = true then Oper.wp P o (A vs) w K Q else K ((A vs).put o.dst undef) w
def ObsR : List Oper → Nat → Prop
  | [], _ => True
  | o :: r, k => ObR R P Q ops A w0 V k o ∧ ObsR r (k + 1)
theorem ObsR.at : ∀ (r : List Oper) (k m : Nat) (o : Oper), ObsR R P Q ops A w0 V r k → r[m]? = some o → ObR R P Q ops A w0 V (k + m) o
  | [], _, _, _, _, h => by cases h
  | o' :: r, k, 0, o, hO, h => by
    obtain rfl : o' = o := by simpa using h
    exact hO.1
  | o' :: r, k, m + 1, o, hO, h => by
    have := ObsR.at r (k + 1) m o hO.2 (by simpa using h)
    rwa [show k + 1 + m = k + (m + 1) by omega] at this
theorem ObsR.nil {k : Nat} : ObsR R P Q ops A w0 V [] k := trivial
theorem ObsR.cons {o : Oper} {r : List Oper} {k : Nat} (h : ObR R P Q ops A w0 V k o) (t : ObsR R P Q ops A w0 V r (k + 1)) : ObsR R P Q ops A w0 V (o :: r) k := ⟨h, t⟩
end
theorem ready_all {ops : Array Oper} (hb : backB ops.toList 0 = true) {l : Array Bool} (hl : l.size = ops.size) (hr : Region.ready .any ops l = []) : ∀ k, k < ops.size → l.getD k false = true := by
  intro k
  induction k using Nat.strongRecOn with
  | ind k ih =>
    intro hk'
    cases hlk : l.getD k false with
    | true => rfl
    | false =>
      exfalso
      have : k ∈ Region.ready .any ops l := by
        rw [mem_ready]
        refine ⟨?_, ops[k], Array.getElem?_eq_getElem hk', fun e he hx => ?_⟩
        · have : k < l.size := by omega
          simpa [this] using hlk
        · have := back_at ops.toList 0 k ops[k] hb (by simp [hk']) e he hx
          exact ih e.on (by omega) (by omega)
      rw [hr] at this
      cases this

theorem wp_region_rel {P : Program} {id : Nat} {ops : Array Oper} {Q : Exit → Act → World → Prop} {a0 : Act} {w0 : World} (R : World → World → Prop) (htrans : ∀ u v w, R u v → R v w → R u w) (hdrew : R w0 w0.drew)
    (V : List (SPR R)) (A : (Nat → Value) → Act)
    (hm : P.follows .mixedOrders = true) (hd : distinctB ops.toList = true) (hb : backB ops.toList 0 = true) (hA : ∀ vs, puts ops.toList vs 0 a0 = A vs)
    (hob : ObsR R P Q ops A w0 V ops.toList 0)
    (hfin : ∀ vs w, R w0 w → (∀ k, k < ops.size → (V.getD k (SPR.any R)).p (vs k) w) → Q .normal (A vs) w) :
    (Code.region id ops true).wp P Q a0 w0 := by
  refine wp_region_any hm ?_
  refine wpAny_inv (I := fun l a w => l.size = ops.size ∧ ∃ vs, a = A vs ∧ R w0 w ∧ ∀ k, l.getD k false = true → (V.getD k (SPR.any R)).p (vs k) w) (fun l a w h => h.1) ?_ ?_ _ _ _ _ ?_ ?_
  · rintro l a w i ⟨hl, vs, rfl, hw, hk⟩ hi
    obtain ⟨h0, o, ho, hall⟩ := mem_ready.1 hi
    have hO := ObsR.at R P Q ops A w0 V ops.toList 0 i o hob (by simpa using ho)
    rw [Nat.zero_add] at hO
    have hput : ∀ v, (A vs).put o.dst v = A (upd vs i v) := fun v => by
      rw [← hA, ← hA, puts_upd ops.toList vs 0 i a0 o v hd (by simpa using ho), Nat.zero_add]
    have hst := hO vs w hw (fun j hj => by
      unfold depB at hj
      rw [Array.any_eq_true'] at hj
      obtain ⟨e, he, hx⟩ := hj
      rw [Bool.and_eq_true, decide_eq_true_eq] at hx
      obtain ⟨hx, rfl⟩ := hx
      exact hk _ (hall e he hx)) (fun a' w' => (l.setIfInBounds i true).size = ops.size ∧ ∃ vs, a' = A vs ∧ R w0 w' ∧ ∀ k, (l.setIfInBounds i true).getD k false = true → (V.getD k (SPR.any R)).p (vs k) w')
      (by
        intro v w' hv hbw
        refine ⟨by simpa using hl, upd vs i v, hput v, htrans _ _ _ hw hbw, fun k hk' => ?_⟩
        by_cases hki : k = i
        · subst hki
          have e : upd vs k v k = v := by simp [upd]
          rw [e]
          exact hv
        · have e : upd vs i v k = vs k := by unfold upd; rw [if_neg hki]
          rw [e]
          refine (V.getD k (SPR.any R)).st _ _ _ (hk k ?_) hbw
          rwa [getD_set_ne false (Ne.symm hki)] at hk')
    unfold wpOp
    simp only [ho]
    split
    · rename_i hw'
      rw [if_pos hw'] at hst
      exact .inl hst
    · rename_i hw'
      rw [if_neg hw'] at hst
      exact hst
  · rintro l a w ⟨hl, vs, rfl, hw, hk⟩ hr
    exact hfin vs w hw (fun k hk' => hk k (ready_all hb hl hr k hk'))
  · have : ∀ n : Nat, (List.replicate n false).count false = n := fun n => by simp
    simp
  · obtain ⟨vs, hvs⟩ := puts_self ops.toList 0 a0
    refine ⟨by simp, vs, by rw [← hA, hvs], hdrew, fun k hk => ?_⟩
    by_cases h : k < ops.size
    · simp [h] at hk
    · simp [h] at hk

/-- Does operation k wait for j, by way of others too? -/
def reachB (ops : Array Oper) : Nat → Nat → Nat → Bool
  | 0, _, _ => false
  | f + 1, k, j => match ops[k]? with
    | none => false
    | some o => depB o j || (List.range k).any fun m => depB o m && reachB ops f m j
/-- Does the last operation wait for all others? -/
def lastB (ops : Array Oper) (f n : Nat) : Bool := decide (n + 1 = ops.size) && (List.range n).all fun j => reachB ops f n j
theorem dep_done {o : Oper} {l : Array Bool} (h : ∀ e, e ∈ o.after → Region.binds .any e = true → l.getD e.on false = true) {j : Nat} (hj : depB o j = true) : l.getD j false = true := by
  unfold depB at hj
  rw [Array.any_eq_true'] at hj
  obtain ⟨e, he, hx⟩ := hj
  rw [Bool.and_eq_true, decide_eq_true_eq] at hx
  obtain ⟨hx, rfl⟩ := hx
  exact h e he hx
theorem reach_done {ops : Array Oper} {l : Array Bool} (hc : ∀ k o, ops[k]? = some o → l.getD k false = true → ∀ e, e ∈ o.after → Region.binds .any e = true → l.getD e.on false = true) :
    ∀ (f k j : Nat) (o : Oper), ops[k]? = some o → (∀ e, e ∈ o.after → Region.binds .any e = true → l.getD e.on false = true) → reachB ops f k j = true → l.getD j false = true
  | 0, _, _, _, _, _, h => by cases h
  | f + 1, k, j, o, ho, hd, h => by
    rw [reachB, ho] at h
    simp only [Bool.or_eq_true, List.any_eq_true, Bool.and_eq_true] at h
    rcases h with h | ⟨m, _, h1, h2⟩
    · exact dep_done hd h
    · have hm := dep_done hd h1
      cases hom : ops[m]? with
      | none => 
        cases f with
        | zero => cases h2
        | succ f => rw [reachB, hom] at h2; cases h2
      | some o2 => exact reach_done hc f m j o2 hom (hc m o2 hom hm) h2

theorem wp_region_last {P : Program} {id : Nat} {ops : Array Oper} {Q : Exit → Act → World → Prop} {a0 : Act} {w0 : World} (R : World → World → Prop) (htrans : ∀ u v w, R u v → R v w → R u w) (hdrew : R w0 w0.drew)
    (V : List (SPR R)) (A : (Nat → Value) → Act) (n f : Nat) (ol : Oper)
    (hm : P.follows .mixedOrders = true) (hd : distinctB ops.toList = true) (hb : backB ops.toList 0 = true) (hA : ∀ vs, puts ops.toList vs 0 a0 = A vs)
    (hlast : lastB ops f n = true) (hol : ops[n]? = some ol)
    (hob : ObsR R P Q ops A w0 V (ops.toList.take n) 0)
    (hfin : ∀ vs w, R w0 w → (∀ k, k < n → (V.getD k (SPR.any R)).p (vs k) w) →
      if Region.wanted ol (yielded ops (A vs).tmps) = true then Oper.wp P ol (A vs) w (fun a w' => Q .normal a w') Q else Q .normal ((A vs).put ol.dst undef) w) :
    (Code.region id ops true).wp P Q a0 w0 := by
  unfold lastB at hlast
  rw [Bool.and_eq_true, decide_eq_true_eq] at hlast
  obtain ⟨hn, hreach⟩ := hlast
  refine wp_region_any hm ?_
  refine wpAny_inv (I := fun l a w => l.size = ops.size ∧ ((l.getD n false = true ∧ (∀ k, k < ops.size → l.getD k false = true) ∧ Q .normal a w) ∨ (l.getD n false = false ∧ (∀ k o, ops[k]? = some o → l.getD k false = true → ∀ e, e ∈ o.after → Region.binds .any e = true → l.getD e.on false = true) ∧
    ∃ vs, a = A vs ∧ R w0 w ∧ ∀ k, l.getD k false = true → (V.getD k (SPR.any R)).p (vs k) w))) (fun l a w h => h.1) ?_ ?_ _ _ _ _ ?_ ?_
  · rintro l a w i ⟨hl, hI⟩ hi
    obtain ⟨h0, o, ho, hall⟩ := mem_ready.1 hi
    have hlt : i < ops.size := (Array.getElem?_eq_some_iff.1 ho).1
    have hif : l.getD i false = false := by
      have : i < l.size := by omega
      simpa [this] using h0
    rcases hI with ⟨_, hall2, _⟩ | ⟨hnf, hc, vs, rfl, hw, hk⟩
    · rw [hall2 i hlt] at hif
      cases hif
    by_cases hin : i = n
    · subst hin
      obtain rfl : o = ol := by rw [hol] at ho; exact (Option.some.inj ho).symm
      have hdone : ∀ j, j < i → l.getD j false = true := fun j hj => by
        have hr := List.all_eq_true.1 hreach j (List.mem_range.2 hj)
        exact reach_done hc f i j o ho (fun e he hx => hall e he hx) hr
      have hst := hfin vs w hw (fun k hk' => hk k (hdone k hk'))
      have hfin2 : ∀ a' w', Q .normal a' w' → (l.setIfInBounds i true).size = ops.size ∧ (((l.setIfInBounds i true).getD i false = true ∧ (∀ k, k < ops.size → (l.setIfInBounds i true).getD k false = true) ∧ Q .normal a' w') ∨ ((l.setIfInBounds i true).getD i false = false ∧ (∀ k o, ops[k]? = some o → (l.setIfInBounds i true).getD k false = true → ∀ e, e ∈ o.after → Region.binds .any e = true → (l.setIfInBounds i true).getD e.on false = true) ∧
          ∃ vs, a' = A vs ∧ R w0 w' ∧ ∀ k, (l.setIfInBounds i true).getD k false = true → (V.getD k (SPR.any R)).p (vs k) w')) := by
        intro a' w' hq
        have hself : (l.setIfInBounds i true).getD i false = true := by
          have : i < l.size := by omega
          simp [this]
        refine ⟨by simpa using hl, .inl ⟨hself, fun k hk' => ?_, hq⟩⟩
        by_cases hki : k = i
        · subst hki; exact hself
        · rw [getD_set_ne false (Ne.symm hki)]
          exact hdone k (by omega)
      unfold wpOp
      simp only [ho]
      split
      · rename_i hw'
        rw [if_pos hw'] at hst
        exact .inl (Oper.wp_mono (fun a' w' h => hfin2 a' w' h) hst)
      · rename_i hw'
        rw [if_neg hw'] at hst
        exact hfin2 _ _ hst
    · have hi2 : i < n := by omega
      have hO := ObsR.at R P Q ops A w0 V (ops.toList.take n) 0 i o hob (by rw [List.getElem?_take_of_lt hi2]; simpa using ho)
      rw [Nat.zero_add] at hO
      have hput : ∀ v, (A vs).put o.dst v = A (upd vs i v) := fun v => by
        rw [← hA, ← hA, puts_upd ops.toList vs 0 i a0 o v hd (by simpa using ho), Nat.zero_add]
      have hst := hO vs w hw (fun j hj => hk _ (dep_done (fun e he hx => hall e he hx) hj)) (fun a' w' => (l.setIfInBounds i true).size = ops.size ∧ (((l.setIfInBounds i true).getD n false = true ∧ (∀ k, k < ops.size → (l.setIfInBounds i true).getD k false = true) ∧ Q .normal a' w') ∨ ((l.setIfInBounds i true).getD n false = false ∧ (∀ k o, ops[k]? = some o → (l.setIfInBounds i true).getD k false = true → ∀ e, e ∈ o.after → Region.binds .any e = true → (l.setIfInBounds i true).getD e.on false = true) ∧
          ∃ vs, a' = A vs ∧ R w0 w' ∧ ∀ k, (l.setIfInBounds i true).getD k false = true → (V.getD k (SPR.any R)).p (vs k) w')))
        (by
          intro v w' hv hbw
          have hmono : ∀ j, l.getD j false = true → (l.setIfInBounds i true).getD j false = true := fun j hj => by
            by_cases hji : j = i
            · subst hji; rw [hj] at hif; cases hif
            · rw [getD_set_ne false (Ne.symm hji)]; exact hj
          refine ⟨by simpa using hl, .inr ⟨by rw [getD_set_ne false hin]; exact hnf, fun k o' ho' hk' e he hx => ?_, upd vs i v, hput v, htrans _ _ _ hw hbw, fun k hk' => ?_⟩⟩
          · by_cases hki : k = i
            · subst hki
              obtain rfl : o = o' := Option.some.inj (ho.symm.trans ho')
              exact hmono _ (hall e he hx)
            · rw [getD_set_ne false (Ne.symm hki)] at hk'
              exact hmono _ (hc k o' ho' hk' e he hx)
          · by_cases hki : k = i
            · subst hki
              have e : upd vs k v k = v := by simp [upd]
              rw [e]
              exact hv
            · have e : upd vs i v k = vs k := by unfold upd; rw [if_neg hki]
              rw [e]
              refine (V.getD k (SPR.any R)).st _ _ _ (hk k ?_) hbw
              rwa [getD_set_ne false (Ne.symm hki)] at hk')
      unfold wpOp
      simp only [ho]
      split
      · rename_i hw'
        rw [if_pos hw'] at hst
        exact .inl hst
      · rename_i hw'
        rw [if_neg hw'] at hst
        exact hst
  · rintro l a w ⟨hl, hI⟩ hr
    rcases hI with ⟨_, _, hq⟩ | ⟨hnf, _⟩
    · exact hq
    · rw [ready_all hb hl hr n (by omega)] at hnf
      cases hnf
  · simp
  · obtain ⟨vs, hvs⟩ := puts_self ops.toList 0 a0
    have hf : ∀ k, (Array.replicate ops.size false).getD k false = false := fun k => by
      by_cases h : k < ops.size
      · simp [h]
      · simp [h]
    refine ⟨by simp, .inr ⟨hf n, fun k _ _ hk => ?_, vs, by rw [← hA, hvs], hdrew, fun k hk => ?_⟩⟩
    · rw [hf k] at hk; cases hk
    · rw [hf k] at hk; cases hk
end

section
open Go.RowKit Go.PlainAid
/-- Where the row lies behind an append of a string. -/
theorem strF_block {P : Program} (w : World) (base : Nat) (t u ty e : TypeId) (i : TypeInfo) (ht : P.underlying t = some (.slice e)) (hu : P.underlying u = some .string) (hi : P.info? e = some i) (hz : i.zero = some (.int .u8 0))
    (hsize : i.size = 1) (hby : i.bytes = 1) (v : Value) (n : Nat) (xs : List Value) (hown : w.ownsRowF base e 1 v n xs) (s : ByteArray) (h0 : 0 < s.size)
    (h63 : n + s.size ≤ maxLen) (hbytes : n + s.size ≤ 140737488355328) (v' : Value) (w' : World) (hr : (Builtin.append_ #[t, u] ty #[v, .string s]).run P w = .ok v' w') :
    v'.ownBlock = v.ownBlock ∨ v'.ownBlock = some w.heap.size := by
  have hsmall : n + s.size ≤ 9223372036854775807 := by simp only [maxLen] at h63; omega
  rcases hown.2 with ⟨rfl, rfl⟩ | ⟨g, cap, cur, fz, rfl, hbg, hg, hfz, hnc, hcm, hcs, htake⟩
  · have h2 := run_append_nil_string (P := P) w t u ty e i (.int .u8 0) ht hu hi hz s h0 (by omega) (by rw [hby]; omega)
    rw [hr] at h2
    injection h2 with h3 h4
    rw [h3]
    exact .inr rfl
  · have hxl : xs.length = n := by simpa using hown.1
    by_cases hroom : n + s.size ≤ cap
    · have hcs' : cur.size = cap := by simpa using hcs
      have h2 := Lib.run_append_room_stringF (P := P) w t u ty e i ht hu hi hsize g n cap cur fz hg (by simpa using hfz) s hroom (by omega)
      rw [hr] at h2
      injection h2 with h3 h4
      rw [h3]
      exact .inl rfl
    · have h2 := Lib.run_append_grow_string (P := P) w t u ty e i (.int .u8 0) ht hu hi hz ⟨g, 0, none⟩ n cap xs (by rw [hsize]; simpa using hxl) (hown.cells (g := g) rfl) s (by omega) (by omega) (by rw [hby]; exact growslice_fits (by omega) (by omega))
      rw [hr] at h2
      injection h2 with h3 h4
      rw [h3]
      exact .inr rfl
theorem wpList_append_strX {P : Program} (w : World) {ops : Array Oper} {rest : List Oper} {o : Oper} {a : Act} {Q : Exit → Act → World → Prop} (hgd : o.guard = none) (sl x : Operand) (t u : TypeId)
    (ho : o.op = .call { callee := .builtin .append, args := #[sl, x], argTypes := #[t, u] })
    (base : Nat) (e : TypeId) (i : TypeInfo) (ht : P.underlying t = some (.slice e)) (hu : P.underlying u = some .string) (hi : P.info? e = some i) (hz : i.zero = some (.int .u8 0))
    (hsize : i.size = 1) (hby : i.bytes = 1)
    (v : Value) (n : Nat) (xs : List Value) (hs : a.eval sl = v) (hown : w.ownsRowF base e 1 v n xs) (s : ByteArray) (hx : a.eval x = .string s) (h0 : 0 < s.size)
    (h63 : n + s.size ≤ maxLen) (hbytes : n + s.size ≤ 140737488355328) (hbase : base ≤ w.heap.size)
    (h : ∀ v' w', w'.ownsRowF base e 1 v' (n + s.size) (xs ++ Lib.strCells s) → w.grownBy w' v.ownBlock → v' ≠ .slice none 0 0 → (v'.ownBlock = v.ownBlock ∨ v'.ownBlock = some w.heap.size) → wpList P ops Q rest (a.put o.dst v') w') : wpList P ops Q (o :: rest) a w := by
  refine wpList_plain hgd fun K hK => ?_
  obtain ⟨v', w', hr, h2, h3, h4⟩ := Lib.run_append_own_stringF (P := P) w base t u o.type e i ht hu hi hz hsize hby v n xs hown s h63 hbytes hbase
  have h5 := strF_block w base t u o.type e i ht hu hi hz hsize hby v n xs hown s h0 h63 hbytes v' w' hr
  unfold Oper.wp execOp
  simp only [ho, resolve, invoke, builtin, Sem.run_bind, Sem.run_pure, Result.andThen_ok, List.map_toArray, List.map_cons, List.map_nil, hs, hx, hr]
  exact hK _ _ (h v' w' h2 h3 (fun he => by have := (h4.1 he).2; omega) h5)

theorem heap_set_ne10 (w : World) (p : Addr) (v : Value) (g : Nat) (h : g ≠ p.block) : (w.setCell p v).heap[g]? = w.heap[g]? := Below.heap_setCell _ _ _ _ h
/-- A builder of this call in block b; its bytes' row lies in block og. -/
def BX (B b : Nat) (og : Option Nat) (l : List UInt8) (w : World) : Prop :=
  B ≤ b ∧ ∃ p v, (p = .pointer none ∨ p = .pointer (some ⟨b, 0, none⟩)) ∧ v.ownBlock = og ∧ (l = [] → v = .slice none 0 0) ∧ w.heap[b]? = some (.cells #[p, v] 59 (0, 0)) ∧ w.ownsRowF B 5 1 v (Lib.byteCells l).length (Lib.byteCells l) ∧ og ≠ some b
/-- What a call on such a builder leaves. -/
structure Wr (b : Nat) (og : Option Nat) (w w' : World) : Prop where
  os : w'.os = w.os
  tape : w'.tape = w.tape
  output : w'.output = w.output
  size : w.heap.size ≤ w'.heap.size
  block : ∀ i, i < w.heap.size → i ≠ b → some i ≠ og → w'.heap[i]? = w.heap[i]?
theorem BX.lt {B b : Nat} {og : Option Nat} {l : List UInt8} {w : World} (h : BX B b og l w) : b < w.heap.size := by
  obtain ⟨_, p, v, _, _, _, hb, _⟩ := h
  exact (Array.getElem?_eq_some_iff.1 hb).1
theorem BX.row {B b : Nat} {og : Option Nat} {l : List UInt8} {w : World} (h : BX B b og l w) : ∀ k, og = some k → B ≤ k ∧ k < w.heap.size := by
  obtain ⟨_, p, v, _, rfl, _, _, hown, _⟩ := h
  exact hown.lt
theorem BX.is {B b : Nat} {og : Option Nat} {l : List UInt8} {w : World} (h : BX B b og l w) : IsB B b (Lib.byteCells l) w := by
  obtain ⟨hB, p, v, hp, rfl, _, hb, hown, hne⟩ := h
  rcases hp with rfl | rfl
  · exact .inl ⟨hB, v, hb, hown, hne⟩
  · exact .inr ⟨hB, v, hb, hown, hne⟩
theorem BX.first (w : World) (B : Nat) (hB : B ≤ w.heap.size) : BX B w.heap.size none [] (w.alloc (.cells #[.pointer none, .slice none 0 0] 59)) :=
  ⟨hB, _, _, .inl rfl, rfl, fun _ => rfl, heap_alloc_new w _, World.ownsRowF_nil _ _ _ _, fun h => by cases h⟩
theorem ownF_kept {w w' : World} {B e size n : Nat} {v : Value} {xs : List Value} (h : w.ownsRowF B e size v n xs) (hb : ∀ g, v.ownBlock = some g → w'.heap[g]? = w.heap[g]?) : w'.ownsRowF B e size v n xs := by
  refine ⟨h.1, ?_⟩
  rcases h.2 with hn | ⟨g, cap, cur, fz, rfl, hB', hg, rest⟩
  · exact .inl hn
  · exact .inr ⟨g, cap, cur, fz, rfl, hB', (hb g rfl).trans hg, rest⟩
/-- A builder stays where its blocks stay. -/
theorem BX.on {B b : Nat} {og : Option Nat} {l : List UInt8} {w w' : World} (h : BX B b og l w) (h1 : w'.heap[b]? = w.heap[b]?) (h2 : ∀ g, og = some g → w'.heap[g]? = w.heap[g]?) : BX B b og l w' := by
  obtain ⟨hB, p, v, hp, ho, hn, hb, hown, hne⟩ := h
  exact ⟨hB, p, v, hp, ho, hn, h1.trans hb, ownF_kept hown (fun g hg => h2 g (by rw [← ho, hg])), hne⟩
theorem BX.after {B b : Nat} {og : Option Nat} {l : List UInt8} {w w' : World} (h : BX B b og l w) (hb : Below w.heap.size w w') : BX B b og l w' :=
  h.on (hb.block b h.lt) (fun g hg => hb.block g (h.row g hg).2)
/-- Another builder's calls. -/
theorem BX.beside {B b c : Nat} {og oh : Option Nat} {l : List UInt8} {w w' : World} (h : BX B b og l w) (hw : Wr c oh w w') (h1 : b ≠ c) (h2 : some b ≠ oh) (h3 : og ≠ some c) (h4 : og = none ∨ og ≠ oh) : BX B b og l w' := by
  refine h.on (hw.block b h.lt h1 h2) (fun g hg => hw.block g (h.row g hg).2 (fun e => h3 (by rw [hg, e])) ?_)
  rcases h4 with h4 | h4
  · rw [hg] at h4; cases h4
  · rw [← hg]; exact h4
/-- The builder's block is no row of bytes. -/
theorem BX.ne_row {B b c : Nat} {og oh : Option Nat} {l m : List UInt8} {w : World} (h : BX B b og l w) (k : BX B c oh m w) : some b ≠ oh := by
  obtain ⟨_, p, v, _, _, _, hb, _⟩ := h
  obtain ⟨_, q, u, _, rfl, _, _, hown, _⟩ := k
  intro e
  rcases hown.2 with ⟨rfl, _⟩ | ⟨g, cap, cur, fz, rfl, hB', hg, rest⟩
  · cases e
  · have : b = g := Option.some.inj e
    subst this
    rw [hb] at hg
    simp only [Option.some.injEq, Obj.cells.injEq] at hg
    exact absurd hg.2.1 (by decide)
theorem Wr.below {b : Nat} {og : Option Nat} {w w' : World} (h : Wr b og w w') (N : Nat) (hN : N ≤ w.heap.size) (hb : N ≤ b) (hg : ∀ g, og = some g → N ≤ g) : Below N w w' :=
  ⟨h.os, h.tape, h.output, h.size, fun i hi => h.block i (by omega) (by omega) (fun e => by have := hg i e.symm; omega)⟩

theorem bytes_app (a b : List UInt8) : Lib.byteCells a ++ Lib.strCells (S b) = Lib.byteCells (a ++ b) := by
  show Lib.byteCells a ++ Lib.byteCells b = _
  simp [Lib.byteCells]
theorem byteCells_len (a : List UInt8) : (Lib.byteCells a).length = a.length := by simp [Lib.byteCells]
theorem lenX (B b : Nat) (og : Option Nat) (l : List UInt8) (w : World) (h : BX B b og l w) :
    Calls Tryd.prog 30 #[.pointer (some ⟨b, 0, none⟩)] w fun e w' => e = .returned (.int .i64 (l.length : Int)) ∧ w' = w := by
  have c := Tryd.Builder_Len_f B b (Lib.byteCells l) w h.is
  rw [byteCells_len] at c
  exact c

set_option maxRecDepth 100000 in
set_option maxHeartbeats 4000000 in
theorem writeX (B b : Nat) (og : Option Nat) (l x : List UInt8) (w : World) (h : BX B b og l w) (hx : x ≠ []) (hl : l.length + x.length ≤ 100000000) (hBw : B ≤ w.heap.size) :
    Calls Tryd.prog 29 #[.pointer (some ⟨b, 0, none⟩), .string (S x)] w fun e w' => (∃ v, e = .returned v) ∧ ∃ oh, BX B b oh (l ++ x) w' ∧ Wr b og w w' ∧ (oh = og ∨ ∃ n, oh = some n ∧ w.heap.size ≤ n) := by
  obtain ⟨i0, hi, hz0, hz1, hz2⟩ := info_parts infoByte
  have hxs : (S x).size = x.length := S_size x
  have hx0 : 0 < x.length := List.length_pos_iff.2 hx
  have his := h.is
  obtain ⟨hB, p, v, hp, rfl, hnil, hbk, hown, hne⟩ := h
  have cC : Calls Tryd.prog 44 #[.pointer (some ⟨b, 0, none⟩)] w fun e w1 => e = .returned (.tuple #[]) ∧ w1.heap[b]? = some (.cells #[.pointer (some ⟨b, 0, none⟩), v] 59 (0, 0)) ∧ w1.heap.size = w.heap.size ∧ (w1.os = w.os ∧ w1.tape = w.tape ∧ w1.output = w.output) ∧ ∀ i, i ≠ b → w1.heap[i]? = w.heap[i]? := by
    rcases hp with rfl | rfl
    · have hA : Lib.BuilderAtF 59 5 B b (.pointer none) (Lib.byteCells l) w := ⟨hB, v, hbk, hown, hne⟩
      refine (check_fresh b w hA.cell0 hA.shape hA.frozen0).mono ?_
      rintro e w' ⟨rfl, rfl⟩
      exact ⟨rfl, by simp [World.setCell, Array.getElem?_modify, hbk], by simp [World.setCell], ⟨rfl, rfl, rfl⟩, fun i hi => Below.heap_setCell _ _ _ _ hi⟩
    · have hA : Lib.BuilderAtF 59 5 B b (.pointer (some ⟨b, 0, none⟩)) (Lib.byteCells l) w := ⟨hB, v, hbk, hown, hne⟩
      refine (check_used b w hA.cell0).mono ?_
      rintro e w' ⟨rfl, rfl⟩
      exact ⟨rfl, hbk, rfl, ⟨rfl, rfl, rfl⟩, fun _ _ => rfl⟩
  have HC := Lib.hid cC
  clear cC his
  go_enter Tryd.func29, Tryd.ntmps29
  go_wp2_with (go_at_call 44; refine HC.out.mono ?_)
  rintro e w1 ⟨rfl, hbk1, hs1, hw1, hk1⟩
  have hown1 : w1.ownsRowF B 5 1 v (Lib.byteCells l).length (Lib.byteCells l) := ownF_kept hown (fun g hg => hk1 g (fun e => hne (by rw [hg, e])))
  have c0 : w1.cell? ⟨b, 0, none⟩ = some (.pointer (some ⟨b, 0, none⟩)) := by rw [Lib.cell_of_heap hbk1]; rfl
  have c1 : w1.cell? ⟨b, 1, none⟩ = some v := by rw [Lib.cell_of_heap hbk1]; rfl
  have hlt : b < w1.heap.size := (Array.getElem?_eq_some_iff.1 hbk1).1
  have hbl : (Lib.byteCells l).length = l.length := byteCells_len l
  go_wp2_with (at_builtin; refine wpList_append_strX _ rfl _ _ 53 9 rfl B 5 i0 Tryd.underlying53 Tryd.underlying9 hi hz0 hz1 hz2 _ _ _ rfl hown1 (S x) rfl ?c2 ?c3 ?c4 ?c5 ?_)
  case c2 => omega
  case c3 => unfold maxLen; omega
  case c4 => omega
  case c5 => omega
  intro v' w2 hown' hgrow hnn hob
  have hb2 : w2.heap[b]? = some (.cells #[.pointer (some ⟨b, 0, none⟩), v] 59 (0, 0)) := by
    rw [hgrow.block b hlt (fun e => hne e.symm)]
    exact hbk1
  have d0 : w2.cell? ⟨b, 0, none⟩ = some (.pointer (some ⟨b, 0, none⟩)) := by rw [Lib.cell_of_heap hb2]; rfl
  have d1 : w2.cell? ⟨b, 1, none⟩ = some v := by rw [Lib.cell_of_heap hb2]; rfl
  have f1 : w2.frozen? ⟨b, 1, none⟩ = false := Lib.frozen_of_heap hb2 1
  have hne2 := Lib.ownBlock_neF hown' hb2 (by decide)
  have HW : RowKit.Hid (Wr b v.ownBlock w (w2.setCell ⟨b, 1, none⟩ v')) := by
    refine ⟨hgrow.os.trans hw1.1, hgrow.tape.trans hw1.2.1, hgrow.output.trans hw1.2.2, by have := hgrow.size; simp [World.setCell]; omega, fun i hi hib hio => ?_⟩
    rw [heap_set_ne10 _ _ _ _ hib, hgrow.block i (by omega) hio]
    exact hk1 i hib
  have HB : RowKit.Hid (BX B b v'.ownBlock (l ++ x) (w2.setCell ⟨b, 1, none⟩ v')) := by
    refine ⟨hB, _, v', .inr rfl, rfl, fun h => ?_, by simp [World.setCell, Array.getElem?_modify, hb2], ?_, hne2⟩
    · exact absurd (List.append_eq_nil_iff.1 h).2 hx
    · refine ownF_kept ?_ (fun g hg => heap_set_ne10 _ _ _ _ (fun e => hne2 (by rw [hg, e])))
      rw [← bytes_app, List.length_append, Lib.strCells_length, hbl, hxs]
      exact hown'
  have HO : RowKit.Hid (v'.ownBlock = v.ownBlock ∨ ∃ n, v'.ownBlock = some n ∧ w.heap.size ≤ n) := hob.imp id fun h => ⟨_, h, by omega⟩
  obtain ⟨ao, n', cap, rfl⟩ : ∃ ao n' cap, v' = .slice ao n' cap := by
    rcases hown'.2 with ⟨hv, _⟩ | ⟨g, cap, cur, fz, hv, _⟩
    · exact ⟨_, _, _, hv⟩
    · exact ⟨_, _, _, hv⟩
  clear hown' hgrow hnn hob hown1 hown hk1 hw1 hne2 hb2 hbk hbk1 HC
  go_wp2
  go_ret2
  exact ⟨⟨_, rfl⟩, _, HB.out, HW.out, HO.out⟩

theorem cellsByte : Tryd.prog.cellsOf 5 = 1 := by kernel_rfl
set_option maxRecDepth 100000 in
set_option maxHeartbeats 4000000 in
theorem outX (B b : Nat) (og : Option Nat) (l : List UInt8) (w : World) (h : BX B b og l w) (hl : l.length ≤ 100000000) :
    Calls Tryd.prog 31 #[.pointer (some ⟨b, 0, none⟩)] w fun e w' => e = .returned (.string (S l)) ∧ BX B b og l w' ∧ Wr b og w w' ∧ w'.heap[b]? = w.heap[b]? := by
  have hx := h
  obtain ⟨hB, p, v, hp, rfl, hnil, hbk, hown, hne⟩ := h
  by_cases h0 : l = []
  · subst h0
    obtain rfl := hnil rfl
    have hUS : ∀ W, (Builtin.unsafeString_ #[78, 3] 9 #[.pointer none, .int .i64 0]).run Tryd.prog W = .ok (.string .empty) W := fun W => Lib.run_unsafeString_none W _ _ _ _
    have c1 : w.drew.cell? ⟨b, 1, none⟩ = some (.slice none 0 0) := by
      have : w.drew.heap[b]? = some (.cells #[p, .slice none 0 0] 59 (0, 0)) := hbk
      rw [Lib.cell_of_heap this]; rfl
    have hSD : (Builtin.unsafeSliceData_ #[53] 78 #[.slice none 0 0]).run Tryd.prog w.drew = .ok (.pointer none) w.drew := rfl
    have HF : RowKit.Hid (BX B b (Value.slice none 0 0).ownBlock [] w.drew ∧ Wr b (Value.slice none 0 0).ownBlock w w.drew ∧ w.drew.heap[b]? = w.heap[b]?) := ⟨hx, ⟨rfl, rfl, rfl, Nat.le_refl _, fun _ _ _ _ => rfl⟩, rfl⟩
    clear hx hown hne hbk hnil
    have mixed : Tryd.prog.follows .mixedOrders = true := by kernel_rfl
    go_enter Tryd.func31, Tryd.ntmps31
    go_wp2
    go_region_o
    all_goals (go_wp2; go_ret; exact ⟨rfl, HF.out⟩)
  have hl0 : l.length ≠ 0 := by simpa using h0
  have hbl := byteCells_len l
  rw [hbl] at hown
  obtain ⟨g, cap, cur, fz, rfl, hbg, hg, hfz, hnc, hcm, hcs, htake⟩ : ∃ g cap cur fz, v = .slice (some ⟨g, 0, none⟩) l.length cap ∧ B ≤ g ∧ w.heap[g]? = some (.cells cur 5 fz) ∧ fz.2 ≤ l.length * 1 ∧ l.length ≤ cap ∧ cap ≤ maxLen ∧ cur.size = cap * 1 ∧ cur.toList.take (l.length * 1) = Lib.byteCells l := by
    rcases hown.2 with ⟨_, hz⟩ | ⟨g, cap, cur, fz, hv, r⟩
    · exact absurd hz hl0
    · exact ⟨g, cap, cur, fz, hv, r⟩
  have c1 : w.drew.cell? ⟨b, 1, none⟩ = some (.slice (some ⟨g, 0, none⟩) l.length cap) := by
    have : w.drew.heap[b]? = some (.cells #[p, .slice (some ⟨g, 0, none⟩) l.length cap] 59 (0, 0)) := hbk
    rw [Lib.cell_of_heap this]; rfl
  have hSD : (Builtin.unsafeSliceData_ #[53] 78 #[.slice (some ⟨g, 0, none⟩) l.length cap]).run Tryd.prog w.drew = .ok (.pointer (some ⟨g, 0, none⟩)) w.drew :=
    Lib.run_unsafeSliceData_row _ _ _ _ _ _ (by omega)
  have hUS : (Builtin.unsafeString_ #[78, 3] 9 #[.pointer (some ⟨g, 0, none⟩), .int .i64 l.length]).run Tryd.prog w.drew = .ok (.string ⟨l.toArray⟩) (w.drew.freeze ⟨g, 0, none⟩ l.length) := by
    refine Lib.run_unsafeString_row w.drew 78 3 9 5 Tryd.underlying78 cellsByte g cur.size (by have hg' : w.drew.heap[g]? = some (.cells cur 5 fz) := hg; simp [World.shape?, hg']) l h0 (by omega) (by unfold maxLen at hcm; omega) ?_
    intro j x hx
    have := hown.cells (g := g) rfl j (.int .u8 x.toNat) (by simp [Lib.byteCells, hx])
    exact this
  have hgb : g ≠ b := fun e => hne (by rw [← e]; rfl)
  have hfr : ∀ i, i ≠ g → (w.drew.freeze ⟨g, 0, none⟩ l.length).heap[i]? = w.heap[i]? := fun i hi => by
    unfold World.freeze
    split
    · rfl
    · simp only [Array.getElem?_modify]
      rw [if_neg (fun e => hi e.symm)]
      rfl
  have HF : RowKit.Hid (BX B b (Value.slice (some ⟨g, 0, none⟩) l.length cap).ownBlock l (w.drew.freeze ⟨g, 0, none⟩ l.length) ∧ Wr b (Value.slice (some ⟨g, 0, none⟩) l.length cap).ownBlock w (w.drew.freeze ⟨g, 0, none⟩ l.length) ∧ (w.drew.freeze ⟨g, 0, none⟩ l.length).heap[b]? = w.heap[b]?) := by
    have hA : Lib.BuilderAtF 59 5 B b p (Lib.byteCells l) w.drew := ⟨hB, _, hbk, by rw [hbl]; exact hown, hne⟩
    have hF := hA.froze (g := g) (cap := cap) (by rw [hbl]; exact c1)
    rw [hbl] at hF
    obtain ⟨_, v2, hb2, hown2, hne2⟩ := hF
    have hbb := hfr b (Ne.symm hgb)
    rw [hbb, hbk] at hb2
    simp only [Option.some.injEq, Obj.cells.injEq, Array.mk.injEq, List.cons.injEq, true_and, and_true] at hb2
    obtain rfl := hb2
    have hbelow := Lib.below_freeze (Below.drew (Below.refl 0 w)) (p := ⟨g, 0, none⟩) (Nat.zero_le _) l.length
    exact ⟨⟨hB, p, _, hp, rfl, fun h => absurd h h0, hbb.trans hbk, hown2, hne⟩, ⟨hbelow.os, hbelow.tape, hbelow.output, hbelow.size, fun i _ _ hig => hfr i (fun e => hig (by rw [e]; rfl))⟩, hbb⟩
  clear hx hown hne hbk hnil hfr htake hcs hfz hg
  have mixed : Tryd.prog.follows .mixedOrders = true := by kernel_rfl
  go_enter Tryd.func31, Tryd.ntmps31
  go_wp2
  go_region_o
  all_goals (go_wp2; go_ret; exact ⟨rfl, HF.out⟩)
end

section
open Go.RowKit Go.PlainAid
theorem noughts10 (c : Nat) : Lib.repeatL [48] c = List.replicate c 48 := by
  have := Lib.repeatL_replicate 48 1 c
  rw [Nat.mul_one] at this
  exact this

set_option maxHeartbeats 4000000 in
theorem padded_any (n k : Nat) (hn : n < 100000000) (hk : k ≤ 100) (w : World) (hE : Env w) :
    Calls Tryd.prog 36 #[.int .i64 (n : Int), .int .i64 (k : Int)] w fun e w' => e = .returned (.string (S (padI n k))) ∧ Below w.heap.size w w' := by
  have hd := dec_len 7 n (by omega)
  have hp := dec_pos n
  have cI := Lib.hid (cItoa n (by omega) w hE)
  obtain ⟨D, hD⟩ : ∃ D, Lib.decDigits n = D := ⟨_, rfl⟩
  have HRes : RowKit.Hid (S (padI n k) = S (Lib.repeatL [48] (k - D.length)) ++ S D) := by
    unfold RowKit.Hid padI padL
    rw [hD, noughts10, S_append]
  rw [hD] at hd hp cI
  obtain ⟨d, hdl⟩ : ∃ d, D.length = d := ⟨_, rfl⟩
  rw [hdl] at hd hp HRes
  have hsz : (S D).size = d := by rw [S_size, hdl]
  have cR := Lib.hid (fun W => cRepeat (k - d) (by omega) W)
  have hz : (S (Lib.repeatL [48] (k - d))).size = k - d := by rw [noughts10, S_size, List.length_replicate]
  have hmax : ∀ (ts : Array TypeId) (t : TypeId) (W : World), (Builtin.max_ ts t #[.int .i64 0, .int .i64 ((k : Int) - (d : Int))]).run Tryd.prog W = .ok (.int .i64 ((k - d : Nat) : Int)) W := by
    intro ts t W
    rw [run_max_int2]
    by_cases h : k ≤ d
    · rw [if_neg (by omega), show ((k - d : Nat) : Int) = 0 by omega]
    · rw [if_pos (by omega), show ((k - d : Nat) : Int) = (k : Int) - (d : Int) by omega]
  obtain ⟨q, hq⟩ : ∃ q, k - d = q := ⟨_, rfl⟩
  rw [hq] at HRes cR hmax hz
  have hq2 : q ≤ 100 := by omega
  clear hdl hD hq
  generalize S (Lib.repeatL [48] q) = sr at *
  generalize S D = sd at *
  rw [HRes.out]
  go_enter Tryd.func36, Tryd.ntmps36
  go_wp2_with fail
  refine cI.out.mono ?_
  rintro e w1 ⟨rfl, b1⟩
  have B1 := Lib.hid b1
  clear b1
  go_wp2_with fail
  refine (cR.out _).mono ?_
  rintro e w2 ⟨rfl, b2⟩
  have B2 := Lib.hid (B1.out.trans (b2.mono B1.out.size))
  clear b2
  go_wp2
  go_ret
  exact ⟨rfl, B2.out⟩
end

end Go.Proofs.YtiledacfdaenbaaDoor
