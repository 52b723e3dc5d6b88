/- Merged: RegInv, FC07, FD07. -/
import Derived.Test.YtceneblmllpdnaaDoorProg
import Derived.Orders
import Derived.Below
import Derived.WalkKit
import Derived.Lib.Hide
import Derived.Test.YtceneblmllpdnaaDoorQ09
import Derived.Test.YtceneblmllpdnaaDoorQ03
namespace Go.Proofs.YtceneblmllpdnaaDoor

section
open Go.RowKit
/-- The state in which the operations of a region have left these values. -/
def puts : List Oper → (Nat → Value) → Nat → Act → Act
  | [], _, _, a => a
  | o :: r, vs, k, a => puts r vs (k + 1) (a.put o.dst (vs k))
theorem put_put (a : Act) (d : Option Tmp) (u v : Value) : (a.put d u).put d v = a.put d v := by
  cases d with
  | none => rfl
  | some d =>
    unfold Act.put
    simp
theorem puts_congr : ∀ (r : List Oper) (vs us : Nat → Value) (k : Nat) (a : Act), (∀ j, k ≤ j → vs j = us j) → puts r vs k a = puts r us k a
  | [], _, _, _, _, _ => rfl
  | o :: r, vs, us, k, a, h => by
    rw [puts, puts, h k (Nat.le_refl k)]
    exact puts_congr r vs us (k + 1) _ (fun j hj => h j (by omega))
theorem puts_put : ∀ (r : List Oper) (vs : Nat → Value) (k : Nat) (a : Act) (d : Option Tmp) (v : Value), (∀ o, o ∈ r → ∀ x, o.dst = some x → d ≠ some x) → (puts r vs k a).put d v = puts r vs k (a.put d v)
  | [], _, _, _, _, _, _ => rfl
  | o :: r, vs, k, a, d, v, h => by
    rw [puts, puts, puts_put r vs (k + 1) _ d v (fun p hp => h p (List.mem_cons_of_mem _ hp)), Act.put_comm a (vs k) v (h o (List.mem_cons_self ..))]
/-- No two operations lay their value at one place. -/
def distinctB : List Oper → Bool
  | [] => true
  | o :: r => (match o.dst with
    | some d => r.all fun p => !decide (p.dst = some d)
    | none => true) && distinctB r
theorem distinct_head {o : Oper} {r : List Oper} (h : distinctB (o :: r) = true) : ∀ p, p ∈ r → ∀ x, p.dst = some x → o.dst ≠ some x := by
  intro p hp x hx ho
  unfold distinctB at h
  rw [ho, Bool.and_eq_true] at h
  have h1 : r.all (fun p => !decide (p.dst = some x)) = true := h.1
  have := List.all_eq_true.1 h1 p hp
  simp [hx] at this
theorem distinct_tail {o : Oper} {r : List Oper} (h : distinctB (o :: r) = true) : distinctB r = true := by
  unfold distinctB at h
  rw [Bool.and_eq_true] at h
  exact h.2
def upd (vs : Nat → Value) (i : Nat) (v : Value) : Nat → Value := fun j => if j = i then v else vs j
theorem puts_upd : ∀ (r : List Oper) (vs : Nat → Value) (k m : Nat) (a : Act) (o : Oper) (v : Value), distinctB r = true → r[m]? = some o → (puts r vs k a).put o.dst v = puts r (upd vs (k + m) v) k a
  | [], _, _, _, _, _, _, _, h => by cases h
  | o' :: r, vs, k, 0, a, o, v, hd, h => by
    obtain rfl : o' = o := by simpa using h
    rw [puts, puts, puts_put r vs (k + 1) _ _ v (distinct_head hd), put_put]
    have e : upd vs (k + 0) v k = v := by simp [upd]
    rw [e]
    refine puts_congr r _ _ (k + 1) _ (fun j hj => ?_)
    unfold upd
    rw [if_neg (by omega)]
  | o' :: r, vs, k, m + 1, a, o, v, hd, h => by
    have h' : r[m]? = some o := by simpa using h
    have e : upd vs (k + (m + 1)) v k = vs k := by
      unfold upd
      rw [if_neg (by omega)]
    rw [puts, puts, e, puts_upd r vs (k + 1) m _ o v (distinct_tail hd) h', show k + 1 + m = k + (m + 1) by omega]
theorem put_self (a : Act) (d : Option Tmp) : ∃ v, a.put d v = a := by
  cases d with
  | none => exact ⟨undef, rfl⟩
  | some d =>
    refine ⟨a.tmps.getD d undef, ?_⟩
    unfold Act.put
    have e : a.tmps.setIfInBounds d (a.tmps.getD d undef) = a.tmps := by
      apply Array.ext
      · simp
      · intro i h1 h2
        rw [Array.getElem_setIfInBounds]
        split
        · rename_i he
          subst he
          simp [h2]
        · rfl
    show ({ a with tmps := a.tmps.setIfInBounds d (a.tmps.getD d undef) } : Act) = a
    rw [e]
theorem puts_self : ∀ (r : List Oper) (k : Nat) (a : Act), ∃ vs, puts r vs k a = a
  | [], _, _ => ⟨fun _ => undef, rfl⟩
  | o :: r, k, a => by
    obtain ⟨us, hu⟩ := puts_self r (k + 1) a
    obtain ⟨v, hv⟩ := put_self a o.dst
    refine ⟨upd us k v, ?_⟩
    have e : upd us k v k = v := by simp [upd]
    rw [puts, e, hv]
    rw [← hu]
    rw [puts_congr r (upd us k v) us (k + 1) _ (fun j hj => by unfold upd; rw [if_neg (by omega)])]
    rw [hu, hu]

/-- What an operation yields, as long as memory only grows. -/
structure SP where
  p : Value → World → Prop
  st : ∀ v w w', p v w → Below w.heap.size w w' → p v w'
def SP.any : SP := ⟨fun _ _ => True, fun _ _ _ _ _ => trivial⟩
def SP.eq (x : Value) : SP := ⟨fun v _ => v = x, fun _ _ _ h _ => h⟩
/-- Does an operation wait for number j? -/
def depB (o : Oper) (j : Nat) : Bool := o.after.any fun e => Region.binds .any e && decide (e.on = j)
/-- Each operation waits only for earlier ones. -/
def backB : List Oper → Nat → Bool
  | [], _ => true
  | o :: r, k => (o.after.all fun e => !Region.binds .any e || decide (e.on < k)) && backB r (k + 1)
theorem back_at : ∀ (r : List Oper) (k m : Nat) (o : Oper), backB r k = true → r[m]? = some o → ∀ e, e ∈ o.after → Region.binds .any e = true → e.on < k + m
  | [], _, _, _, _, h, _, _, _ => by cases h
  | o' :: r, k, 0, o, hb, h, e, he, hx => by
    obtain rfl : o' = o := by simpa using h
    unfold backB at hb
    rw [Bool.and_eq_true] at hb
    have := (Array.all_eq_true_iff_forall_mem.1 hb.1) e he
    rw [hx] at this
    simpa using this
  | o' :: r, k, m + 1, o, hb, h, e, he, hx => by
    unfold backB at hb
    rw [Bool.and_eq_true] at hb
    have := back_at r (k + 1) m o hb.2 (by simpa using h) e he hx
    omega

section
variable (P : Program) (Q : Exit → Act → World → Prop) (ops : Array Oper) (A : (Nat → Value) → Act) (w0 : World) (V : List SP)
/-- Whatever came before: the operation yields what is said of it. -/
def Ob (k : Nat) (o : Oper) : Prop :=
  ∀ (vs : Nat → Value) (w : World), Below w0.heap.size w0 w → (∀ j, depB o j = true → (V.getD j SP.any).p (vs j) w) → ∀ K : Act → World → Prop,
    RowKit.Hid (∀ v w', (V.getD k SP.any).p v w' → Below w.heap.size w w' → K ((A vs).put o.dst v) w') →
    if Region.wanted o (yielded ops (A vs).tmps) = true then Oper.wp P o (A vs) w K Q else K ((A vs).put o.dst undef) w
def Obs : List Oper → Nat → Prop
  | [], _ => True
  | o :: r, k => Ob P Q ops A w0 V k o ∧ Obs r (k + 1)
theorem Obs.at : ∀ (r : List Oper) (k m : Nat) (o : Oper), Obs P Q ops A w0 V r k → r[m]? = some o → Ob P Q ops A w0 V (k + m) o
  | [], _, _, _, _, h => by cases h
  | o' :: r, k, 0, o, hO, h => by
    obtain rfl : o' = o := by simpa using h
    exact hO.1
  | o' :: r, k, m + 1, o, hO, h => by
    have := Obs.at r (k + 1) m o hO.2 (by simpa using h)
    rwa [show k + 1 + m = k + (m + 1) by omega] at this
theorem Obs.nil {k : Nat} : Obs P Q ops A w0 V [] k := trivial
theorem Obs.cons {o : Oper} {r : List Oper} {k : Nat} (h : Ob P Q ops A w0 V k o) (t : Obs P Q ops A w0 V r (k + 1)) : Obs P Q ops A w0 V (o :: r) k := ⟨h, t⟩
end

theorem wpAny_inv {P : Program} {Q : Exit → Act → World → Prop} {ops : Array Oper} (I : Array Bool → Act → World → Prop)
    (hs : ∀ l a w, I l a w → l.size = ops.size)
    (step : ∀ l a w i, I l a w → i ∈ Region.ready .any ops l → wpOp P ops Q i (fun a' w' => I (l.setIfInBounds i true) a' w') a w)
    (fin : ∀ l a w, I l a w → Region.ready .any ops l = [] → Q .normal a w) :
    ∀ (fuel : Nat) (l : Array Bool) (a : Act) (w : World), l.toList.count false ≤ fuel → I l a w → wpAny P .any ops Q fuel l a w
  | 0, l, a, w, hf, hI => by
    have hr : Region.ready .any ops l = [] := by
      rw [List.eq_nil_iff_forall_not_mem]
      intro j hj
      have h0 := (mem_ready.1 hj).1
      have hlt : j < l.size := by
        rcases Nat.lt_or_ge j l.size with h' | h'
        · exact h'
        · simp [Array.getElem?_eq_none h'] at h0
      have hm : false ∈ l.toList := by
        have : l[j] = false := by simpa [hlt] using h0
        rw [← this]
        simp
      have := List.count_pos_iff.2 hm
      omega
    exact ⟨hr, fin l a w hI hr⟩
  | fuel + 1, l, a, w, hf, hI => by
    refine ⟨fun h => fin l a w hI h, fun i hi => ?_⟩
    refine wpOp_mono (fun a' w' hI' => wpAny_inv I hs step fin fuel _ a' w' ?_ hI') (step l a w i hI hi)
    have h0 := (mem_ready.1 hi).1
    have hlt : i < l.size := by
      rcases Nat.lt_or_ge i l.size with h' | h'
      · exact h'
      · simp [Array.getElem?_eq_none h'] at h0
    have hli : l.toList[i]'(by simpa using hlt) = false := by simpa [hlt] using h0
    have hc : (l.toList.set i true).count false = l.toList.count false - 1 := by
      rw [List.count_set (by simpa using hlt), hli]
      simp
    rw [Array.toList_setIfInBounds, hc]
    omega

theorem wp_region_inv {P : Program} {id : Nat} {ops : Array Oper} {Q : Exit → Act → World → Prop} {a0 : Act} {w0 : World} (V : List SP) (A : (Nat → Value) → Act)
    (hm : P.follows .mixedOrders = true) (hd : distinctB ops.toList = true) (hb : backB ops.toList 0 = true) (hA : ∀ vs, puts ops.toList vs 0 a0 = A vs)
    (hob : Obs P Q ops A w0 V ops.toList 0)
    (hfin : ∀ vs w, Below w0.heap.size w0 w → (∀ k, k < ops.size → (V.getD k SP.any).p (vs k) w) → Q .normal (A vs) w) :
    (Code.region id ops true).wp P Q a0 w0 := by
  refine wp_region_any hm ?_
  refine wpAny_inv (I := fun l a w => l.size = ops.size ∧ ∃ vs, a = A vs ∧ Below w0.heap.size w0 w ∧ ∀ k, l.getD k false = true → (V.getD k SP.any).p (vs k) w) (fun l a w h => h.1) ?_ ?_ _ _ _ _ ?_ ?_
  · rintro l a w i ⟨hl, vs, rfl, hw, hk⟩ hi
    obtain ⟨h0, o, ho, hall⟩ := mem_ready.1 hi
    have hlt : i < ops.size := (Array.getElem?_eq_some_iff.1 ho).1
    have hO := Obs.at P Q ops A w0 V ops.toList 0 i o hob (by simpa using ho)
    rw [Nat.zero_add] at hO
    have hput : ∀ v, (A vs).put o.dst v = A (upd vs i v) := fun v => by
      rw [← hA, ← hA, puts_upd ops.toList vs 0 i a0 o v hd (by simpa using ho), Nat.zero_add]
    have hst := hO vs w hw (fun j hj => by
      unfold depB at hj
      rw [Array.any_eq_true'] at hj
      obtain ⟨e, he, hx⟩ := hj
      rw [Bool.and_eq_true, decide_eq_true_eq] at hx
      obtain ⟨hx, rfl⟩ := hx
      exact hk _ (hall e he hx)) (fun a' w' => (l.setIfInBounds i true).size = ops.size ∧ ∃ vs, a' = A vs ∧ Below w0.heap.size w0 w' ∧ ∀ k, (l.setIfInBounds i true).getD k false = true → (V.getD k SP.any).p (vs k) w')
      (by
        intro v w' hv hbw
        refine ⟨by simpa using hl, upd vs i v, hput v, hw.trans (hbw.mono hw.size), fun k hk' => ?_⟩
        by_cases hki : k = i
        · subst hki
          have e : upd vs k v k = v := by simp [upd]
          rw [e]
          exact hv
        · have e : upd vs i v k = vs k := by unfold upd; rw [if_neg hki]
          rw [e]
          refine (V.getD k SP.any).st _ _ _ (hk k ?_) hbw
          rwa [getD_set_ne false (Ne.symm hki)] at hk')
    unfold wpOp
    simp only [ho]
    split
    · rename_i hw'
      rw [if_pos hw'] at hst
      exact .inl hst
    · rename_i hw'
      rw [if_neg hw'] at hst
      exact hst
  · rintro l a w ⟨hl, vs, rfl, hw, hk⟩ hr
    have hall : ∀ k, k < ops.size → l.getD k false = true := by
      intro k
      induction k using Nat.strongRecOn with
      | ind k ih =>
        intro hk'
        cases hlk : l.getD k false with
        | true => rfl
        | false =>
          exfalso
          have : k ∈ Region.ready .any ops l := by
            rw [mem_ready]
            refine ⟨?_, ops[k], Array.getElem?_eq_getElem hk', fun e he hx => ?_⟩
            · have : k < l.size := by omega
              simpa [this] using hlk
            · have := back_at ops.toList 0 k ops[k] hb (by simp [hk']) e he hx
              exact ih e.on (by omega) (by omega)
          rw [hr] at this
          cases this
    exact hfin vs w hw (fun k hk' => hk k (hall k hk'))
  · have : ∀ n : Nat, (List.replicate n false).count false = n := fun n => by simp
    simp
  · obtain ⟨vs, hvs⟩ := puts_self ops.toList 0 a0
    refine ⟨by simp, vs, by rw [← hA, hvs], (Below.refl _ w0).drew, fun k hk => ?_⟩
    by_cases h : k < ops.size
    · simp [h] at hk
    · simp [h] at hk
end

section
open Go.RowKit Go.PlainAid
/-- What yields a slice of subfields, a function value, and so on. -/
def SP.ql (v : Value) (L : List Sub) : SP := ⟨fun x w => x = v ∧ QL v L w, fun _ _ _ h b => ⟨h.1, h.2.after b⟩⟩
/-- The first place of a code, or none. -/
theorem first_code (L : List Sub) (c : UInt8) : (∀ j, j < L.length → (L.getD j sub0).1 ≠ c) ∨ ∃ k, k < L.length ∧ (∀ j, j < k → (L.getD j sub0).1 ≠ c) ∧ (L.getD k sub0).1 = c := by
  rcases first_bad (fun i => !decide ((L.getD i sub0).1 = c)) L.length with h | ⟨j, hj, h1, h2⟩
  · exact .inl fun j hj => by simpa using h j hj
  · exact .inr ⟨j, hj, fun i hi => by simpa using h1 i hi, by simpa using h2⟩
end

section
open Go.RowKit Go.PlainAid
set_option maxHeartbeats 16000000 in
theorem equal_any (L M : List Sub) (u v : Value) (w : World) (hu : QL u L w) (hv : QL v M w) (b : Bool) (hb : decide (L = M) = b) :
    Calls Tryd.prog 35 #[u, v] w fun e w' => e = .returned (.bool b) ∧ Below w.heap.size w w' := by
  obtain ⟨a, cap, rfl, hcap, hmax, _, hcell⟩ := hu
  obtain ⟨a', cap', rfl, hcap', hmax', _, hcell'⟩ := hv
  unfold maxLen at hmax hmax'
  obtain ⟨n, hn⟩ : ∃ n, L.length = n := ⟨_, rfl⟩
  obtain ⟨m, hm⟩ : ∃ m, M.length = m := ⟨_, rfl⟩
  have HCell := Lib.hid hcell
  have HCell' := Lib.hid hcell'
  rw [hn] at hcap ⊢
  rw [hm] at hcap' ⊢
  have HN := Lib.hid hn
  have HM := Lib.hid hm
  have HX := Lib.hid (subs_ext L M)
  have HBB := Lib.hid hb
  clear hcell hcell' hn hm hb
  by_cases hnm : n ≠ m
  · have t : ((n : Int) == (m : Int)) = false := by
      rw [beq_eq_false_iff_ne]
      omega
    obtain rfl : b = false := by
      rw [← HBB.out]
      exact decide_eq_false (fun h => hnm (by rw [← HN.out, ← HM.out, h]))
    have hnm' : ¬ (n : Int) = (m : Int) := by omega
    clear hnm
    go_enter Tryd.func35, Tryd.ntmps35
    go_wp2
    go_ret
    exact ⟨rfl, Below.refl _ _⟩
  obtain rfl : n = m := Decidable.not_not.1 hnm
  clear hnm
  go_enter Tryd.func35, Tryd.ntmps35
  go_wp2
  go_loopw [13] (fun i wr => ∃ k : Nat, k ≤ n ∧ i = .int .i64 (k : Int) ∧ RowKit.Hid (∀ j, j < k → L.getD j sub0 = M.getD j sub0) ∧ Below w.heap.size w wr) (fun i _ => n - (intOf i).toNat)
  case atStart => exact ⟨0, Nat.zero_le _, rfl, (fun j hj => by omega), Below.refl _ _⟩
  case round =>
    obtain ⟨k, hk, rfl, HJ, hbw⟩ := hrel
    by_cases hkn : k < n
    · obtain ⟨ga, oa, rfl, hga, c1, c2⟩ := HCell.out k (by rw [HN.out]; exact hkn)
      obtain ⟨gb, ob, rfl, hgb, d1, d2⟩ := HCell'.out k (by rw [HM.out]; exact hkn)
      have c1 := (hbw.cell (p := ⟨ga, oa + k * 2, none⟩) hga).trans c1
      have c2 := (hbw.cell (p := ⟨ga, oa + k * 2 + 1, none⟩) hga).trans c2
      have d1 := (hbw.cell (p := ⟨gb, ob + k * 2, none⟩) hgb).trans d1
      have d2 := (hbw.cell (p := ⟨gb, ob + k * 2 + 1, none⟩) hgb).trans d2
      have i1 : (0 : Int) ≤ (k : Int) := by omega
      have i2 : (k : Int) < (n : Int) := by omega
      have hq := S_eq (L.getD k sub0).2 (M.getD k sub0).2
      by_cases he : L.getD k sub0 = M.getD k sub0
      · have HJ2 : RowKit.Hid (∀ j, j < k + 1 → L.getD j sub0 = M.getD j sub0) := by
          intro j hj
          rcases Nat.lt_or_ge j k with h | h
          · exact HJ.out j h
          · rw [show j = k by omega]; exact he
        rw [he] at c1 c2 hq
        rw [decide_eq_true rfl] at hq
        clear he HJ
        generalize S (M.getD k sub0).2 = x at *
        generalize (((M.getD k sub0).1.toNat : Nat) : Int) = y at *
        go_wp2
        go_region
        all_goals
          go_wp2
          go_roundw
          case rel => exact ⟨k + 1, by omega, by go_num, HJ2, hbw.drew⟩
          case measure => simp [intOf]; omega
      · obtain rfl : b = false := by rw [← HBB.out]; exact decide_eq_false (fun h => he (by rw [h]))
        have hor : ((((L.getD k sub0).1.toNat : Nat) : Int) == (((M.getD k sub0).1.toNat : Nat) : Int)) = false ∨ decide ((L.getD k sub0).2 = (M.getD k sub0).2) = false := by
          by_cases hc : (L.getD k sub0).1 = (M.getD k sub0).1
          · exact .inr (decide_eq_false (fun h => he (Prod.ext hc h)))
          · have : (L.getD k sub0).1.toNat ≠ (M.getD k sub0).1.toNat := fun h => hc (UInt8.toNat_inj.1 h)
            exact .inl (beq_eq_false_iff_ne.2 (fun h => this (by omega)))
        have Fin := Lib.hid hbw
        have FinD := Lib.hid hbw.drew
        clear he HJ
        generalize decide ((L.getD k sub0).2 = (M.getD k sub0).2) = eqv at *
        generalize S (L.getD k sub0).2 = x at *
        generalize S (M.getD k sub0).2 = x' at *
        generalize (((L.getD k sub0).1.toNat : Nat) : Int) = y at *
        generalize (((M.getD k sub0).1.toNat : Nat) : Int) = y' at *
        rcases hor with ho | ho
        · go_wp2
          go_region
          all_goals
            go_wp2
            go_ret
            exact ⟨rfl, FinD.out⟩
        · rw [ho] at hq
          go_wp2
          go_region
          all_goals
            go_wp2
            go_ret
            exact ⟨rfl, FinD.out⟩
    · obtain rfl : k = n := by omega
      obtain rfl : b = true := by rw [← HBB.out]; exact decide_eq_true (HX.out (by rw [HN.out, HM.out]) (fun j hj => HJ.out j (by rw [HN.out] at hj; exact hj)))
      go_wp2
      go_ret
      exact ⟨rfl, hbw⟩

set_option maxHeartbeats 16000000 in
theorem fSame_any (f g : Fld) (u v : Value) (w : World) (hu : QL u f.subs w) (hv : QL v g.subs w) (b : Bool) (hb : sameB f g = b) :
    Calls Tryd.prog 18 #[FV f u, FV g v] w fun e w' => e = .returned (.bool b) ∧ Below w.heap.size w w' := by
  unfold FV
  unfold sameB at hb
  have HB := Lib.hid hb
  have q1 := S_eq f.tag g.tag
  have q2 := S_eq f.ind g.ind
  obtain ⟨a, cap, rfl, _, _⟩ := hu.length
  obtain ⟨a', cap', rfl, _, _⟩ := hv.length
  obtain ⟨W0, hW0⟩ : ∃ W0, (w.alloc (.cells #[.string (S f.tag), .string (S f.ind), .slice a f.subs.length cap, .int .i64 f.auth] 45)).alloc (.cells #[.string (S g.tag), .string (S g.ind), .slice a' g.subs.length cap', .int .i64 g.auth] 45) = W0 := ⟨_, rfl⟩
  have b1 := (Below.refl w.heap.size w).alloc (Nat.le_refl _) (.cells #[.string (S f.tag), .string (S f.ind), .slice a f.subs.length cap, .int .i64 f.auth] 45)
  have b0 : Below w.heap.size w W0 := by rw [← hW0]; exact b1.alloc (by simp) _
  have hlt : w.heap.size + 1 < W0.heap.size := by rw [← hW0]; simp
  have k0 : W0.cell? ⟨w.heap.size, 0, none⟩ = some (.string (S f.tag)) := by rw [← hW0]; simp
  have k1 : W0.cell? ⟨w.heap.size, 1, none⟩ = some (.string (S f.ind)) := by rw [← hW0]; simp
  have k2 : W0.cell? ⟨w.heap.size, 2, none⟩ = some (.slice a f.subs.length cap) := by rw [← hW0]; simp
  have k3 : W0.cell? ⟨w.heap.size, 3, none⟩ = some (.int .i64 f.auth) := by rw [← hW0]; simp
  have l0 : W0.cell? ⟨w.heap.size + 1, 0, none⟩ = some (.string (S g.tag)) := by rw [← hW0]; simp
  have l1 : W0.cell? ⟨w.heap.size + 1, 1, none⟩ = some (.string (S g.ind)) := by rw [← hW0]; simp
  have l2 : W0.cell? ⟨w.heap.size + 1, 2, none⟩ = some (.slice a' g.subs.length cap') := by rw [← hW0]; simp
  have l3 : W0.cell? ⟨w.heap.size + 1, 3, none⟩ = some (.int .i64 g.auth) := by rw [← hW0]; simp
  have cE := Lib.hid (fun c hc => equal_any f.subs g.subs _ _ W0 (hu.after b0) (hv.after b0) c hc)
  have HW0 := Lib.hid hW0
  clear hW0 b1 hu hv hb
  by_cases h1 : f.tag ≠ g.tag
  · rw [decide_eq_false h1] at q1
    obtain rfl : b = false := by rw [← HB.out, decide_eq_false h1]; rfl
    clear h1
    go_enter Tryd.func18, Tryd.ntmps18
    go_wp2
    go_ret
    rw [HW0.out]
    exact ⟨rfl, b0⟩
  have h1 : f.tag = g.tag := Decidable.not_not.1 h1
  rw [decide_eq_true h1] at q1
  by_cases h2 : f.ind ≠ g.ind
  · rw [decide_eq_false h2] at q2
    obtain rfl : b = false := by rw [← HB.out, decide_eq_false h2, Bool.and_false]; rfl
    clear h1 h2
    go_enter Tryd.func18, Tryd.ntmps18
    go_wp2
    go_ret
    rw [HW0.out]
    exact ⟨rfl, b0⟩
  have h2 : f.ind = g.ind := Decidable.not_not.1 h2
  rw [decide_eq_true h2] at q2
  by_cases h3 : f.auth ≠ g.auth
  · have t3 : (f.auth == g.auth) = false := beq_eq_false_iff_ne.2 h3
    obtain rfl : b = false := by rw [← HB.out, decide_eq_false h3, Bool.and_false]; rfl
    clear h1 h2 h3
    go_enter Tryd.func18, Tryd.ntmps18
    go_wp2
    go_ret
    rw [HW0.out]
    exact ⟨rfl, b0⟩
  have h3 : f.auth = g.auth := Decidable.not_not.1 h3
  have hE := cE.out b (by rw [← HB.out, decide_eq_true h1, decide_eq_true h2, decide_eq_true h3]; rfl)
  rw [h3] at HW0 k3 ⊢
  have t3 : (g.auth == g.auth) = true := by simp
  clear h1 h2 h3 cE
  go_enter Tryd.func18, Tryd.ntmps18
  go_wp2_with fail
  rw [HW0.out]
  refine hE.mono ?_
  rintro e w1 ⟨rfl, hb⟩
  have b2 := b0.trans (hb.mono b0.size)
  go_wp2
  go_ret
  exact ⟨rfl, b2⟩
end

end Go.Proofs.YtceneblmllpdnaaDoor
