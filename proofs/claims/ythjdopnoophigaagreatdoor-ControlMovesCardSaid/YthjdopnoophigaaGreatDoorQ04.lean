/- Merged: RegInv, R13D, Plain13B, R13E, LA14. -/
import Derived.Test.YthjdopnoophigaaGreatDoorProg
import Derived.Orders
import Derived.Below
import Derived.WalkKit
import Derived.Lib.Hide
import Derived.Test.YthjdopnoophigaaGreatDoorQ03
import Derived.Test.YthjdopnoophigaaGreatDoorQ02
import Derived.Deep.CutBlock
import Derived.Deep.DeepCutAuto
import Derived.Deep.RegionLaw
import Derived.RegionTactic
import Derived.BigRegion
namespace Go.Proofs.YthjdopnoophigaaGreatDoor

section
open Go.RowKit
/-- The state in which the operations of a region have left these values. -/
def puts : List Oper → (Nat → Value) → Nat → Act → Act
  | [], _, _, a => a
  | o :: r, vs, k, a => puts r vs (k + 1) (a.put o.dst (vs k))
theorem put_put (a : Act) (d : Option Tmp) (u v : Value) : (a.put d u).put d v = a.put d v := by
  cases d with
  | none => rfl
  | some d =>
    unfold Act.put
    simp
theorem puts_congr : ∀ (r : List Oper) (vs us : Nat → Value) (k : Nat) (a : Act), (∀ j, k ≤ j → vs j = us j) → puts r vs k a = puts r us k a
  | [], _, _, _, _, _ => rfl
  | o :: r, vs, us, k, a, h => by
    rw [puts, puts, h k (Nat.le_refl k)]
    exact puts_congr r vs us (k + 1) _ (fun j hj => h j (by omega))
theorem puts_put : ∀ (r : List Oper) (vs : Nat → Value) (k : Nat) (a : Act) (d : Option Tmp) (v : Value), (∀ o, o ∈ r → ∀ x, o.dst = some x → d ≠ some x) → (puts r vs k a).put d v = puts r vs k (a.put d v)
  | [], _, _, _, _, _, _ => rfl
  | o :: r, vs, k, a, d, v, h => by
    rw [puts, puts, puts_put r vs (k + 1) _ d v (fun p hp => h p (List.mem_cons_of_mem _ hp)), Act.put_comm a (vs k) v (h o (List.mem_cons_self ..))]
/-- No two operations lay their value at one place. -/
def distinctB : List Oper → Bool
  | [] => true
  | o :: r => (match o.dst with
    | some d => r.all fun p => !decide (p.dst = some d)
    | none => true) && distinctB r
theorem distinct_head {o : Oper} {r : List Oper} (h : distinctB (o :: r) = true) : ∀ p, p ∈ r → ∀ x, p.dst = some x → o.dst ≠ some x := by
  intro p hp x hx ho
  unfold distinctB at h
  rw [ho, Bool.and_eq_true] at h
  have h1 : r.all (fun p => !decide (p.dst = some x)) = true := h.1
  have := List.all_eq_true.1 h1 p hp
  simp [hx] at this
theorem distinct_tail {o : Oper} {r : List Oper} (h : distinctB (o :: r) = true) : distinctB r = true := by
  unfold distinctB at h
  rw [Bool.and_eq_true] at h
  exact h.2
def upd (vs : Nat → Value) (i : Nat) (v : Value) : Nat → Value := fun j => if j = i then v else vs j
theorem puts_upd : ∀ (r : List Oper) (vs : Nat → Value) (k m : Nat) (a : Act) (o : Oper) (v : Value), distinctB r = true → r[m]? = some o → (puts r vs k a).put o.dst v = puts r (upd vs (k + m) v) k a
  | [], _, _, _, _, _, _, _, h => by cases h
  | o' :: r, vs, k, 0, a, o, v, hd, h => by
    obtain rfl : o' = o := by simpa using h
    rw [puts, puts, puts_put r vs (k + 1) _ _ v (distinct_head hd), put_put]
    have e : upd vs (k + 0) v k = v := by simp [upd]
    rw [e]
    refine puts_congr r _ _ (k + 1) _ (fun j hj => ?_)
    unfold upd
    rw [if_neg (by omega)]
  | o' :: r, vs, k, m + 1, a, o, v, hd, h => by
    have h' : r[m]? = some o := by simpa using h
    have e : upd vs (k + (m + 1)) v k = vs k := by
      unfold upd
      rw [if_neg (by omega)]
    rw [puts, puts, e, puts_upd r vs (k + 1) m _ o v (distinct_tail hd) h', show k + 1 + m = k + (m + 1) by omega]
theorem put_self (a : Act) (d : Option Tmp) : ∃ v, a.put d v = a := by
  cases d with
  | none => exact ⟨undef, rfl⟩
  | some d =>
    refine ⟨a.tmps.getD d undef, ?_⟩
    unfold Act.put
    have e : a.tmps.setIfInBounds d (a.tmps.getD d undef) = a.tmps := by
      apply Array.ext
      · simp
      · intro i h1 h2
        rw [Array.getElem_setIfInBounds]
        split
        · rename_i he
          subst he
          simp [h2]
        · rfl
    show ({ a with tmps := a.tmps.setIfInBounds d (a.tmps.getD d undef) } : Act) = a
    rw [e]
theorem puts_self : ∀ (r : List Oper) (k : Nat) (a : Act), ∃ vs, puts r vs k a = a
  | [], _, _ => ⟨fun _ => undef, rfl⟩
  | o :: r, k, a => by
    obtain ⟨us, hu⟩ := puts_self r (k + 1) a
    obtain ⟨v, hv⟩ := put_self a o.dst
    refine ⟨upd us k v, ?_⟩
    have e : upd us k v k = v := by simp [upd]
    rw [puts, e, hv]
    rw [← hu]
    rw [puts_congr r (upd us k v) us (k + 1) _ (fun j hj => by unfold upd; rw [if_neg (by omega)])]
    rw [hu, hu]

/-- What an operation yields, as long as memory only grows. -/
structure SP where
  p : Value → World → Prop
  st : ∀ v w w', p v w → Below w.heap.size w w' → p v w'
def SP.any : SP := ⟨fun _ _ => True, fun _ _ _ _ _ => trivial⟩
def SP.eq (x : Value) : SP := ⟨fun v _ => v = x, fun _ _ _ h _ => h⟩
/-- Does an operation wait for number j? -/
def depB (o : Oper) (j : Nat) : Bool := o.after.any fun e => Region.binds .any e && decide (e.on = j)
/-- Each operation waits only for earlier ones. -/
def backB : List Oper → Nat → Bool
  | [], _ => true
  | o :: r, k => (o.after.all fun e => !Region.binds .any e || decide (e.on < k)) && backB r (k + 1)
theorem back_at : ∀ (r : List Oper) (k m : Nat) (o : Oper), backB r k = true → r[m]? = some o → ∀ e, e ∈ o.after → Region.binds .any e = true → e.on < k + m
  | [], _, _, _, _, h, _, _, _ => by cases h
  | o' :: r, k, 0, o, hb, h, e, he, hx => by
    obtain rfl : o' = o := by simpa using h
    unfold backB at hb
    rw [Bool.and_eq_true] at hb
    have := (Array.all_eq_true_iff_forall_mem.1 hb.1) e he
    rw [hx] at this
    simpa using this
  | o' :: r, k, m + 1, o, hb, h, e, he, hx => by
    unfold backB at hb
    rw [Bool.and_eq_true] at hb
    have := back_at r (k + 1) m o hb.2 (by simpa using h) e he hx
    omega

section
variable (P : Program) (Q : Exit → Act → World → Prop) (ops : Array Oper) (A : (Nat → Value) → Act) (w0 : World) (V : List SP)
/-- Whatever came before: the operation yields what is said of it. -/
def Ob (k : Nat) (o : Oper) : Prop :=
  ∀ (vs : Nat → Value) (w : World), Below w0.heap.size w0 w → (∀ j, depB o j = true → (V.getD j SP.any).p (vs j) w) → ∀ K : Act → World → Prop,
    RowKit.Hid (∀ v w', (V.getD k SP.any).p v w' → Below w.heap.size w w' → K ((A vs).put o.dst v) w') →
    if Region.wanted o (yielded ops (A vs).tmps) = true then Oper.wp P o (A vs) w K Q else K ((A vs).put o.dst undef) w
def Obs : List Oper → Nat → Prop
  | [], _ => True
  | o :: r, k => Ob P Q ops A w0 V k o ∧ Obs r (k + 1)
theorem Obs.at : ∀ (r : List Oper) (k m : Nat) (o : Oper), Obs P Q ops A w0 V r k → r[m]? = some o → Ob P Q ops A w0 V (k + m) o
  | [], _, _, _, _, h => by cases h
  | o' :: r, k, 0, o, hO, h => by
    obtain rfl : o' = o := by simpa using h
    exact hO.1
  | o' :: r, k, m + 1, o, hO, h => by
    have := Obs.at r (k + 1) m o hO.2 (by simpa using h)
    rwa [show k + 1 + m = k + (m + 1) by omega] at this
theorem Obs.nil {k : Nat} : Obs P Q ops A w0 V [] k := trivial
theorem Obs.cons {o : Oper} {r : List Oper} {k : Nat} (h : Ob P Q ops A w0 V k o) (t : Obs P Q ops A w0 V r (k + 1)) : Obs P Q ops A w0 V (o :: r) k := ⟨h, t⟩
end

theorem wpAny_inv {P : Program} {Q : Exit → Act → World → Prop} {ops : Array Oper} (I : Array Bool → Act → World → Prop)
    (hs : ∀ l a w, I l a w → l.size = ops.size)
    (step : ∀ l a w i, I l a w → i ∈ Region.ready .any ops l → wpOp P ops Q i (fun a' w' => I (l.setIfInBounds i true) a' w') a w)
    (fin : ∀ l a w, I l a w → Region.ready .any ops l = [] → Q .normal a w) :
    ∀ (fuel : Nat) (l : Array Bool) (a : Act) (w : World), l.toList.count false ≤ fuel → I l a w → wpAny P .any ops Q fuel l a w
  | 0, l, a, w, hf, hI => by
    have hr : Region.ready .any ops l = [] := by
      rw [List.eq_nil_iff_forall_not_mem]
      intro j hj
      have h0 := (mem_ready.1 hj).1
      have hlt : j < l.size := by
        rcases Nat.lt_or_ge j l.size with h' | h'
        · exact h'
        · simp [Array.getElem?_eq_none h'] at h0
      have hm : false ∈ l.toList := by
        have : l[j] = false := by simpa [hlt] using h0
        rw [← this]
        simp
      have := List.count_pos_iff.2 hm
      omega
    exact ⟨hr, fin l a w hI hr⟩
  | fuel + 1, l, a, w, hf, hI => by
    refine ⟨fun h => fin l a w hI h, fun i hi => ?_⟩
    refine wpOp_mono (fun a' w' hI' => wpAny_inv I hs step fin fuel _ a' w' ?_ hI') (step l a w i hI hi)
    have h0 := (mem_ready.1 hi).1
    have hlt : i < l.size := by
      rcases Nat.lt_or_ge i l.size with h' | h'
      · exact h'
      · simp [Array.getElem?_eq_none h'] at h0
    have hli : l.toList[i]'(by simpa using hlt) = false := by simpa [hlt] using h0
    have hc : (l.toList.set i true).count false = l.toList.count false - 1 := by
      rw [List.count_set (by simpa using hlt), hli]
      simp
    rw [Array.toList_setIfInBounds, hc]
    omega

theorem wp_region_inv {P : Program} {id : Nat} {ops : Array Oper} {Q : Exit → Act → World → Prop} {a0 : Act} {w0 : World} (V : List SP) (A : (Nat → Value) → Act)
    (hm : P.follows .mixedOrders = true) (hd : distinctB ops.toList = true) (hb : backB ops.toList 0 = true) (hA : ∀ vs, puts ops.toList vs 0 a0 = A vs)
    (hob : Obs P Q ops A w0 V ops.toList 0)
    (hfin : ∀ vs w, Below w0.heap.size w0 w → (∀ k, k < ops.size → (V.getD k SP.any).p (vs k) w) → Q .normal (A vs) w) :
    (Code.region id ops true).wp P Q a0 w0 := by
  refine wp_region_any hm ?_
  refine wpAny_inv (I := fun l a w => l.size = ops.size ∧ ∃ vs, a = A vs ∧ Below w0.heap.size w0 w ∧ ∀ k, l.getD k false = true → (V.getD k SP.any).p (vs k) w) (fun l a w h => h.1) ?_ ?_ _ _ _ _ ?_ ?_
  · rintro l a w i ⟨hl, vs, rfl, hw, hk⟩ hi
    obtain ⟨h0, o, ho, hall⟩ := mem_ready.1 hi
    have hlt : i < ops.size := (Array.getElem?_eq_some_iff.1 ho).1
    have hO := Obs.at P Q ops A w0 V ops.toList 0 i o hob (by simpa using ho)
    rw [Nat.zero_add] at hO
    have hput : ∀ v, (A vs).put o.dst v = A (upd vs i v) := fun v => by
      rw [← hA, ← hA, puts_upd ops.toList vs 0 i a0 o v hd (by simpa using ho), Nat.zero_add]
    have hst := hO vs w hw (fun j hj => by
      unfold depB at hj
      rw [Array.any_eq_true'] at hj
      obtain ⟨e, he, hx⟩ := hj
      rw [Bool.and_eq_true, decide_eq_true_eq] at hx
      obtain ⟨hx, rfl⟩ := hx
      exact hk _ (hall e he hx)) (fun a' w' => (l.setIfInBounds i true).size = ops.size ∧ ∃ vs, a' = A vs ∧ Below w0.heap.size w0 w' ∧ ∀ k, (l.setIfInBounds i true).getD k false = true → (V.getD k SP.any).p (vs k) w')
      (by
        intro v w' hv hbw
        refine ⟨by simpa using hl, upd vs i v, hput v, hw.trans (hbw.mono hw.size), fun k hk' => ?_⟩
        by_cases hki : k = i
        · subst hki
          have e : upd vs k v k = v := by simp [upd]
          rw [e]
          exact hv
        · have e : upd vs i v k = vs k := by unfold upd; rw [if_neg hki]
          rw [e]
          refine (V.getD k SP.any).st _ _ _ (hk k ?_) hbw
          rwa [getD_set_ne false (Ne.symm hki)] at hk')
    unfold wpOp
    simp only [ho]
    split
    · rename_i hw'
      rw [if_pos hw'] at hst
      exact .inl hst
    · rename_i hw'
      rw [if_neg hw'] at hst
      exact hst
  · rintro l a w ⟨hl, vs, rfl, hw, hk⟩ hr
    have hall : ∀ k, k < ops.size → l.getD k false = true := by
      intro k
      induction k using Nat.strongRecOn with
      | ind k ih =>
        intro hk'
        cases hlk : l.getD k false with
        | true => rfl
        | false =>
          exfalso
          have : k ∈ Region.ready .any ops l := by
            rw [mem_ready]
            refine ⟨?_, ops[k], Array.getElem?_eq_getElem hk', fun e he hx => ?_⟩
            · have : k < l.size := by omega
              simpa [this] using hlk
            · have := back_at ops.toList 0 k ops[k] hb (by simp [hk']) e he hx
              exact ih e.on (by omega) (by omega)
          rw [hr] at this
          cases this
    exact hfin vs w hw (fun k hk' => hk k (hall k hk'))
  · have : ∀ n : Nat, (List.replicate n false).count false = n := fun n => by simp
    simp
  · obtain ⟨vs, hvs⟩ := puts_self ops.toList 0 a0
    refine ⟨by simp, vs, by rw [← hA, hvs], (Below.refl _ w0).drew, fun k hk => ?_⟩
    by_cases h : k < ops.size
    · simp [h] at hk
    · simp [h] at hk
end

section
open Go.RowKit Go.PlainAid
def intV (x : Int) : Value := .int .i64 x
theorem infoInt13 : (Tryz.prog.info? 3).map (fun i => (i.zero, i.size, i.bytes)) = some (some (.int .i64 0), 1, 8) := by kernel_rfl
theorem info_int13 : ∃ i0, Tryz.prog.info? 3 = some i0 ∧ i0.zero = some (.int .i64 0) ∧ i0.size = 1 ∧ i0.bytes = 8 := by
  obtain ⟨i0, h0, h2⟩ := Option.map_eq_some_iff.1 infoInt13
  simp only [Prod.mk.injEq] at h2
  exact ⟨i0, h0, h2.1, h2.2.1, h2.2.2⟩
/-- A slice of integers of the call's own, nil at first. -/
def IR (B : Nat) (v : Value) (l : List Int) (w : World) : Prop := w.ownsRow B 3 1 v l.length (l.map intV)
theorem IR.after {B : Nat} {v : Value} {l : List Int} {w w' : World} (h : IR B v l w) (hb : Below w.heap.size w w') : IR B v l w' := own_after h hb
theorem IR.zero (B : Nat) (w : World) : IR B (.slice none 0 0) [] w := ⟨rfl, .inl ⟨rfl, rfl⟩⟩
theorem IR.il {B : Nat} {v : Value} {l : List Int} {w : World} (h : IR B v l w) : IL v l w := by
  rcases h.2 with ⟨rfl, h0⟩ | ⟨g, cap, cur, rfl, hg0, hg, hc, hm, hsz, ht⟩
  · have : l = [] := List.eq_nil_of_length_eq_zero h0
    subst this
    exact IL.nil w
  · refine ⟨_, cap, rfl, hc, fun i x hx => ⟨g, 0, rfl, (Array.getElem?_eq_some_iff.1 hg).1, ?_⟩⟩
    have := World.ownsRow.cells h (g := g) rfl i (intV x) (by rw [List.getElem?_map, hx]; rfl)
    have hadd : (⟨g, 0, none⟩ : Addr).add i = ⟨g, i, none⟩ := by unfold Addr.add; split <;> simp_all
    rw [hadd] at this
    rw [Nat.zero_add]
    exact this
theorem cells_int13 (w : World) (x : Value) (t : TypeId) : ∀ j u, [x][j]? = some u → (w.alloc (.cells #[x] t)).cell? ((⟨w.heap.size, 0, none⟩ : Addr).add j) = some u := cells_one12 w x t
/-- append of one integer that has just been laid to such a row. -/
theorem append_ir {ops : Array Oper} {rest : List Oper} {o : Oper} {a : Act} {Q : Exit → Act → World → Prop} (w : World) (hgd : o.guard = none) (s x : Operand)
    (ho : o.op = .call { callee := .builtin .append, args := #[s, x], argTypes := #[38, 38] })
    (B : Nat) (v : Value) (L : List Int) (y : Int) (hs : a.eval s = v) (h : IR B v L w) (hx : a.eval x = .slice (some ⟨w.heap.size, 0, none⟩) 1 1) (hz : L.length ≤ 10000000) (hB : B ≤ w.heap.size)
    (N : Nat) (W1 : World) (hNB : N ≤ B) (hb : Below N W1 w)
    (hk : ∀ v' w', IR B v' (L ++ [y]) w' → Below N W1 w' → B ≤ w'.heap.size → wpList Tryz.prog ops Q rest (a.put o.dst v') w') : wpList Tryz.prog ops Q (o :: rest) a (w.alloc (.cells #[intV y] 3)) := by
  obtain ⟨i0, hi, hz0, hz1, hz2⟩ := info_int13
  have hrow := World.ownsRow.alloc h (.cells #[intV y] 3)
  refine wpList_append_own _ hgd s x 38 ho B 3 i0 (.int .i64 0) 1 8 Tryz.underlying38 hi hz0 hz1 hz2 rfl (by decide) v L.length _ hs hrow ⟨w.heap.size, 0, none⟩ 1 1 [intV y] hx rfl (cells_one12 _ _ _) (by intro u hu; simp at hu; subst hu; rfl) (by unfold maxLen; omega) (by omega) (by simp; omega) ?_
  intro v2 w2 hown2 hg2 hn2
  refine hk v2 w2 (by unfold IR; rw [List.length_append, List.map_append]; exact hown2) ?_ (Nat.le_trans (by simp; omega) hg2.size)
  exact (hb.alloc (by omega) _).grown hg2 (by simp; omega) (fun j hj => Nat.le_trans hNB (hrow.lt j hj).1)

/-! Inserting, from left to right. -/
def anyG (a : List Int) (n : Int) : Bool := a.any fun x => decide (n < x)
def insS (a : List Int) (n : Int) : List Int := if anyG a n = true then insI a n else a
theorem ins_app (n x : Int) : ∀ a : List Int, insI (a ++ [x]) n = if anyG a n = true then insI a n ++ [x] else if n < x then a ++ [n, x] else a ++ [x, n]
  | [] => by
    rw [List.nil_append, insI, insI]
    by_cases h : n < x
    · rw [if_pos h, if_neg (by simp [anyG]), if_pos h]; rfl
    · rw [if_neg h, if_neg (by simp [anyG]), if_neg h]; rfl
  | y :: r => by
    rw [List.cons_append, insI, insI, ins_app n x r]
    by_cases h : n < y
    · have : anyG (y :: r) n = true := by simp [anyG, h]
      rw [if_pos h, if_pos this, if_pos h]
      rfl
    · have : anyG (y :: r) n = anyG r n := by simp [anyG, h]
      rw [if_neg h, this, if_neg h]
      by_cases h2 : anyG r n = true
      · rw [if_pos h2, if_pos h2]; rfl
      · rw [if_neg h2, if_neg h2]
        by_cases h3 : n < x
        · rw [if_pos h3, if_pos h3]; rfl
        · rw [if_neg h3, if_neg h3]; rfl
theorem ins_none (n : Int) : ∀ a : List Int, anyG a n = false → insI a n = a ++ [n]
  | [], _ => rfl
  | y :: r, h => by
    have h1 : ¬ n < y := by
      intro g
      simp [anyG, g] at h
    have h2 : anyG r n = false := by simpa [anyG, h1] using h
    rw [insI, if_neg h1, ins_none n r h2]
    rfl
theorem anyG_app (a : List Int) (n x : Int) : anyG (a ++ [x]) n = (anyG a n || decide (n < x)) := by simp [anyG]
theorem insS_len (a : List Int) (n : Int) : (insS a n).length ≤ a.length + 1 := by
  unfold insS
  split
  · have : ∀ b : List Int, (insI b n).length = b.length + 1 := by
      intro b
      induction b with
      | nil => rfl
      | cons y r ih =>
        rw [insI]
        split <;> simp [ih]
    rw [this]
    exact Nat.le_refl _
  · omega
theorem insS_step (a : List Int) (n x : Int) : insS (a ++ [x]) n = if anyG a n = true then insS a n ++ [x] else if n < x then insS a n ++ [n] ++ [x] else insS a n ++ [x] := by
  unfold insS
  rw [anyG_app, ins_app]
  by_cases h : anyG a n = true
  · rw [h, if_pos rfl, if_pos rfl, if_pos rfl]
    rfl
  · rw [if_neg h, if_neg h]
    have h' : anyG a n = false := Bool.eq_false_iff.2 h
    rw [h', Bool.false_or]
    by_cases h2 : n < x
    · rw [if_pos (decide_eq_true h2), if_pos h2, if_pos h2, if_neg (by decide)]
      simp
    · rw [if_neg (by rw [decide_eq_false h2]; decide), if_neg h2, if_neg (by decide)]
theorem insS_end (a : List Int) (n : Int) : insI a n = if anyG a n = true then insS a n else insS a n ++ [n] := by
  unfold insS
  by_cases h : anyG a n = true
  · rw [if_pos h, if_pos h]
  · rw [if_neg h, if_neg h, ins_none n a (Bool.eq_false_iff.2 h)]
theorem take_snocI (l : List Int) (k : Nat) (h : k < l.length) : l.take (k + 1) = l.take k ++ [l.getD k 0] := by
  rw [List.take_succ_eq_append_getElem h, List.getD_eq_getElem?_getD, List.getElem?_eq_getElem h]
  rfl
end

section
theorem mem_ins13 (n x : Int) : ∀ l : List Int, x ∈ insI l n ↔ x = n ∨ x ∈ l
  | [] => by simp [insI]
  | y :: r => by
    have ih := mem_ins13 n x r
    unfold insI
    split
    · simp
    · simp only [List.mem_cons, ih]
      constructor
      · rintro (h | h | h)
        · exact .inr (.inl h)
        · exact .inl h
        · exact .inr (.inr h)
      · rintro (h | h | h)
        · exact .inr (.inl h)
        · exact .inl h
        · exact .inr (.inr h)
theorem mem_put (l : List Int) (n x : Int) : x ∈ putI l n ↔ x = n ∨ x ∈ l := by
  unfold putI
  split
  · rename_i h
    constructor
    · exact .inr
    · rintro (rfl | h2)
      · exact h
      · exact h2
  · exact mem_ins13 n x l
theorem mem_puts (x : Int) : ∀ (ns l : List Int), x ∈ ns.foldl putI l ↔ x ∈ ns ∨ x ∈ l
  | [], l => by simp
  | n :: r, l => by
    rw [List.foldl_cons, mem_puts x r, mem_put]
    simp only [List.mem_cons]
    constructor
    · rintro (h | h | h)
      · exact .inl (.inr h)
      · exact .inl (.inl h)
      · exact .inr h
    · rintro ((h | h) | h)
      · exact .inr (.inl h)
      · exact .inl h
      · exact .inr (.inr h)
/-- One authority of a round. -/
def stepA (id : Int) (out : List Int) (a : Au) : List Int := if a.id ≠ id ∧ a.id ∉ out then out else a.above.foldl putI out
theorem round_fold (l : List Au) (id : Int) (out : List Int) : roundA l id out = l.foldl (stepA id) out := rfl
theorem step_sub (id : Int) (out : List Int) (a : Au) : ∀ x ∈ out, x ∈ stepA id out a := by
  intro x hx
  unfold stepA
  split
  · exact hx
  · exact (mem_puts x _ _).2 (.inr hx)
theorem step_take (id : Int) (out : List Int) (a : Au) (h : a.id = id ∨ a.id ∈ out) : ∀ x ∈ a.above, x ∈ stepA id out a := by
  intro x hx
  unfold stepA
  rw [if_neg (by
    rintro ⟨h1, h2⟩
    rcases h with h | h
    · exact h1 h
    · exact h2 h)]
  exact (mem_puts x _ _).2 (.inl hx)
theorem fold_sub (id : Int) : ∀ (l : List Au) (out : List Int), ∀ x ∈ out, x ∈ l.foldl (stepA id) out
  | [], _, _, h => h
  | a :: r, out, x, h => fold_sub id r _ x (step_sub id out a x h)
theorem fold_take (id : Int) : ∀ (l : List Au) (out : List Int), ∀ a ∈ l, (a.id = id ∨ a.id ∈ out) → ∀ x ∈ a.above, x ∈ l.foldl (stepA id) out
  | [], _, _, h, _, _, _ => by cases h
  | b :: r, out, a, h, hr, x, hx => by
    rcases List.mem_cons.1 h with rfl | h
    · exact fold_sub id r _ x (step_take id out a hr x hx)
    · refine fold_take id r _ a h ?_ x hx
      rcases hr with hr | hr
      · exact .inl hr
      · exact .inr (step_sub id out b _ hr)
/-- A set that holds what is above its members and above `id`. -/
def Closed (l : List Au) (id : Int) (out : List Int) : Prop := ∀ a ∈ l, (a.id = id ∨ a.id ∈ out) → ∀ x ∈ a.above, x ∈ out
theorem fold_within (id : Int) (T : List Int) : ∀ (l : List Au) (out : List Int), (∀ a ∈ l, (a.id = id ∨ a.id ∈ T) → ∀ x ∈ a.above, x ∈ T) → (∀ x ∈ out, x ∈ T) → ∀ x ∈ l.foldl (stepA id) out, x ∈ T
  | [], _, _, h => h
  | a :: r, out, hT, h => by
    refine fold_within id T r _ (fun b hb => hT b (by simp [hb])) ?_
    intro x hx
    unfold stepA at hx
    split at hx
    · exact h x hx
    · rename_i hn
      rcases (mem_puts x _ _).1 hx with hx | hx
      · refine hT a (by simp) ?_ x hx
        by_cases h1 : a.id = id
        · exact .inl h1
        · refine .inr (h _ ?_)
          by_cases h2 : a.id ∈ out
          · exact h2
          · exact absurd ⟨h1, h2⟩ hn
      · exact h x hx
theorem iter_within (l : List Au) (id : Int) (T : List Int) (hT : ∀ a ∈ l, (a.id = id ∨ a.id ∈ T) → ∀ x ∈ a.above, x ∈ T) : ∀ k, ∀ x ∈ iterA l id k, x ∈ T
  | 0 => by intro x hx; cases hx
  | k + 1 => by
    show ∀ x ∈ roundA l id (iterA l id k), x ∈ T
    rw [round_fold]
    exact fold_within id T l _ hT (iter_within l id T hT k)
theorem iter_sub (l : List Au) (id : Int) (k : Nat) : ∀ x ∈ iterA l id k, x ∈ iterA l id (k + 1) := by
  show ∀ x ∈ iterA l id k, x ∈ roundA l id (iterA l id k)
  rw [round_fold]
  exact fold_sub id l _
/-- How many authorities a set reaches. -/
def reach (l : List Au) (id : Int) (out : List Int) : Nat := l.countP fun a => decide (a.id = id ∨ a.id ∈ out)
theorem reach_le (l : List Au) (id : Int) (out : List Int) : reach l id out ≤ l.length := List.countP_le_length
theorem count_same {p q : Au → Bool} : ∀ l : List Au, (∀ a ∈ l, p a = true → q a = true) → l.countP q ≤ l.countP p → ∀ a ∈ l, q a = true → p a = true
  | [], _, _, _, h, _ => by cases h
  | b :: r, hpq, hc, a, ha, hq => by
    have hr := fun a ha => hpq a (List.mem_cons_of_mem b ha)
    have hle : r.countP p ≤ r.countP q := List.countP_mono_left (fun x hx h => hr x hx h)
    rw [List.countP_cons, List.countP_cons] at hc
    have hb := hpq b (by simp)
    have h2 : r.countP q ≤ r.countP p ∧ (q b = true → p b = true) := by
      cases e1 : p b <;> cases e2 : q b
      · simp [e1, e2] at hc ⊢; omega
      · simp [e1, e2] at hc; omega
      · rw [hb e1] at e2; cases e2
      · simp [e1, e2] at hc ⊢; omega
    rcases List.mem_cons.1 ha with rfl | ha
    · exact h2.2 hq
    · exact count_same r hr h2.1 a ha hq
theorem reach_mono (l : List Au) (id : Int) (k : Nat) : reach l id (iterA l id k) ≤ reach l id (iterA l id (k + 1)) := by
  unfold reach
  refine List.countP_mono_left (fun a _ h => ?_)
  rw [decide_eq_true_eq] at h ⊢
  rcases h with h | h
  · exact .inl h
  · exact .inr (iter_sub l id k _ h)
theorem closed_at (l : List Au) (id : Int) (k : Nat) (h : reach l id (iterA l id (k + 1)) ≤ reach l id (iterA l id k)) : Closed l id (iterA l id (k + 1)) := by
  intro a ha hr x hx
  have hs := count_same (p := fun a => decide (a.id = id ∨ a.id ∈ iterA l id k)) (q := fun a => decide (a.id = id ∨ a.id ∈ iterA l id (k + 1))) l (by
    intro a _ h
    rw [decide_eq_true_eq] at h ⊢
    rcases h with h | h
    · exact .inl h
    · exact .inr (iter_sub l id k _ h)) h a ha (decide_eq_true hr)
  rw [decide_eq_true_eq] at hs
  show x ∈ roundA l id (iterA l id k)
  rw [round_fold]
  exact fold_take id l _ a ha hs x hx
theorem closed_next (l : List Au) (id : Int) (k : Nat) (h : Closed l id (iterA l id k)) : Closed l id (iterA l id (k + 1)) := by
  have hw := fold_within id (iterA l id k) l (iterA l id k) h (fun x hx => hx)
  intro a ha hr x hx
  refine iter_sub l id k x (h a ha ?_ x hx)
  rcases hr with hr | hr
  · exact .inl hr
  · exact .inr (hw _ hr)
theorem closed_or (l : List Au) (id : Int) : ∀ k, Closed l id (iterA l id k) ∨ k ≤ reach l id (iterA l id k)
  | 0 => .inr (Nat.zero_le _)
  | k + 1 => by
    rcases closed_or l id k with h | h
    · exact .inl (closed_next l id k h)
    · by_cases h2 : reach l id (iterA l id (k + 1)) ≤ reach l id (iterA l id k)
      · exact .inl (closed_at l id k h2)
      · exact .inr (by omega)
theorem above_closed (l : List Au) (id : Int) : Closed l id (aboveA l id) := by
  rcases closed_or l id (l.length + 1) with h | h
  · exact h
  · have := reach_le l id (iterA l id (l.length + 1))
    omega
/-- Who is above one is above all below it. -/
theorem above_trans (l : List Au) (i k j : Int) (h1 : k ∈ aboveA l i) (h2 : j ∈ aboveA l k) : j ∈ aboveA l i := by
  refine iter_within l k (aboveA l i) (fun a ha hr => above_closed l i a ha ?_) _ j h2
  rcases hr with hr | hr
  · rw [hr]; exact .inr h1
  · exact .inr hr
theorem mem_below (l : List Au) (id x : Int) : x ∈ belowA l id ↔ ∃ a ∈ l, a.id = x ∧ id ∈ aboveA l a.id := by
  have key : ∀ (r : List Au) (out : List Int), x ∈ r.foldl (fun out a => if id ∈ aboveA l a.id then putI out a.id else out) out ↔ x ∈ out ∨ ∃ a ∈ r, a.id = x ∧ id ∈ aboveA l a.id := by
    intro r
    induction r with
    | nil => intro out; simp
    | cons a r ih =>
      intro out
      rw [List.foldl_cons, ih]
      by_cases h : id ∈ aboveA l a.id
      · rw [if_pos h, mem_put]
        constructor
        · rintro ((rfl | h1) | ⟨b, hb, h1⟩)
          · exact .inr ⟨a, by simp, rfl, h⟩
          · exact .inl h1
          · exact .inr ⟨b, by simp [hb], h1⟩
        · rintro (h1 | ⟨b, hb, h1, h2⟩)
          · exact .inl (.inr h1)
          · rcases List.mem_cons.1 hb with rfl | hb
            · exact .inl (.inl h1.symm)
            · exact .inr ⟨b, hb, h1, h2⟩
      · rw [if_neg h]
        constructor
        · rintro (h1 | ⟨b, hb, h1⟩)
          · exact .inl h1
          · exact .inr ⟨b, by simp [hb], h1⟩
        · rintro (h1 | ⟨b, hb, h1, h2⟩)
          · exact .inl h1
          · rcases List.mem_cons.1 hb with rfl | hb
            · exact absurd h2 h
            · exact .inr ⟨b, hb, h1, h2⟩
  unfold belowA
  rw [key]
  simp
/-- One is above another one exactly if that one is below it. -/
theorem above_below (l : List Au) (a : Au) (ha : a ∈ l) (id : Int) : id ∈ aboveA l a.id ↔ a.id ∈ belowA l id := by
  rw [mem_below]
  constructor
  · intro h; exact ⟨a, ha, rfl, h⟩
  · rintro ⟨b, _, h1, h2⟩
    rw [h1] at h2
    exact h2
end

section
open Go.RowKit Go.PlainAid
theorem insI_len (n : Int) : ∀ b : List Int, (insI b n).length = b.length + 1
  | [] => rfl
  | y :: r => by
    rw [insI]
    split
    · rfl
    · rw [List.length_cons, insI_len n r, List.length_cons]
theorem putI_len (l : List Int) (n : Int) : (putI l n).length ≤ l.length + 1 := by
  unfold putI
  split
  · omega
  · rw [insI_len]
    exact Nat.le_refl _
theorem puts_len : ∀ (ns l : List Int), (ns.foldl putI l).length ≤ l.length + ns.length
  | [], l => by simp
  | n :: r, l => by
    have h1 := puts_len r (putI l n)
    have h2 := putI_len l n
    rw [List.foldl_cons, List.length_cons]
    omega
theorem step_len (id : Int) (out : List Int) (a : Au) (m : Nat) (h : a.above.length ≤ m) : (stepA id out a).length ≤ out.length + m := by
  unfold stepA
  split
  · omega
  · have := puts_len a.above out
    omega
theorem foldA_len (id : Int) (m : Nat) : ∀ (l : List Au) (out : List Int), (∀ a ∈ l, a.above.length ≤ m) → (l.foldl (stepA id) out).length ≤ out.length + m * l.length
  | [], out, _ => by simp
  | a :: r, out, h => by
    have h1 := foldA_len id m r (stepA id out a) (fun b hb => h b (by simp [hb]))
    have h2 := step_len id out a m (h a (by simp))
    rw [List.foldl_cons, List.length_cons, Nat.mul_add]
    omega
theorem iter_len (l : List Au) (id : Int) (m : Nat) (h : ∀ a ∈ l, a.above.length ≤ m) : ∀ k, (iterA l id k).length ≤ k * (m * l.length)
  | 0 => by simp [iterA]
  | k + 1 => by
    have h1 := foldA_len id m l (iterA l id k) h
    have h2 := iter_len l id m h k
    rw [iterA, round_fold, Nat.add_mul]
    omega
theorem mid_len (l : List Au) (id : Int) (m n : Nat) (h : ∀ a ∈ l, a.above.length ≤ m) (hn : l.length = n) (hn2 : n ≤ 64) (hm : m ≤ 100) (r i : Nat) (hr : r ≤ n + 1) :
    (((l.take i).foldl (stepA id) (iterA l id r))).length ≤ 500000 := by
  have h1 := foldA_len id m (l.take i) (iterA l id r) (fun a ha => h a (List.mem_of_mem_take ha))
  have h2 := iter_len l id m h r
  have h3 : (l.take i).length ≤ 64 := by rw [List.length_take]; omega
  have h4 : m * (l.take i).length ≤ 100 * 64 := Nat.mul_le_mul hm h3
  have h5 : m * l.length ≤ 100 * 64 := Nat.mul_le_mul hm (by omega)
  have h6 : r * (m * l.length) ≤ 65 * (100 * 64) := Nat.mul_le_mul (by omega) h5
  omega
theorem take_snocA (L : List Au) (k : Nat) (h : k < L.length) : L.take (k + 1) = L.take k ++ [L.getD k au0] := by
  rw [List.take_succ_eq_append_getElem h, List.getD_eq_getElem?_getD, List.getElem?_eq_getElem h]
  rfl
theorem fold_snoc (id : Int) (L : List Au) (k : Nat) (h : k < L.length) (out : List Int) : (L.take (k + 1)).foldl (stepA id) out = stepA id ((L.take k).foldl (stepA id) out) (L.getD k au0) := by
  rw [take_snocA L k h, List.foldl_append]
  rfl
theorem puts_snoc (l : List Int) (k : Nat) (h : k < l.length) (out : List Int) : (l.take (k + 1)).foldl putI out = putI ((l.take k).foldl putI out) (l.getD k 0) := by
  rw [take_snocI l k h, List.foldl_append]
  rfl
theorem IL.length {v : Value} {l : List Int} {w : World} (h : IL v l w) : ∃ a cap, v = .slice a l.length cap ∧ l.length ≤ cap := by
  obtain ⟨a, cap, h1, h2, _⟩ := h
  exact ⟨a, cap, h1, h2⟩
theorem mem_getDA (L : List Au) (k : Nat) (h : k < L.length) : L.getD k au0 ∈ L := by
  rw [List.getD_eq_getElem?_getD, List.getElem?_eq_getElem h]
  exact List.getElem_mem _
/-- What is read of an element of a slice of authorities, in any later world. -/
theorem AL.read {v : Value} {L : List Au} {w : World} (h : AL v L w) (k : Nat) (hk : k < L.length) : ∃ g o cap s t, v = .slice (some ⟨g, o, none⟩) L.length cap ∧ g < w.heap.size ∧
    ∀ W, Below w.heap.size w W → W.cell? ⟨g, o + k * 5, none⟩ = some (.int .i64 (L.getD k au0).id) ∧ W.cell? ⟨g, o + k * 5 + 1, none⟩ = some (.int .i64 (L.getD k au0).kind) ∧ W.cell? ⟨g, o + k * 5 + 2, none⟩ = some (.string (S (L.getD k au0).heading)) ∧
      W.cell? ⟨g, o + k * 5 + 3, none⟩ = some s ∧ W.cell? ⟨g, o + k * 5 + 4, none⟩ = some t ∧ AN (L.getD k au0) s t W := by
  obtain ⟨g, o, cap, s, t, hv, hg, c0, c1, c2, c3, c4, hq⟩ := h.at k hk
  exact ⟨g, o, cap, s, t, hv, hg, fun W hW => ⟨(hW.cell (p := ⟨g, o + k * 5, none⟩) hg).trans c0, (hW.cell (p := ⟨g, o + k * 5 + 1, none⟩) hg).trans c1, (hW.cell (p := ⟨g, o + k * 5 + 2, none⟩) hg).trans c2,
    (hW.cell (p := ⟨g, o + k * 5 + 3, none⟩) hg).trans c3, (hW.cell (p := ⟨g, o + k * 5 + 4, none⟩) hg).trans c4, hq.after hW⟩⟩
end

section
open Go.RowKit Go.PlainAid
theorem IL.at14 {v : Value} {l : List Int} {w : World} (h : IL v l w) (k : Nat) (hk : k < l.length) : ∃ g o cap, v = .slice (some ⟨g, o, none⟩) l.length cap ∧ g < w.heap.size ∧ w.cell? ⟨g, o + k, none⟩ = some (.int .i64 (l.getD k 0)) := by
  obtain ⟨a, cap, rfl, hc, hx⟩ := h
  obtain ⟨g, o, rfl, hg, c⟩ := hx k (l.getD k 0) (by rw [List.getD_eq_getElem?_getD, List.getElem?_eq_getElem hk]; rfl)
  exact ⟨g, o, cap, rfl, hg, c⟩
set_option maxHeartbeats 8000000 in
set_option maxRecDepth 100000 in
theorem lsame14_any (l : List Int) (u v : Value) (w : World) (hu : IL u l w) (hv : IL v l w) (hz : l.length ≤ 1000000) :
    Calls Tryz.prog 15 #[u, v] w fun e w' => e = .returned (.bool true) ∧ Below w.heap.size w w' := by
  have HU := Lib.hid (fun (W : World) (h : Below w.heap.size w W) => hu.after h)
  have HV := Lib.hid (fun (W : World) (h : Below w.heap.size w W) => hv.after h)
  obtain ⟨a, cap, rfl, hc, -⟩ := hu
  obtain ⟨a2, cap2, rfl, hc2, -⟩ := hv
  generalize hn : l.length = n at *
  have HN := Lib.hid hn
  clear hn
  have t : ((n : Int) != (n : Int)) = false := by simp
  go_enter Tryz.func15, Tryz.ntmps15
  go_wp2
  go_loopw [13] (fun s13 wr => ∃ k : Nat, s13 = .int .i64 (k : Int) ∧ k ≤ n ∧ RowKit.Hid (Below w.heap.size w wr)) (fun s13 _ => n - (intOf s13).toNat)
  case atStart => exact ⟨0, rfl, Nat.zero_le _, Below.refl _ _⟩
  case round =>
    obtain ⟨k, rfl, hk, HB⟩ := hrel
    by_cases hkn : k < n
    · have i1 : (0 : Int) ≤ (k : Int) := by omega
      have i2 : (k : Int) < (n : Int) := by omega
      obtain ⟨g, o, cp, he, hg, c1⟩ := (HU.out wr HB.out).at14 k (by rw [HN.out]; exact hkn)
      obtain ⟨rfl, -, -⟩ := Value.slice.inj he
      obtain ⟨g2, o2, cp2, he2, hg2, d1⟩ := (HV.out wr HB.out).at14 k (by rw [HN.out]; exact hkn)
      obtain ⟨rfl, -, -⟩ := Value.slice.inj he2
      have t2 : (l.getD k 0 != l.getD k 0) = false := by simp
      have HBd := Lib.hid HB.out.drew
      clear he he2 hg hg2
      generalize l.getD k 0 = y at *
      go_wp2
      go_region
      go_wp2
      go_roundw
      case rel => exact ⟨k + 1, by go_num, by omega, HBd.out⟩
      case measure => simp [intOf]; omega
    · obtain rfl : k = n := by omega
      have HF := Lib.hid HB.out
      clear HB
      go_wp2
      go_ret
      exact ⟨rfl, HF.out⟩
end

end Go.Proofs.YthjdopnoophigaaGreatDoor
