/- Merged: RegInv, R13D, Iter. -/
import Derived.Test.YtmcolapcmjdoeaaGreatDoorProg
import Derived.Orders
import Derived.Below
import Derived.WalkKit
import Derived.Lib.Hide
import Derived.Test.YtmcolapcmjdoeaaGreatDoorQ05
import Derived.Test.YtmcolapcmjdoeaaGreatDoorQ02
import Derived.Lib.OthersKept
import Derived.WalkLawsBesides
namespace Go.Proofs.YtmcolapcmjdoeaaGreatDoor

section
open Go.RowKit
/-- The state in which the operations of a region have left these values. -/
def puts : List Oper → (Nat → Value) → Nat → Act → Act
  | [], _, _, a => a
  | o :: r, vs, k, a => puts r vs (k + 1) (a.put o.dst (vs k))
theorem put_put (a : Act) (d : Option Tmp) (u v : Value) : (a.put d u).put d v = a.put d v := by
  cases d with
  | none => rfl
  | some d =>
    unfold Act.put
    simp
theorem puts_congr : ∀ (r : List Oper) (vs us : Nat → Value) (k : Nat) (a : Act), (∀ j, k ≤ j → vs j = us j) → puts r vs k a = puts r us k a
  | [], _, _, _, _, _ => rfl
  | o :: r, vs, us, k, a, h => by
    rw [puts, puts, h k (Nat.le_refl k)]
    exact puts_congr r vs us (k + 1) _ (fun j hj => h j (by omega))
theorem puts_put : ∀ (r : List Oper) (vs : Nat → Value) (k : Nat) (a : Act) (d : Option Tmp) (v : Value), (∀ o, o ∈ r → ∀ x, o.dst = some x → d ≠ some x) → (puts r vs k a).put d v = puts r vs k (a.put d v)
  | [], _, _, _, _, _, _ => rfl
  | o :: r, vs, k, a, d, v, h => by
    rw [puts, puts, puts_put r vs (k + 1) _ d v (fun p hp => h p (List.mem_cons_of_mem _ hp)), Act.put_comm a (vs k) v (h o (List.mem_cons_self ..))]
/-- No two operations lay their value at one place. -/
def distinctB : List Oper → Bool
  | [] => true
  | o :: r => (match o.dst with
    | some d => r.all fun p => !decide (p.dst = some d)
    | none => true) && distinctB r
theorem distinct_head {o : Oper} {r : List Oper} (h : distinctB (o :: r) = true) : ∀ p, p ∈ r → ∀ x, p.dst = some x → o.dst ≠ some x := by
  intro p hp x hx ho
  unfold distinctB at h
  rw [ho, Bool.and_eq_true] at h
  have h1 : r.all (fun p => !decide (p.dst = some x)) = true := h.1
  have := List.all_eq_true.1 h1 p hp
  simp [hx] at this
theorem distinct_tail {o : Oper} {r : List Oper} (h : distinctB (o :: r) = true) : distinctB r = true := by
  unfold distinctB at h
  rw [Bool.and_eq_true] at h
  exact h.2
def upd (vs : Nat → Value) (i : Nat) (v : Value) : Nat → Value := fun j => if j = i then v else vs j
theorem puts_upd : ∀ (r : List Oper) (vs : Nat → Value) (k m : Nat) (a : Act) (o : Oper) (v : Value), distinctB r = true → r[m]? = some o → (puts r vs k a).put o.dst v = puts r (upd vs (k + m) v) k a
  | [], _, _, _, _, _, _, _, h => by cases h
  | o' :: r, vs, k, 0, a, o, v, hd, h => by
    obtain rfl : o' = o := by simpa using h
    rw [puts, puts, puts_put r vs (k + 1) _ _ v (distinct_head hd), put_put]
    have e : upd vs (k + 0) v k = v := by simp [upd]
    rw [e]
    refine puts_congr r _ _ (k + 1) _ (fun j hj => ?_)
    unfold upd
    rw [if_neg (by omega)]
  | o' :: r, vs, k, m + 1, a, o, v, hd, h => by
    have h' : r[m]? = some o := by simpa using h
    have e : upd vs (k + (m + 1)) v k = vs k := by
      unfold upd
      rw [if_neg (by omega)]
    rw [puts, puts, e, puts_upd r vs (k + 1) m _ o v (distinct_tail hd) h', show k + 1 + m = k + (m + 1) by omega]
theorem put_self (a : Act) (d : Option Tmp) : ∃ v, a.put d v = a := by
  cases d with
  | none => exact ⟨undef, rfl⟩
  | some d =>
    refine ⟨a.tmps.getD d undef, ?_⟩
    unfold Act.put
    have e : a.tmps.setIfInBounds d (a.tmps.getD d undef) = a.tmps := by
      apply Array.ext
      · simp
      · intro i h1 h2
        rw [Array.getElem_setIfInBounds]
        split
        · rename_i he
          subst he
          simp [h2]
        · rfl
    show ({ a with tmps := a.tmps.setIfInBounds d (a.tmps.getD d undef) } : Act) = a
    rw [e]
theorem puts_self : ∀ (r : List Oper) (k : Nat) (a : Act), ∃ vs, puts r vs k a = a
  | [], _, _ => ⟨fun _ => undef, rfl⟩
  | o :: r, k, a => by
    obtain ⟨us, hu⟩ := puts_self r (k + 1) a
    obtain ⟨v, hv⟩ := put_self a o.dst
    refine ⟨upd us k v, ?_⟩
    have e : upd us k v k = v := by simp [upd]
    rw [puts, e, hv]
    rw [← hu]
    rw [puts_congr r (upd us k v) us (k + 1) _ (fun j hj => by unfold upd; rw [if_neg (by omega)])]
    rw [hu, hu]

/-- What an operation yields, as long as memory only grows. -/
structure SP where
  p : Value → World → Prop
  st : ∀ v w w', p v w → Below w.heap.size w w' → p v w'
def SP.any : SP := ⟨fun _ _ => True, fun _ _ _ _ _ => trivial⟩
def SP.eq (x : Value) : SP := ⟨fun v _ => v = x, fun _ _ _ h _ => h⟩
/-- Does an operation wait for number j? -/
def depB (o : Oper) (j : Nat) : Bool := o.after.any fun e => Region.binds .any e && decide (e.on = j)
/-- Each operation waits only for earlier ones. -/
def backB : List Oper → Nat → Bool
  | [], _ => true
  | o :: r, k => (o.after.all fun e => !Region.binds .any e || decide (e.on < k)) && backB r (k + 1)
theorem back_at : ∀ (r : List Oper) (k m : Nat) (o : Oper), backB r k = true → r[m]? = some o → ∀ e, e ∈ o.after → Region.binds .any e = true → e.on < k + m
  | [], _, _, _, _, h, _, _, _ => by cases h
  | o' :: r, k, 0, o, hb, h, e, he, hx => by
    obtain rfl : o' = o := by simpa using h
    unfold backB at hb
    rw [Bool.and_eq_true] at hb
    have := (Array.all_eq_true_iff_forall_mem.1 hb.1) e he
    rw [hx] at this
    simpa using this
  | o' :: r, k, m + 1, o, hb, h, e, he, hx => by
    unfold backB at hb
    rw [Bool.and_eq_true] at hb
    have := back_at r (k + 1) m o hb.2 (by simpa using h) e he hx
    omega

section
variable (P : Program) (Q : Exit → Act → World → Prop) (ops : Array Oper) (A : (Nat → Value) → Act) (w0 : World) (V : List SP)
/-- Whatever came before: the operation yields what is said of it. -/
def Ob (k : Nat) (o : Oper) : Prop :=
  ∀ (vs : Nat → Value) (w : World), Below w0.heap.size w0 w → (∀ j, depB o j = true → (V.getD j SP.any).p (vs j) w) → ∀ K : Act → World → Prop,
    RowKit.Hid (∀ v w', (V.getD k SP.any).p v w' → Below w.heap.size w w' → K ((A vs).put o.dst v) w') →
    if Region.wanted o (yielded ops (A vs).tmps) = true then Oper.wp P o (A vs) w K Q else K ((A vs).put o.dst undef) w
def Obs : List Oper → Nat → Prop
  | [], _ => True
  | o :: r, k => Ob P Q ops A w0 V k o ∧ Obs r (k + 1)
theorem Obs.at : ∀ (r : List Oper) (k m : Nat) (o : Oper), Obs P Q ops A w0 V r k → r[m]? = some o → Ob P Q ops A w0 V (k + m) o
  | [], _, _, _, _, h => by cases h
  | o' :: r, k, 0, o, hO, h => by
    obtain rfl : o' = o := by simpa using h
    exact hO.1
  | o' :: r, k, m + 1, o, hO, h => by
    have := Obs.at r (k + 1) m o hO.2 (by simpa using h)
    rwa [show k + 1 + m = k + (m + 1) by omega] at this
theorem Obs.nil {k : Nat} : Obs P Q ops A w0 V [] k := trivial
theorem Obs.cons {o : Oper} {r : List Oper} {k : Nat} (h : Ob P Q ops A w0 V k o) (t : Obs P Q ops A w0 V r (k + 1)) : Obs P Q ops A w0 V (o :: r) k := ⟨h, t⟩
end

theorem wpAny_inv {P : Program} {Q : Exit → Act → World → Prop} {ops : Array Oper} (I : Array Bool → Act → World → Prop)
    (hs : ∀ l a w, I l a w → l.size = ops.size)
    (step : ∀ l a w i, I l a w → i ∈ Region.ready .any ops l → wpOp P ops Q i (fun a' w' => I (l.setIfInBounds i true) a' w') a w)
    (fin : ∀ l a w, I l a w → Region.ready .any ops l = [] → Q .normal a w) :
    ∀ (fuel : Nat) (l : Array Bool) (a : Act) (w : World), l.toList.count false ≤ fuel → I l a w → wpAny P .any ops Q fuel l a w
  | 0, l, a, w, hf, hI => by
    have hr : Region.ready .any ops l = [] := by
      rw [List.eq_nil_iff_forall_not_mem]
      intro j hj
      have h0 := (mem_ready.1 hj).1
      have hlt : j < l.size := by
        rcases Nat.lt_or_ge j l.size with h' | h'
        · exact h'
        · simp [Array.getElem?_eq_none h'] at h0
      have hm : false ∈ l.toList := by
        have : l[j] = false := by simpa [hlt] using h0
        rw [← this]
        simp
      have := List.count_pos_iff.2 hm
      omega
    exact ⟨hr, fin l a w hI hr⟩
  | fuel + 1, l, a, w, hf, hI => by
    refine ⟨fun h => fin l a w hI h, fun i hi => ?_⟩
    refine wpOp_mono (fun a' w' hI' => wpAny_inv I hs step fin fuel _ a' w' ?_ hI') (step l a w i hI hi)
    have h0 := (mem_ready.1 hi).1
    have hlt : i < l.size := by
      rcases Nat.lt_or_ge i l.size with h' | h'
      · exact h'
      · simp [Array.getElem?_eq_none h'] at h0
    have hli : l.toList[i]'(by simpa using hlt) = false := by simpa [hlt] using h0
    have hc : (l.toList.set i true).count false = l.toList.count false - 1 := by
      rw [List.count_set (by simpa using hlt), hli]
      simp
    rw [Array.toList_setIfInBounds, hc]
    omega

theorem wp_region_inv {P : Program} {id : Nat} {ops : Array Oper} {Q : Exit → Act → World → Prop} {a0 : Act} {w0 : World} (V : List SP) (A : (Nat → Value) → Act)
    (hm : P.follows .mixedOrders = true) (hd : distinctB ops.toList = true) (hb : backB ops.toList 0 = true) (hA : ∀ vs, puts ops.toList vs 0 a0 = A vs)
    (hob : Obs P Q ops A w0 V ops.toList 0)
    (hfin : ∀ vs w, Below w0.heap.size w0 w → (∀ k, k < ops.size → (V.getD k SP.any).p (vs k) w) → Q .normal (A vs) w) :
    (Code.region id ops true).wp P Q a0 w0 := by
  refine wp_region_any hm ?_
  refine wpAny_inv (I := fun l a w => l.size = ops.size ∧ ∃ vs, a = A vs ∧ Below w0.heap.size w0 w ∧ ∀ k, l.getD k false = true → (V.getD k SP.any).p (vs k) w) (fun l a w h => h.1) ?_ ?_ _ _ _ _ ?_ ?_
  · rintro l a w i ⟨hl, vs, rfl, hw, hk⟩ hi
    obtain ⟨h0, o, ho, hall⟩ := mem_ready.1 hi
    have hlt : i < ops.size := (Array.getElem?_eq_some_iff.1 ho).1
    have hO := Obs.at P Q ops A w0 V ops.toList 0 i o hob (by simpa using ho)
    rw [Nat.zero_add] at hO
    have hput : ∀ v, (A vs).put o.dst v = A (upd vs i v) := fun v => by
      rw [← hA, ← hA, puts_upd ops.toList vs 0 i a0 o v hd (by simpa using ho), Nat.zero_add]
    have hst := hO vs w hw (fun j hj => by
      unfold depB at hj
      rw [Array.any_eq_true'] at hj
      obtain ⟨e, he, hx⟩ := hj
      rw [Bool.and_eq_true, decide_eq_true_eq] at hx
      obtain ⟨hx, rfl⟩ := hx
      exact hk _ (hall e he hx)) (fun a' w' => (l.setIfInBounds i true).size = ops.size ∧ ∃ vs, a' = A vs ∧ Below w0.heap.size w0 w' ∧ ∀ k, (l.setIfInBounds i true).getD k false = true → (V.getD k SP.any).p (vs k) w')
      (by
        intro v w' hv hbw
        refine ⟨by simpa using hl, upd vs i v, hput v, hw.trans (hbw.mono hw.size), fun k hk' => ?_⟩
        by_cases hki : k = i
        · subst hki
          have e : upd vs k v k = v := by simp [upd]
          rw [e]
          exact hv
        · have e : upd vs i v k = vs k := by unfold upd; rw [if_neg hki]
          rw [e]
          refine (V.getD k SP.any).st _ _ _ (hk k ?_) hbw
          rwa [getD_set_ne false (Ne.symm hki)] at hk')
    unfold wpOp
    simp only [ho]
    split
    · rename_i hw'
      rw [if_pos hw'] at hst
      exact .inl hst
    · rename_i hw'
      rw [if_neg hw'] at hst
      exact hst
  · rintro l a w ⟨hl, vs, rfl, hw, hk⟩ hr
    have hall : ∀ k, k < ops.size → l.getD k false = true := by
      intro k
      induction k using Nat.strongRecOn with
      | ind k ih =>
        intro hk'
        cases hlk : l.getD k false with
        | true => rfl
        | false =>
          exfalso
          have : k ∈ Region.ready .any ops l := by
            rw [mem_ready]
            refine ⟨?_, ops[k], Array.getElem?_eq_getElem hk', fun e he hx => ?_⟩
            · have : k < l.size := by omega
              simpa [this] using hlk
            · have := back_at ops.toList 0 k ops[k] hb (by simp [hk']) e he hx
              exact ih e.on (by omega) (by omega)
          rw [hr] at this
          cases this
    exact hfin vs w hw (fun k hk' => hk k (hall k hk'))
  · have : ∀ n : Nat, (List.replicate n false).count false = n := fun n => by simp
    simp
  · obtain ⟨vs, hvs⟩ := puts_self ops.toList 0 a0
    refine ⟨by simp, vs, by rw [← hA, hvs], (Below.refl _ w0).drew, fun k hk => ?_⟩
    by_cases h : k < ops.size
    · simp [h] at hk
    · simp [h] at hk
end

section
open Go.RowKit Go.PlainAid
def intV (x : Int) : Value := .int .i64 x
theorem infoInt13 : (Tryz.prog.info? 3).map (fun i => (i.zero, i.size, i.bytes)) = some (some (.int .i64 0), 1, 8) := by kernel_rfl
theorem info_int13 : ∃ i0, Tryz.prog.info? 3 = some i0 ∧ i0.zero = some (.int .i64 0) ∧ i0.size = 1 ∧ i0.bytes = 8 := by
  obtain ⟨i0, h0, h2⟩ := Option.map_eq_some_iff.1 infoInt13
  simp only [Prod.mk.injEq] at h2
  exact ⟨i0, h0, h2.1, h2.2.1, h2.2.2⟩
/-- A slice of integers of the call's own, nil at first. -/
def IR (B : Nat) (v : Value) (l : List Int) (w : World) : Prop := w.ownsRow B 3 1 v l.length (l.map intV)
theorem IR.after {B : Nat} {v : Value} {l : List Int} {w w' : World} (h : IR B v l w) (hb : Below w.heap.size w w') : IR B v l w' := own_after h hb
theorem IR.zero (B : Nat) (w : World) : IR B (.slice none 0 0) [] w := ⟨rfl, .inl ⟨rfl, rfl⟩⟩
theorem IR.il {B : Nat} {v : Value} {l : List Int} {w : World} (h : IR B v l w) : IL v l w := by
  rcases h.2 with ⟨rfl, h0⟩ | ⟨g, cap, cur, rfl, hg0, hg, hc, hm, hsz, ht⟩
  · have : l = [] := List.eq_nil_of_length_eq_zero h0
    subst this
    exact IL.nil w
  · refine ⟨_, cap, rfl, hc, fun i x hx => ⟨g, 0, rfl, (Array.getElem?_eq_some_iff.1 hg).1, ?_⟩⟩
    have := World.ownsRow.cells h (g := g) rfl i (intV x) (by rw [List.getElem?_map, hx]; rfl)
    have hadd : (⟨g, 0, none⟩ : Addr).add i = ⟨g, i, none⟩ := by unfold Addr.add; split <;> simp_all
    rw [hadd] at this
    rw [Nat.zero_add]
    exact this
theorem cells_int13 (w : World) (x : Value) (t : TypeId) : ∀ j u, [x][j]? = some u → (w.alloc (.cells #[x] t)).cell? ((⟨w.heap.size, 0, none⟩ : Addr).add j) = some u := cells_one12 w x t
/-- append of one integer that has just been laid to such a row. -/
theorem append_ir {ops : Array Oper} {rest : List Oper} {o : Oper} {a : Act} {Q : Exit → Act → World → Prop} (w : World) (hgd : o.guard = none) (s x : Operand)
    (ho : o.op = .call { callee := .builtin .append, args := #[s, x], argTypes := #[29, 29] })
    (B : Nat) (v : Value) (L : List Int) (y : Int) (hs : a.eval s = v) (h : IR B v L w) (hx : a.eval x = .slice (some ⟨w.heap.size, 0, none⟩) 1 1) (hz : L.length ≤ 10000000) (hB : B ≤ w.heap.size)
    (N : Nat) (W1 : World) (hNB : N ≤ B) (hb : Below N W1 w)
    (hk : ∀ v' w', IR B v' (L ++ [y]) w' → Below N W1 w' → B ≤ w'.heap.size → wpList Tryz.prog ops Q rest (a.put o.dst v') w') : wpList Tryz.prog ops Q (o :: rest) a (w.alloc (.cells #[intV y] 3)) := by
  obtain ⟨i0, hi, hz0, hz1, hz2⟩ := info_int13
  have hrow := World.ownsRow.alloc h (.cells #[intV y] 3)
  refine wpList_append_own _ hgd s x 29 ho B 3 i0 (.int .i64 0) 1 8 Tryz.underlying29 hi hz0 hz1 hz2 rfl (by decide) v L.length _ hs hrow ⟨w.heap.size, 0, none⟩ 1 1 [intV y] hx rfl (cells_one12 _ _ _) (by intro u hu; simp at hu; subst hu; rfl) (by unfold maxLen; omega) (by omega) (by simp; omega) ?_
  intro v2 w2 hown2 hg2 hn2
  refine hk v2 w2 (by unfold IR; rw [List.length_append, List.map_append]; exact hown2) ?_ (Nat.le_trans (by simp; omega) hg2.size)
  exact (hb.alloc (by omega) _).grown hg2 (by simp; omega) (fun j hj => Nat.le_trans hNB (hrow.lt j hj).1)

/-! Inserting, from left to right. -/
def anyG (a : List Int) (n : Int) : Bool := a.any fun x => decide (n < x)
def insS (a : List Int) (n : Int) : List Int := if anyG a n = true then insI a n else a
theorem ins_app (n x : Int) : ∀ a : List Int, insI (a ++ [x]) n = if anyG a n = true then insI a n ++ [x] else if n < x then a ++ [n, x] else a ++ [x, n]
  | [] => by
    rw [List.nil_append, insI, insI]
    by_cases h : n < x
    · rw [if_pos h, if_neg (by simp [anyG]), if_pos h]; rfl
    · rw [if_neg h, if_neg (by simp [anyG]), if_neg h]; rfl
  | y :: r => by
    rw [List.cons_append, insI, insI, ins_app n x r]
    by_cases h : n < y
    · have : anyG (y :: r) n = true := by simp [anyG, h]
      rw [if_pos h, if_pos this, if_pos h]
      rfl
    · have : anyG (y :: r) n = anyG r n := by simp [anyG, h]
      rw [if_neg h, this, if_neg h]
      by_cases h2 : anyG r n = true
      · rw [if_pos h2, if_pos h2]; rfl
      · rw [if_neg h2, if_neg h2]
        by_cases h3 : n < x
        · rw [if_pos h3, if_pos h3]; rfl
        · rw [if_neg h3, if_neg h3]; rfl
theorem ins_none (n : Int) : ∀ a : List Int, anyG a n = false → insI a n = a ++ [n]
  | [], _ => rfl
  | y :: r, h => by
    have h1 : ¬ n < y := by
      intro g
      simp [anyG, g] at h
    have h2 : anyG r n = false := by simpa [anyG, h1] using h
    rw [insI, if_neg h1, ins_none n r h2]
    rfl
theorem anyG_app (a : List Int) (n x : Int) : anyG (a ++ [x]) n = (anyG a n || decide (n < x)) := by simp [anyG]
theorem insS_len (a : List Int) (n : Int) : (insS a n).length ≤ a.length + 1 := by
  unfold insS
  split
  · have : ∀ b : List Int, (insI b n).length = b.length + 1 := by
      intro b
      induction b with
      | nil => rfl
      | cons y r ih =>
        rw [insI]
        split <;> simp [ih]
    rw [this]
    exact Nat.le_refl _
  · omega
theorem insS_step (a : List Int) (n x : Int) : insS (a ++ [x]) n = if anyG a n = true then insS a n ++ [x] else if n < x then insS a n ++ [n] ++ [x] else insS a n ++ [x] := by
  unfold insS
  rw [anyG_app, ins_app]
  by_cases h : anyG a n = true
  · rw [h, if_pos rfl, if_pos rfl, if_pos rfl]
    rfl
  · rw [if_neg h, if_neg h]
    have h' : anyG a n = false := Bool.eq_false_iff.2 h
    rw [h', Bool.false_or]
    by_cases h2 : n < x
    · rw [if_pos (decide_eq_true h2), if_pos h2, if_pos h2, if_neg (by decide)]
      simp
    · rw [if_neg (by rw [decide_eq_false h2]; decide), if_neg h2, if_neg (by decide)]
theorem insS_end (a : List Int) (n : Int) : insI a n = if anyG a n = true then insS a n else insS a n ++ [n] := by
  unfold insS
  by_cases h : anyG a n = true
  · rw [if_pos h, if_pos h]
  · rw [if_neg h, if_neg h, ins_none n a (Bool.eq_false_iff.2 h)]
theorem take_snocI (l : List Int) (k : Nat) (h : k < l.length) : l.take (k + 1) = l.take k ++ [l.getD k 0] := by
  rw [List.take_succ_eq_append_getElem h, List.getD_eq_getElem?_getD, List.getElem?_eq_getElem h]
  rfl
set_option maxHeartbeats 16000000 in
set_option maxRecDepth 100000 in
theorem refPut_any (v : Value) (l : List Int) (x : Int) (w : World) (hv : IL v l w) (hz : l.length ≤ 1000000) :
    Calls Tryz.prog 62 #[v, .int .i64 x] w fun e w' => ∃ v', e = .returned v' ∧ IL v' (putI l x) w' ∧ Below w.heap.size w w' := by
  obtain ⟨Q, hQ⟩ : ∃ Q, (fun (e : Ending) (w' : World) => ∃ v', e = .returned v' ∧ IL v' (putI l x) w' ∧ Below w.heap.size w w') = Q := ⟨_, rfl⟩
  rw [hQ]
  have HQ : RowKit.Hid (∀ v' W, IL v' (putI l x) W → Below w.heap.size w W → Q (.returned v') W) := by rw [← hQ]; exact fun v W h k => ⟨v, rfl, h, k⟩
  clear hQ
  have HV := Lib.hid hv
  obtain ⟨hb, hhb⟩ : ∃ b, decide (x ∈ l) = b := ⟨_, rfl⟩
  have cH := refHas_any v l x w hv hz
  rw [hhb] at cH
  have CH := Lib.hid cH
  obtain ⟨a, cap, rfl, hc, -⟩ := hv
  obtain ⟨n, hn⟩ : ∃ n, l.length = n := ⟨_, rfl⟩
  have HN := Lib.hid hn
  rw [hn] at HV CH hc hz ⊢
  cases hb with
  | true =>
    have hp : putI l x = l := by unfold putI; rw [if_pos (of_decide_eq_true hhb)]
    rw [hp] at HQ
    clear hn hhb hp cH
    go_enter Tryz.func62, Tryz.ntmps62
    go_wp2_with fail
    refine CH.out.mono ?_
    rintro e w1 ⟨rfl, hw1⟩
    rw [hw1]
    clear hw1 CH w1
    have hno := HQ.out _ w HV.out (Below.refl _ _)
    go_wp2
    first | exact hno | (go_ret; exact hno)
  | false =>
  have hp : putI l x = insI l x := by unfold putI; rw [if_neg (of_decide_eq_false hhb)]
  rw [hp, insS_end] at HQ
  have HR0 := Lib.hid (IR.zero w.heap.size w)
  clear hn hhb hp cH
  go_enter Tryz.func62, Tryz.ntmps62
  go_wp2_with fail
  refine CH.out.mono ?_
  rintro e w1 ⟨rfl, hw1⟩
  rw [hw1]
  clear hw1 CH w1
  go_wp2
  go_loopw [5, 6, 7] (fun v5 v6 v7 wr => ∃ (k : Nat) (d : Bool), v7 = .int .i64 (k : Int) ∧ v6 = .bool d ∧ k ≤ n ∧ RowKit.Hid (anyG (l.take k) x = d) ∧ RowKit.Hid (IR w.heap.size v5 (insS (l.take k) x) wr) ∧ RowKit.Hid (Below w.heap.size w wr)) (fun _ _ v7 _ => n - (intOf v7).toNat)
  case atStart => exact ⟨0, false, rfl, rfl, Nat.zero_le _, rfl, HR0, Below.refl _ _⟩
  case round =>
    obtain ⟨k, d, rfl, rfl, hk, HD, HR, HB⟩ := hrel
    clear HR0
    by_cases hkn : k < n
    · have i1 : (0 : Int) ≤ (k : Int) := by omega
      have i2 : (k : Int) < (n : Int) := by omega
      obtain ⟨g, o, cap', he, hg, cw⟩ := HV.out.at13 k (by rw [HN.out]; exact hkn)
      obtain ⟨rfl, -, hcp⟩ := Value.slice.inj he
      have HCell := Lib.hid (fun (W : World) (hW : Below w.heap.size w W) => (hW.cell (p := ⟨g, o + k, none⟩) hg).trans cw)
      have c0 := HCell.out wr HB.out
      have hst := take_snocI l k (by rw [HN.out]; exact hkn)
      have hln : (l.take k).length ≤ k := by rw [List.length_take]; omega
      have hil := insS_len (l.take k) x
      have hss := insS_step (l.take k) x (l.getD k 0)
      have hgg := anyG_app (l.take k) x (l.getD k 0)
      rw [← hst] at hss hgg
      obtain ⟨y, hy⟩ : ∃ y, l.getD k 0 = y := ⟨_, rfl⟩
      rw [hy] at c0 hss hgg HCell
      rw [HD.out] at hss hgg
      obtain ⟨M, hM⟩ : ∃ M, insS (l.take k) x = M := ⟨_, rfl⟩
      rw [hM] at hil hss HR
      have hsz := HB.out.size
      have HSs := Lib.hid hss
      have HGg := Lib.hid hgg
      have hML : M.length ≤ 1000001 := by omega
      clear he hcp hst hy hss hgg hM HD hln hil cw
      cases d with
      | true =>
        have HG2 : RowKit.Hid (anyG (l.take (k + 1)) x = true) := by
          have h := HGg.out
          rw [Bool.true_or] at h
          exact h
        have HS2 : RowKit.Hid (insS (l.take (k + 1)) x = M ++ [y]) := by
          have h := HSs.out
          rw [if_pos rfl] at h
          exact h
        clear HSs HGg
        go_wp2_with (at_builtin; go_loud (refine append_ir _ rfl _ _ rfl w.heap.size u5 M y rfl HR.out rfl (by omega) hsz w.heap.size w (Nat.le_refl _) HB.out ?_))
        intro v2 w3 hr3 hb3
        (try intro _)
        rw [← HS2.out] at hr3
        have HR3 := Lib.hid hr3
        have HB3 := Lib.hid hb3
        clear hr3 hb3 HR HB hsz
        go_wp2
        go_roundw
        case rel => exact ⟨k + 1, true, by go_num, rfl, by omega, HG2, HR3, HB3⟩
        case measure => simp [intOf]; omega
      | false =>
        by_cases hxy : x < y
        · have t1 : decide (x < y) = true := decide_eq_true hxy
          have HG2 : RowKit.Hid (anyG (l.take (k + 1)) x = true) := by
            have h := HGg.out
            rw [t1] at h
            exact h
          have HS2 : RowKit.Hid (insS (l.take (k + 1)) x = M ++ [x, y]) := by
            have h := HSs.out
            rw [if_neg (by decide), if_pos hxy, List.append_assoc] at h
            exact h
          clear HSs HGg hxy
          go_upto_region 9 with fail
          go_wp2_with (at_builtin; go_loud (refine append_ir _ rfl _ _ rfl w.heap.size u5 M x rfl HR.out rfl (by omega) hsz w.heap.size w (Nat.le_refl _) HB.out ?_))
          intro v2 w3 hr3 hb3
          (try intro hsz3)
          have hml : (M ++ [x]).length ≤ 1000002 := by rw [List.length_append]; simp; omega
          have HR3 := Lib.hid hr3
          have HB3 := Lib.hid hb3
          have c3 := HCell.out w3 hb3
          clear hr3 hb3 HR HB hsz c0 t1
          go_wp2_with (at_builtin; go_loud (refine append_ir _ rfl _ _ rfl w.heap.size v2 (M ++ [x]) y rfl HR3.out rfl (by omega) hsz3 w.heap.size w (Nat.le_refl _) HB3.out ?_))
          intro v4 w4 hr4 hb4
          (try intro _)
          (try rw [List.append_assoc, List.singleton_append] at hr4)
          rw [← HS2.out] at hr4
          have HR4 := Lib.hid hr4
          have HB4 := Lib.hid hb4
          clear hr4 hb4 HR3 HB3 hsz3
          go_wp2
          go_roundw
          case rel => exact ⟨k + 1, true, by go_num, rfl, by omega, HG2, HR4, HB4⟩
          case measure => simp [intOf]; omega
        · have t1 : decide (x < y) = false := decide_eq_false hxy
          have HG2 : RowKit.Hid (anyG (l.take (k + 1)) x = false) := by
            have h := HGg.out
            rw [t1] at h
            exact h
          have HS2 : RowKit.Hid (insS (l.take (k + 1)) x = M ++ [y]) := by
            have h := HSs.out
            rw [if_neg (by decide), if_neg hxy] at h
            exact h
          clear HSs HGg hxy
          go_wp2_with (at_builtin; go_loud (refine append_ir _ rfl _ _ rfl w.heap.size u5 M y rfl HR.out rfl (by omega) hsz w.heap.size w (Nat.le_refl _) HB.out ?_))
          intro v2 w3 hr3 hb3
          (try intro _)
          rw [← HS2.out] at hr3
          have HR3 := Lib.hid hr3
          have HB3 := Lib.hid hb3
          clear hr3 hb3 HR HB hsz
          go_wp2
          go_roundw
          case rel => exact ⟨k + 1, false, by go_num, rfl, by omega, HG2, HR3, HB3⟩
          case measure => simp [intOf]; omega
    · obtain rfl : k = n := by omega
      have ht : l.take k = l := by rw [← HN.out, List.take_length]
      have hil := insS_len (l.take k) x
      have hln : (l.take k).length ≤ k := by rw [List.length_take]; omega
      rw [ht] at HD HR hil hln
      rw [HD.out] at HQ
      obtain ⟨M, hM⟩ : ∃ M, insS l x = M := ⟨_, rfl⟩
      rw [hM] at HQ HR hil
      have hML : M.length ≤ 1000001 := by omega
      have hsz := HB.out.size
      clear ht hM hil hln
      cases d with
      | true =>
        rw [if_pos rfl] at HQ
        have hno := HQ.out _ wr HR.out.il HB.out
        clear HR hsz
        go_wp2
        first | exact hno | (go_ret; exact hno)
      | false =>
        rw [if_neg (by decide)] at HQ
        go_wp2_with (at_builtin; go_loud (refine append_ir _ rfl _ _ rfl w.heap.size u5 M x rfl HR.out rfl (by omega) hsz w.heap.size w (Nat.le_refl _) HB.out ?_))
        intro v2 w3 hr3 hb3
        (try intro _)
        have hno := HQ.out _ w3 hr3.il hb3
        clear hr3 hb3 HR HB hsz
        go_wp2
        first | exact hno | (go_ret; exact hno)
end

section
open Go.RowKit
theorem next_T {P : Program} (w : World) (k : Nat) (cs : List Nat) (h : OKs cs) (j : Nat) (hk : w.heap[k]? = some (.stringIter (T cs) (off cs j))) (hj : j < cs.length) (ty : TypeId) :
    (Instr.next (.pointer (some ⟨k, 0, none⟩)) true ty).run P w = .ok (.tuple #[.bool true, .int .i64 (off cs j), .int .i32 (cs[j] : Nat)]) (w.iterAt k (T cs) (off cs (j + 1))) := by
  have := Lib.run_next_any_at (P := P) w k (T cs) (off cs j) ty hk (off_lt cs j hj)
  rw [decode_T cs h j hj] at this
  rw [this, off_succ cs j hj]

theorem end_T {P : Program} (w : World) (k : Nat) (cs : List Nat) (j : Nat) (hk : w.heap[k]? = some (.stringIter (T cs) (off cs j))) (hj : j = cs.length) (ty : TypeId) :
    (Instr.next (.pointer (some ⟨k, 0, none⟩)) true ty).run P w = .ok (.tuple #[.bool false]) w := by
  refine Lib.run_next_end_at (P := P) w k (T cs) (off cs j) ty hk ?_
  rw [hj, T_off]; omega

theorem pos_T (w : World) (k : Nat) (s : ByteArray) (p : Nat) (hk : w.heap[k]? = some (.stringIter s p)) : w.iterPos k = p := by
  simp [World.iterPos, hk]

theorem okc_le {c : Nat} (h : okc c) : c ≤ 65535 := by unfold okc at h; omega
end

end Go.Proofs.YtmcolapcmjdoeaaGreatDoor
