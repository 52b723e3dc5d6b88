/- Merged: RW16, KQ16, KP16. -/
import Derived.Test.YtceneblmllpdnaaDoorQ10
import Derived.OrdersIn
import Derived.RangeFuncCalls
import Derived.TacticsIn
import Derived.Test.YtceneblmllpdnaaDoorQ26
import Derived.Test.YtceneblmllpdnaaDoorQ14
import Derived.Test.YtceneblmllpdnaaDoorQ23
import Derived.RegionTactic
import Derived.BigRegion
namespace Go.Proofs.YtceneblmllpdnaaDoor

section
open Go.RowKit
def deferB (o : Oper) : Bool := match o.op with
  | .defer _ => true
  | _ => false
theorem not_defer {o : Oper} (h : deferB o = false) : ∀ c, o.op ≠ .defer c := by
  intro c e
  unfold deferB at h
  rw [e] at h
  cases h
/-- What an operation does outside of a round it does within one, if it is no statement 'defer'. -/
theorem oper_round {P : Program} {o : Oper} {a : Act} {w : World} {K : Act → World → Prop} {Q : Exit → Act → World → Prop} {l n : Nat} (hnd : ∀ c, o.op ≠ .defer c) (h : o.wp P a w K Q) : o.wpIn (Fence.wide.inRound l) n P a w K Q := by
  refine ⟨fun _ _ => trivial, ?_⟩
  rw [show (Fence.wide.inRound l).round = some l from rfl, Oper.semAt_some l _ _ hnd]
  unfold Oper.wp at h
  generalize (execOp a.eval o).run P w = r at *
  cases r with
  | ok x w' =>
    cases x with
    | enter f args => exact ⟨fun e => by simp [Fence.wide] at e, CallsIn.inRound l (callsIn_wide.2 h)⟩
    | row r args => exact ⟨fun e => by simp [Fence.wide] at e, fun c cs _ => let ⟨v, w', hr, hs⟩ := h c cs; ⟨v, w', hr, stepsIn_wide.2 hs⟩⟩
    | _ => first | exact h | exact h.elim
  | halt x w' => cases x <;> first | exact h | exact h.elim

theorem wpAnyIn_inv {F : Fence} {n : Nat} {P : Program} {Q : Exit → Act → World → Prop} {ops : Array Oper} (I : Array Bool → Act → World → Prop)
    (hs : ∀ l a w, I l a w → l.size = ops.size)
    (step : ∀ l a w i, I l a w → i ∈ Region.ready .any ops l → wpOpIn F n P ops Q i (fun a' w' => I (l.setIfInBounds i true) a' w') a w)
    (fin : ∀ l a w, I l a w → Region.ready .any ops l = [] → Q .normal a w) :
    ∀ (fuel : Nat) (l : Array Bool) (a : Act) (w : World), l.toList.count false ≤ fuel → I l a w → wpAnyIn F n P .any ops Q fuel l a w
  | 0, l, a, w, hf, hI => by
    have hr : Region.ready .any ops l = [] := by
      rw [List.eq_nil_iff_forall_not_mem]
      intro j hj
      have h0 := (mem_ready.1 hj).1
      have hlt : j < l.size := by
        rcases Nat.lt_or_ge j l.size with h' | h'
        · exact h'
        · simp [Array.getElem?_eq_none h'] at h0
      have hm : false ∈ l.toList := by
        have : l[j] = false := by simpa [hlt] using h0
        rw [← this]
        simp
      have := List.count_pos_iff.2 hm
      omega
    exact ⟨hr, fin l a w hI hr⟩
  | fuel + 1, l, a, w, hf, hI => by
    refine ⟨fun h => fin l a w hI h, fun i hi => ?_⟩
    refine wpOpIn_mono (fun a' w' hI' => wpAnyIn_inv I hs step fin fuel _ a' w' ?_ hI') (step l a w i hI hi)
    have h0 := (mem_ready.1 hi).1
    have hlt : i < l.size := by
      rcases Nat.lt_or_ge i l.size with h' | h'
      · exact h'
      · simp [Array.getElem?_eq_none h'] at h0
    have hli : l.toList[i]'(by simpa using hlt) = false := by simpa [hlt] using h0
    have hc : (l.toList.set i true).count false = l.toList.count false - 1 := by
      rw [List.count_set (by simpa using hlt), hli]
      simp
    rw [Array.toList_setIfInBounds, hc]
    omega

theorem round_region_inv {l n : Nat} {P : Program} {id : Nat} {ops : Array Oper} {Q : Exit → Act → World → Prop} {a0 : Act} {w0 : World} (V : List SP) (A : (Nat → Value) → Act)
    (hm : P.follows .mixedOrders = true) (hd : distinctB ops.toList = true) (hb : backB ops.toList 0 = true) (hA : ∀ vs, puts ops.toList vs 0 a0 = A vs)
    (hnd : (ops.toList.all fun o => !deferB o) = true) (hob : Obs P Q ops A w0 V ops.toList 0)
    (hfin : ∀ vs w, Below w0.heap.size w0 w → (∀ k, k < ops.size → (V.getD k SP.any).p (vs k) w) → Q .normal (A vs) w) :
    (Code.region id ops true).wpIn (Fence.wide.inRound l) n P Q a0 w0 := by
  refine wpIn_region_any hm ?_
  refine wpAnyIn_inv (I := fun l a w => l.size = ops.size ∧ ∃ vs, a = A vs ∧ Below w0.heap.size w0 w ∧ ∀ k, l.getD k false = true → (V.getD k SP.any).p (vs k) w) (fun l a w h => h.1) ?_ ?_ _ _ _ _ ?_ ?_
  · rintro l1 a w i ⟨hl, vs, rfl, hw, hk⟩ hi
    obtain ⟨h0, o, ho, hall⟩ := mem_ready.1 hi
    have hlt : i < ops.size := (Array.getElem?_eq_some_iff.1 ho).1
    have hO := Obs.at P Q ops A w0 V ops.toList 0 i o hob (by simpa using ho)
    rw [Nat.zero_add] at hO
    have hput : ∀ v, (A vs).put o.dst v = A (upd vs i v) := fun v => by
      rw [← hA, ← hA, puts_upd ops.toList vs 0 i a0 o v hd (by simpa using ho), Nat.zero_add]
    have hst := hO vs w hw (fun j hj => by
      unfold depB at hj
      rw [Array.any_eq_true'] at hj
      obtain ⟨e, he, hx⟩ := hj
      rw [Bool.and_eq_true, decide_eq_true_eq] at hx
      obtain ⟨hx, rfl⟩ := hx
      exact hk _ (hall e he hx)) (fun a' w' => (l1.setIfInBounds i true).size = ops.size ∧ ∃ vs, a' = A vs ∧ Below w0.heap.size w0 w' ∧ ∀ k, (l1.setIfInBounds i true).getD k false = true → (V.getD k SP.any).p (vs k) w')
      (by
        intro v w' hv hbw
        refine ⟨by simpa using hl, upd vs i v, hput v, hw.trans (hbw.mono hw.size), fun k hk' => ?_⟩
        by_cases hki : k = i
        · subst hki
          have e : upd vs k v k = v := by simp [upd]
          rw [e]
          exact hv
        · have e : upd vs i v k = vs k := by unfold upd; rw [if_neg hki]
          rw [e]
          refine (V.getD k SP.any).st _ _ _ (hk k ?_) hbw
          rwa [getD_set_ne false (Ne.symm hki)] at hk')
    unfold wpOpIn
    simp only [ho]
    split
    · rename_i hw'
      rw [if_pos hw'] at hst
      exact oper_round (not_defer (by simpa using List.all_eq_true.1 hnd o (List.mem_of_getElem? (by simpa using ho)))) hst
    · rename_i hw'
      rw [if_neg hw'] at hst
      exact ⟨fun _ _ => trivial, hst⟩
  · rintro l1 a w ⟨hl, vs, rfl, hw, hk⟩ hr
    have hall : ∀ k, k < ops.size → l1.getD k false = true := by
      intro k
      induction k using Nat.strongRecOn with
      | ind k ih =>
        intro hk'
        cases hlk : l1.getD k false with
        | true => rfl
        | false =>
          exfalso
          have : k ∈ Region.ready .any ops l1 := by
            rw [mem_ready]
            refine ⟨?_, ops[k], Array.getElem?_eq_getElem hk', fun e he hx => ?_⟩
            · have : k < l1.size := by omega
              simpa [this] using hlk
            · have := back_at ops.toList 0 k ops[k] hb (by simp [hk']) e he hx
              exact ih e.on (by omega) (by omega)
          rw [hr] at this
          cases this
    exact hfin vs w hw (fun k hk' => hk k (hall k hk'))
  · have : ∀ n : Nat, (List.replicate n false).count false = n := fun n => by simp
    simp
  · obtain ⟨vs, hvs⟩ := puts_self ops.toList 0 a0
    refine ⟨by simp, vs, by rw [← hA, hvs], (Below.refl _ w0).drew, fun k hk => ?_⟩
    by_cases h : k < ops.size
    · simp [h] at hk
    · simp [h] at hk
end

section
open Go.RowKit Go.PlainAid Go.Shelf
attribute [local go_sem] Oper.semAt_some

theorem keepsFrom_below {B : Nat} {W W' : World} (h : Below W.heap.size W W') : KeepsFrom B W W' := ⟨h.size, fun k _ _ hk _ => (h.block k (Array.getElem?_eq_some_iff.1 hk).1).trans hk⟩
theorem mem_descN {n k y : Nat} : y ∈ descN n k ↔ ∃ j, j < k ∧ n - 1 - j = y := by simp [descN]
/-- The place of the last field that is equal to a field: what the loop finds. -/
theorem last_hit {L : List Fld} {f : Fld} {x k : Nat} {ini : List Nat} (hk : k ≤ L.length) (hp : ini ++ [x] = descN L.length k) (hi : ∀ y ∈ ini, sameB f (L.getD y fd0) = false) (hx : sameB f (L.getD x fd0) = true) :
    ∃ A B, L = A ++ f :: B ∧ f ∉ B ∧ x = A.length := by
  obtain ⟨m, rfl⟩ : ∃ m, k = m + 1 := by
    cases k with
    | zero => simp [descN] at hp
    | succ m => exact ⟨m, rfl⟩
  rw [descN_succ] at hp
  obtain ⟨rfl, e⟩ := List.append_inj' hp rfl
  have e1 : x = L.length - 1 - m := by simpa using e
  have hlt : x < L.length := by omega
  have hf : L[x] = f := by
    have := (sameB_iff f (L.getD x fd0)).1 hx
    rw [List.getD_eq_getElem?_getD, List.getElem?_eq_getElem hlt] at this
    exact this.symm
  refine ⟨L.take x, L.drop (x + 1), ?_, fun hm => ?_, by rw [List.length_take]; omega⟩
  · conv => lhs; rw [← List.take_append_drop x L]
    rw [List.drop_eq_getElem_cons hlt, hf]
  · obtain ⟨i, hi2, he⟩ := List.getElem_of_mem hm
    rw [List.getElem_drop] at he
    rw [List.length_drop] at hi2
    have := hi (x + 1 + i) (mem_descN.2 ⟨L.length - 1 - (x + 1 + i), by omega, by omega⟩)
    rw [List.getD_eq_getElem?_getD, List.getElem?_eq_getElem (by omega)] at this
    change sameB f L[x + 1 + i] = false at this
    rw [he, (sameB_iff f f).2 rfl] at this
    cases this
theorem last_miss {L : List Fld} {f : Fld} (hi : ∀ y ∈ descN L.length L.length, sameB f (L.getD y fd0) = false) : f ∉ L := by
  intro hm
  obtain ⟨i, hi2, he⟩ := List.getElem_of_mem hm
  have := hi i (mem_descN.2 ⟨L.length - 1 - i, by omega, by omega⟩)
  rw [List.getD_eq_getElem?_getD, List.getElem?_eq_getElem hi2] at this
  change sameB f L[i] = false at this
  rw [he, (sameB_iff f f).2 rfl] at this
  cases this

set_option maxRecDepth 100000 in
set_option maxHeartbeats 8000000 in
theorem mlast_any (L : List Fld) (v : Value) (f : Fld) (fu : Value) (b : Nat) (w : World) (hv : FL v L w) (hb : FBx b f fu w) (hz : L.length ≤ 1000000) :
    Calls Tryd.prog 49 #[v, .func (.func 55) #[] #[.pointer (some ⟨b, 0, none⟩)]] w fun e w' =>
      ((e = .returned (.int .i64 (-1)) ∧ f ∉ L) ∨ (∃ A B : List Fld, e = .returned (.int .i64 (A.length : Int)) ∧ L = A ++ f :: B ∧ f ∉ B)) ∧ Below w.heap.size w w' := by
  obtain ⟨a, ca, g, o, us, rfl, hca, hm, hga, hxa⟩ := hv.open16
  obtain ⟨len, hlen⟩ : ∃ n, L.length = n := ⟨_, rfl⟩
  obtain ⟨fv, hfv⟩ : ∃ x : Value, x = .func (.func 55) #[] #[.pointer (some ⟨b, 0, none⟩)] := ⟨_, rfl⟩
  obtain ⟨w2, hw2⟩ : ∃ X, ((w.alloc (.cells #[.func (.func 55) #[] #[.pointer (some ⟨b, 0, none⟩)]] 46)).alloc (.cells #[.int .i64 0] 3)).alloc (.cells #[.slice a len ca] 29) = X := ⟨_, rfl⟩
  have b2 : Below w.heap.size w w2 := by rw [← hw2]; exact (((Below.refl w.heap.size w).alloc (Nat.le_refl _) _).alloc (by simp) _).alloc (by simp <;> omega) _
  have hs2 : w2.heap.size = w.heap.size + 3 := by rw [← hw2]; simp
  have hB0 : Boxed w2 w.heap.size 46 (.func (.func 55) #[] #[.pointer (some ⟨b, 0, none⟩)]) := by rw [← hw2]; exact ((Boxed.new _ _ _).alloc _).alloc _
  have hB1 : Boxed w2 (w.heap.size + 1) 3 (.int .i64 0) := by
    rw [← hw2]
    have := Boxed.new (w.alloc (.cells #[.func (.func 55) #[] #[.pointer (some ⟨b, 0, none⟩)]] 46)) 3 (.int .i64 0)
    rw [World.size_alloc] at this
    exact this.alloc _
  have hB2 : Boxed w2 (w.heap.size + 2) 29 (.slice a len ca) := by
    rw [← hw2]
    have := Boxed.new ((w.alloc (.cells #[.func (.func 55) #[] #[.pointer (some ⟨b, 0, none⟩)]] 46)).alloc (.cells #[.int .i64 0] 3)) 29 (.slice a len ca)
    rw [World.size_alloc, World.size_alloc] at this
    exact this
  -- the elements' values, defined for all numbers
  obtain ⟨t2, ht2⟩ : ∃ t2 : Nat → Value, t2 = fun i => if i < L.length then us i else .slice none 0 0 := ⟨_, rfl⟩
  have hq2 : ∀ (W : World), Below w2.heap.size w2 W → ∀ x, QL (t2 x) (L.getD x fd0).subs W := fun W hW x => by
    rw [ht2]
    by_cases hx : x < L.length
    · simp only [if_pos hx]
      exact (hxa W (b2.trans (hW.mono b2.size)) x hx).2
    · simp only [if_neg hx]
      rw [List.getD_eq_getElem?_getD, List.getElem?_eq_none (by omega)]
      exact ⟨none, 0, rfl, Nat.le_refl _, Nat.zero_le _, fun _ => rfl, fun i hi => by cases hi⟩
  have hcells : ∀ j, j < len → w2.cell? ⟨g, o + j * 4, none⟩ = some (.string (S (L.getD j fd0).tag)) ∧ w2.cell? ⟨g, o + j * 4 + 1, none⟩ = some (.string (S (L.getD j fd0).ind)) ∧ w2.cell? ⟨g, o + j * 4 + 2, none⟩ = some (t2 j) ∧ w2.cell? ⟨g, o + j * 4 + 3, none⟩ = some (.int .i64 (L.getD j fd0).auth) := fun j hj => by
    have := (hxa w2 b2 j (by omega)).1
    rw [ht2]
    simp only [if_pos (show j < L.length by omega)]
    exact this
  have hgl : 0 < len → g < w.heap.size := fun h => by
    have h0 := (hxa w (Below.refl _ _) 0 (by omega)).1.1
    rw [World.cell?] at h0
    rcases Nat.lt_or_ge g w.heap.size with h1 | h1
    · exact h1
    · simp [Array.getElem?_eq_none h1] at h0
  have cS := fun (W : World) (hW : Below w2.heap.size w2 W) (x : Nat) => sameF_any f fu b (L.getD x fd0) (t2 x) W (hb.after (b2.trans (hW.mono b2.size))) (hq2 W hW x) _ rfl
  have hsl : ∀ x, ∃ xa xc, t2 x = .slice xa (L.getD x fd0).subs.length xc := fun x => by
    obtain ⟨xa, xc, h, -, -⟩ := (hq2 w2 (Below.refl _ _) x).length
    exact ⟨xa, xc, h⟩
  have hz' : len ≤ 1000000 := by omega
  rw [hlen] at hga ⊢
  have HLen := Lib.hid hlen
  have HCells := Lib.hid hcells
  have HGl := Lib.hid hgl
  have HCS := Lib.hid cS
  have HSl := Lib.hid hsl
  have HGa := Lib.hid hga
  have HBoxes := Lib.hid (And.intro hB0 (And.intro hB1 hB2))
  have HB2 := Lib.hid b2
  have HS2 := Lib.hid hs2
  have HW2 := Lib.hid hw2
  clear hv hb hxa hcells hgl cS hsl hga hB0 hB1 hB2 ht2 hq2 hlen hz hm hca b2 hs2 hw2 hfv
  refine (callsIn_wide (n := 6)).1 ?_
  refine callsIn_of_wp_marks Tryd.func49 rfl trivial ?_ rfl
  simp only [Tryd.ntmps49, List.size_toArray, List.length_cons, List.length_nil, Nat.reduceAdd, Nat.reduceSub, Array.replicate_succ, Array.replicate_zero, List.push_toArray, List.append_toArray, List.nil_append, List.cons_append]
  gi_wp2_with (refine ⟨trivial, ?_⟩; gi_at_call 61; refine (backF_in _ _ _ _ _).mono ?_; rintro e w' ⟨rfl, rfl⟩)
  simp only [Nat.add_assoc, Nat.reduceAdd]
  rw [HW2.out]
  clear HW2
  have hbx := HBoxes.out
  have hb2 := HB2.out
  have hs2 := HS2.out
  refine wpIn_rangeFunc_ownH rfl (by omega) (gf := 66) (lb := #[.pointer (some ⟨w.heap.size + 2, 0, none⟩)]) rfl trivial (enters_of Tryd.func66 (by kernel_rfl) rfl)
    (backF_stops _ (by omega) (w.heap.size + 2) w2.heap.size a len ca (fun j => .string (S (L.getD j fd0).tag)) (fun j => .string (S (L.getD j fd0).ind)) t2 (fun j => .int .i64 (L.getD j fd0).auth) hz' g o w2 HGa.out (fun h => by have := HGl.out h; omega) hbx.2.2.cell (by omega) (Nat.le_refl _) HCells.out)
    belowK_t (belowK_b (Nat.le_refl _)) (Below.refl _ _) (fun _ => rfl)
    (fun pre W => (∀ y ∈ pre, sameB f (L.getD y fd0) = false) ∧ Below w2.heap.size w2 W)
    (fun c pre W => (c = .ret ∧ ∃ ini x, pre = ini ++ [x] ∧ (∀ y ∈ ini, sameB f (L.getD y fd0) = false) ∧ sameB f (L.getD x fd0) = true ∧ W.cell? ⟨w.heap.size + 1, 0, none⟩ = some (.int .i64 (x : Int))) ∧ Below w.heap.size w W)
    (OwnFrom.and (ownFrom_pure _ _) (ownFrom_below (Nat.le_refl _) (Nat.le_refl _)))
    (fun c => OwnFrom.and (Own.from (fun s A B row hs hg hr => by obtain ⟨hc, ini, x, e1, e2, e3, e4⟩ := hs; exact ⟨hc, ini, x, e1, e2, e3, cell_kept e4 hg hr⟩) _) (ownFrom_below (Nat.le_refl _) (by omega)))
    ⟨(fun y hy => by cases hy), Below.refl _ _⟩
    (fun x a' W => ∃ Bx, w2.heap.size ≤ Bx ∧ (W.cell? ⟨Bx, 0, none⟩ = some (.string (S (L.getD x fd0).tag)) ∧ W.cell? ⟨Bx, 1, none⟩ = some (.string (S (L.getD x fd0).ind)) ∧ W.cell? ⟨Bx, 2, none⟩ = some (t2 x) ∧ W.cell? ⟨Bx, 3, none⟩ = some (.int .i64 (L.getD x fd0).auth)) ∧
      a' = { tmps := #[.slice a len ca, .func (.func 55) #[] #[.pointer (some ⟨b, 0, none⟩)], undef, .pointer (some ⟨w.heap.size, 0, none⟩), .pointer (some ⟨w.heap.size + 1, 0, none⟩), .int .i64 (x : Int), .pointer (some ⟨Bx, 0, none⟩), .slice a len ca, .func (.func 66) #[] #[.pointer (some ⟨w.heap.size + 2, 0, none⟩)], .int .i64 (x : Int), .agg #[.string (S (L.getD x fd0).tag), .string (S (L.getD x fd0).ind), t2 x, .int .i64 (L.getD x fd0).auth], undef, undef, undef, undef], defers := [] })
    (fun x a' s A B row hs hg hr => by
      obtain ⟨Bx, e1, ⟨e2, e3, e4, e5⟩, e6⟩ := hs
      exact ⟨Bx, e1, ⟨cell_kept e2 hg (fun r e => (hr r e).2), cell_kept e3 hg (fun r e => (hr r e).2), cell_kept e4 hg (fun r e => (hr r e).2), cell_kept e5 hg (fun r e => (hr r e).2)⟩, e6⟩)
    ?assign ?body ?done ?stop
  case assign =>
    rintro l pre x W K ⟨hi, hB⟩ hK
    have HK := Lib.hid hK
    have HW := Lib.hid hB
    clear hK hB
    obtain ⟨xa, xc, hx⟩ := HSl.out x
    generalize hn : (L.getD x fd0).subs.length = nx at *
    generalize ht : S (L.getD x fd0).tag = y0 at *
    generalize hi2 : S (L.getD x fd0).ind = y1 at *
    generalize ha : (L.getD x fd0).auth = y3 at *
    rw [hx] at HK ⊢
    gi_wp2
    refine HK.out _ _ ((KeepsOthers.alloc _ _).from _) ((Below.refl _ W).alloc HW.out.size _) ⟨hi, HW.out.trans ((Below.refl _ W).alloc HW.out.size _)⟩ ⟨W.heap.size, HW.out.size, ?_, rfl⟩
    refine ⟨?_, ?_, ?_, ?_⟩ <;> simp
  case body =>
    rintro l pre x a' W hl - ⟨hi, hB⟩ ⟨Bx, hBx, ⟨c0, c1, c2, c3⟩, rfl⟩ hlt
    have hS := HCS.out W hB x
    have k0 := (hB.cell (p := ⟨w.heap.size, 0, none⟩) (by show w.heap.size < _; omega)).trans hbx.1.cell
    obtain ⟨q, hq⟩ : ∃ q, sameB f (L.getD x fd0) = q := ⟨_, rfl⟩
    rw [hq] at hS
    have HS := Lib.hid hS
    have HI := Lib.hid hi
    have HBw := Lib.hid hB
    have HQ := Lib.hid hq
    obtain ⟨xa, xc, hx⟩ := HSl.out x
    clear hS hi hB hq
    unfold FV at HS
    generalize hn : (L.getD x fd0).subs.length = nx at *
    generalize ht : S (L.getD x fd0).tag = y0 at *
    generalize hi2 : S (L.getD x fd0).ind = y1 at *
    generalize ha : (L.getD x fd0).auth = y3 at *
    rw [hx] at HS c2 ⊢
    have hd : 1 ≤ 6 - 1 - 1 := by omega
    cases q with
    | true =>
      gi_wp2_with (refine ⟨trivial, ?_⟩; gi_at_call 55; refine (CallsIn.inRound l (callsIn_wide.2 HS.out)).mono ?_; rintro e w' ⟨rfl, hb'⟩; have HB' := Lib.hid (HBw.out.trans (hb'.mono HBw.out.size)); have Hb' := Lib.hid hb'; have hr1 := (HB'.out.cell (p := ⟨w.heap.size + 1, 0, none⟩) (by show w.heap.size + 1 < _; omega)).trans hbx.2.1.cell; have hz1 : w'.frozen? ⟨w.heap.size + 1, 0, none⟩ = false := Lib.frozen_of_heap ((HB'.out.block (w.heap.size + 1) (by omega)).trans hbx.2.1) 0; clear hb')
      exact ⟨(keepsFrom_below Hb'.out).trans ((KeepsOthers.setCell _ _ _).from _), ⟨rfl, pre, x, rfl, HI.out, HQ.out, World.cell?_setCell_same' _ _ _ (by rw [hr1]; rfl)⟩, (HB2.out.trans (HB'.out.mono (by omega))).setCell (p := ⟨w.heap.size + 1, 0, none⟩) (by simp) _⟩
    | false =>
      gi_wp2_with (refine ⟨trivial, ?_⟩; gi_at_call 55; refine (CallsIn.inRound l (callsIn_wide.2 HS.out)).mono ?_; rintro e w' ⟨rfl, hb'⟩; have HB' := Lib.hid (HBw.out.trans (hb'.mono HBw.out.size)); have Hb' := Lib.hid hb'; have hr1 := (HB'.out.cell (p := ⟨w.heap.size + 1, 0, none⟩) (by show w.heap.size + 1 < _; omega)).trans hbx.2.1.cell; have hz1 : w'.frozen? ⟨w.heap.size + 1, 0, none⟩ = false := Lib.frozen_of_heap ((HB'.out.block (w.heap.size + 1) (by omega)).trans hbx.2.1) 0; clear hb')
      exact ⟨keepsFrom_below Hb'.out, Hb'.out.mono HBw.out.size, fun y hy => (List.mem_append.1 hy).elim (HI.out y) (fun e => by
        have e2 : y = x := by simpa using e
        rw [e2]
        exact HQ.out), HB'.out⟩
  case done =>
    rintro D ys W hD rfl ⟨hi, hB⟩ hK
    have hr1 := (hB.cell (p := ⟨w.heap.size + 1, 0, none⟩) (by show w.heap.size + 1 < _; omega)).trans hbx.2.1.cell
    have hz1 : W.frozen? ⟨w.heap.size + 1, 0, none⟩ = false := Lib.frozen_of_heap ((hB.block (w.heap.size + 1) (by omega)).trans hbx.2.1) 0
    have HI := Lib.hid hi
    have HBw := Lib.hid hB
    clear hi hB
    gi_wp2
    have hK' := (KeepsOthers.setCell W ⟨w.heap.size + 1, 0, none⟩ (.int .i64 (-1))).same D _ hK rfl
    refine ⟨by simp, .inl ⟨_, _, rfl, run_takeDeferred hK', ?_⟩⟩
    have hc5 := cell_kept (World.cell?_setCell_same' W ⟨w.heap.size + 1, 0, none⟩ (.int .i64 (-1)) (by rw [hr1]; rfl)) (grownBy_putObj' _ D (.deferred none)) (fun r e => by cases e; exact ⟨_, hK', rfl⟩)
    refine ⟨.int .i64 (-1), ?_, .inl ⟨rfl, last_miss (by rw [HLen.out]; exact HI.out)⟩, ((HB2.out.trans (HBw.out.mono (by omega))).setCell (p := ⟨w.heap.size + 1, 0, none⟩) (by simp) _).trans (belowK_b (w := w2) (by omega) _ D _ _ (by omega) hK' rfl rfl)⟩
    simp [results, Tryd.f49, go_sem, hc5]
  case stop =>
    rintro D c pre W hD ⟨k, hk, rfl⟩ ⟨⟨rfl, ini, x, e1, e2, e3, hcr⟩, hB⟩ hK
    gi_wp2
    refine ⟨by simp, .inl ⟨_, _, rfl, run_takeDeferred hK, ?_⟩⟩
    have hc5 := cell_kept hcr (grownBy_putObj' _ D (.deferred none)) (fun r e => by cases e; exact ⟨_, hK, rfl⟩)
    rw [← HLen.out] at hk e1
    obtain ⟨A, C, h1, h2, h3⟩ := last_hit hk e1.symm e2 e3
    refine ⟨.int .i64 (x : Int), ?_, .inr ⟨A, C, by rw [h3], h1, h2⟩, hB.trans (belowK_b (w := w2) (by omega) W D _ _ hD hK rfl rfl)⟩
    simp [results, Tryd.f49, go_sem, hc5]
end

section
open Go.RowKit Go.PlainAid
theorem ascN_at : ∀ (L : List Int) (i : Nat), ascN L = true → i + 1 < L.length → L.getD i 0 < L.getD (i + 1) 0
  | [], _, _, h => by simp at h
  | [_], _, _, h => by simp at h
  | x :: y :: t, 0, ha, _ => by
    rw [ascN, Bool.and_eq_true] at ha
    have := of_decide_eq_true ha.1
    exact this
  | x :: y :: t, i + 1, ha, h => by
    rw [ascN, Bool.and_eq_true] at ha
    exact ascN_at (y :: t) i ha.2 (by simpa using h)

set_option maxHeartbeats 8000000 in
theorem ascending_any (L : List Int) (v : Value) (w : World) (hv : TL v L w) (ha : ascN L = true) (hz : L.length ≤ 1000000) :
    Calls Tryd.prog 41 #[v] w fun e w' => e = .returned (.bool true) ∧ Below w.heap.size w w' := by
  obtain ⟨a, ca, g, o, rfl, hca, hm, hga, hxa⟩ := hv.opened
  have HA := Lib.hid (fun i (h : i + 1 < L.length) => ascN_at L i ha h)
  unfold maxLen at hm
  have HXA := Lib.hid hxa
  obtain ⟨n, hn⟩ : ∃ n, L.length = n := ⟨_, rfl⟩
  rw [hn] at hca hga HA HXA hz ⊢
  clear hn hv hxa ha
  go_enter Tryd.func41, Tryd.ntmps41
  go_wp2
  go_loopw [3] (fun s3 wr => ∃ i : Nat, s3 = .int .i64 (i : Int) ∧ 1 ≤ i ∧ Below w.heap.size w wr) (fun s3 _ => n - (intOf s3).toNat)
  case atStart => exact ⟨1, rfl, Nat.le_refl _, Below.refl _ _⟩
  case round =>
    obtain ⟨i, rfl, hi, HB⟩ := hrel
    have i1 : (0 : Int) ≤ (i : Int) := by omega
    by_cases hin : i < n
    · have i2 : (i : Int) < (n : Int) := by omega
      obtain ⟨rfl, hgl⟩ := hga (by omega)
      obtain ⟨j, rfl⟩ : ∃ j, i = j + 1 := ⟨i - 1, by omega⟩
      have e1 : ((j + 1 : Nat) : Int) - 1 = (j : Int) := by omega
      have i3 : (0 : Int) ≤ (j : Int) := by omega
      have i4 : (j : Int) < (n : Int) := by omega
      have c0 := HXA.out wr HB j (by omega)
      have c1 := HXA.out wr HB (j + 1) hin
      have hlt := HA.out j hin
      have d1 : decide (L.getD (j + 1) 0 ≤ L.getD j 0) = false := decide_eq_false (by omega)
      have HBw := Lib.hid (fun (d : Nat) => HB.trans ((drewN_below wr d).mono HB.size))
      obtain ⟨x, hx⟩ : ∃ x, L.getD j 0 = x := ⟨_, rfl⟩
      obtain ⟨y, hy⟩ : ∃ y, L.getD (j + 1) 0 = y := ⟨_, rfl⟩
      rw [hx, hy] at hlt d1
      rw [hx] at c0
      rw [hy] at c1
      obtain ⟨ii, hii⟩ : ∃ ii : Int, ((j + 1 : Nat) : Int) = ii := ⟨_, rfl⟩
      rw [hii] at e1 i1 i2 ⊢
      have hnat : ii.toNat = j + 1 := by omega
      clear hx hy HB
      go_upto_region 4 with fail
      go_quiet (fail)
      go_wp2
      go_roundw
      case rel => exact ⟨j + 1 + 1, by go_num, by omega, HBw.out _⟩
      case measure => simp [intOf]; omega
    · have i2 : ¬ (i : Int) < (n : Int) := by omega
      have HF := Lib.hid HB
      clear HB
      go_wp2
      first | exact ⟨rfl, HF.out⟩ | (go_ret; exact ⟨rfl, HF.out⟩)

/-- A parting in its box. -/
def PBx (b : Nat) (p : Prt) (fv tv : Value) (W : World) : Prop := W.heap[b]? = some (.cells #[.int .i64 p.into, .int .i64 p.frm.id, .int .i64 p.frm.ver, .int .i64 p.frm.kind, .string (S p.frm.lang), fv, tv] 36 (0, 0))
theorem PBx.after {b : Nat} {p : Prt} {fv tv : Value} {W W' : World} (h : PBx b p fv tv W) (hb : Below W.heap.size W W') : PBx b p fv tv W' := (hb.block b (Array.getElem?_eq_some_iff.1 h).1).trans h
set_option maxHeartbeats 4000000 in
theorem noIndex_any (i : Int) (p : Prt) (fa : Option Addr) (fn_ fc : Nat) (tv : Value) (b : Nat) (w : World) (hb : PBx b p (.slice fa fn_ fc) tv w) (h0 : 0 ≤ i) (h1 : i < (fn_ : Int)) :
    Calls Tryd.prog 39 #[.int .i64 i, .pointer (some ⟨b, 0, none⟩)] w fun e w' => e = .returned (.bool false) ∧ Below w.heap.size w w' := by
  obtain ⟨⟨p0, p1, p2, p3, p4, p5, p6⟩, -⟩ := pcells16 hb
  have HB := Lib.hid (Below.refl w.heap.size w)
  have d1 : decide ((fn_ : Int) ≤ i) = false := decide_eq_false (by omega)
  have d0 : decide (i < 0) = false := decide_eq_false (by omega)
  clear hb
  generalize S p.frm.lang = lg at *
  go_enter Tryd.func39, Tryd.ntmps39
  go_wp2
  first | exact ⟨rfl, HB.out⟩ | (go_ret; exact ⟨rfl, HB.out⟩)
set_option maxHeartbeats 8000000 in
theorem noIx_any (p : Prt) (fa : Option Addr) (fn_ fc : Nat) (tv : Value) (b : Nat) (L : List Int) (v : Value) (w : World) (hv : TL v L w) (hb : PBx b p (.slice fa fn_ fc) tv w) (hr : ∀ k ∈ L, 0 ≤ k ∧ k < (fn_ : Int)) :
    Calls Tryd.prog 53 #[v, .func (.func 39) #[] #[.pointer (some ⟨b, 0, none⟩)]] w fun e w' => e = .returned (.int .i64 (-1)) ∧ Below w.heap.size w w' := by
  obtain ⟨a, ca, g, o, rfl, hca, hm, hga, hxa⟩ := hv.opened
  unfold maxLen at hm
  have HXA := Lib.hid hxa
  have cF := Lib.hid (fun (W : World) (h : Below w.heap.size w W) (k : Int) (hk : k ∈ L) => noIndex_any k p fa fn_ fc tv b W (hb.after h) (hr k hk).1 (hr k hk).2)
  have HMem := Lib.hid (fun i (h : i < L.length) => show L.getD i 0 ∈ L from by
    rw [List.getD_eq_getElem?_getD, List.getElem?_eq_getElem h]
    exact List.getElem_mem h)
  obtain ⟨n, hn⟩ : ∃ n, L.length = n := ⟨_, rfl⟩
  rw [hn] at hca hga HXA HMem ⊢
  clear hn hv hxa hb hr
  go_enter Tryd.func53, Tryd.ntmps53
  go_wp2
  go_loopw [8] (fun s8 wr => ∃ i : Nat, s8 = .int .i64 (i : Int) ∧ i ≤ n ∧ RowKit.Hid (Below w.heap.size w wr)) (fun s8 _ => n - (intOf s8).toNat)
  case atStart => exact ⟨0, rfl, Nat.zero_le _, Below.refl _ _⟩
  case round =>
    obtain ⟨i, rfl, hi, HB⟩ := hrel
    have i1 : (0 : Int) ≤ (i : Int) := by omega
    by_cases hin : i < n
    · have i2 : (i : Int) < (n : Int) := by omega
      obtain ⟨rfl, hgl⟩ := hga (by omega)
      have c0 := HXA.out wr HB.out i hin
      have cC := Lib.hid (cF.out wr HB.out _ (HMem.out i hin))
      generalize L.getD i 0 = x at *
      go_wp2_with fail
      refine cC.out.mono ?_
      rintro e w1 ⟨rfl, hb1⟩
      have HB2 := Lib.hid (HB.out.trans (hb1.mono HB.out.size))
      clear hb1 cC HB c0
      go_wp2
      go_roundw
      case rel => exact ⟨i + 1, by go_num, by omega, HB2.out⟩
      case measure => simp [intOf]; omega
    · obtain rfl : i = n := by omega
      have HF := Lib.hid HB.out
      clear HB
      go_wp2
      first | exact ⟨rfl, HF.out⟩ | (go_ret; exact ⟨rfl, HF.out⟩)
set_option maxHeartbeats 4000000 in
theorem noIn_any (p : Prt) (fa : Option Addr) (fn_ fc : Nat) (tv : Value) (b : Nat) (L : List Int) (v : Value) (w : World) (hv : TL v L w) (hb : PBx b p (.slice fa fn_ fc) tv w) (hr : ∀ k ∈ L, 0 ≤ k ∧ k < (fn_ : Int)) :
    Calls Tryd.prog 40 #[v, .func (.func 39) #[] #[.pointer (some ⟨b, 0, none⟩)]] w fun e w' => e = .returned (.bool false) ∧ Below w.heap.size w w' := by
  have cI := Lib.hid (noIx_any p fa fn_ fc tv b L v w hv hb hr)
  obtain ⟨a, ca, g, o, rfl, -, -, -, -⟩ := hv.opened
  clear hv hb hr
  generalize L.length = n at *
  go_enter Tryd.func40, Tryd.ntmps40
  go_wp2_with fail
  refine cI.out.mono ?_
  rintro e w1 ⟨rfl, hb1⟩
  have HB := Lib.hid hb1
  clear hb1 cI
  go_wp2
  go_ret
  exact ⟨rfl, HB.out⟩

theorem rightP_ok (p : Prt) (h : rightP p.into p.frm p.taken = 0) : 1 ≤ p.into ∧ p.into ≤ 9999 ∧ rightRI p.frm = 0 ∧ p.frm.id ≠ 0 ∧ p.frm.id ≠ p.into ∧ (∀ k ∈ p.taken, 0 ≤ k ∧ k < (p.frm.fields.length : Int)) ∧ ascN p.taken = true := by
  unfold rightP at h
  by_cases h1 : p.into < 1 ∨ 9999 < p.into
  · rw [if_pos h1] at h; omega
  rw [if_neg h1] at h
  by_cases h2 : rightRI p.frm = 0
  · rw [if_neg (fun g => g h2)] at h
    by_cases h3 : p.frm.id = 0
    · rw [if_pos h3] at h; omega
    rw [if_neg h3] at h
    by_cases h4 : p.frm.id = p.into
    · rw [if_pos h4] at h; omega
    rw [if_neg h4] at h
    by_cases h5 : (p.taken.all fun k => decide (0 ≤ k) && decide (k < p.frm.fields.length)) = false
    · rw [if_pos h5] at h; omega
    rw [if_neg h5] at h
    by_cases h6 : ascN p.taken = false
    · rw [if_pos h6] at h; omega
    have h5' : (p.taken.all fun k => decide (0 ≤ k) && decide (k < p.frm.fields.length)) = true := by simpa using h5
    rw [List.all_eq_true] at h5'
    refine ⟨by omega, by omega, h2, h3, h4, fun k hk => ?_, by simpa using h6⟩
    have := h5' k hk
    rw [Bool.and_eq_true] at this
    exact ⟨of_decide_eq_true this.1, of_decide_eq_true this.2⟩
  · rw [if_pos h2] at h; exact absurd h h2

set_option maxHeartbeats 16000000 in
set_option maxRecDepth 100000 in
theorem pRightP_any (p : Prt) (fv tv : Value) (w : World) (hE : Env w) (hf : FL fv p.frm.fields w) (ht : TL tv p.taken w) (hb : BndR p.frm) (hz : p.taken.length ≤ 1000000) (hr : rightP p.into p.frm p.taken = 0) :
    Calls Tryd.prog 24 #[PgV p fv tv] w fun e w' => e = .returned (.int .i64 0) ∧ Below w.heap.size w w' := by
  obtain ⟨r1, r2, r3, r4, r5, r6, r7⟩ := rightP_ok p hr
  obtain ⟨W0, hW0⟩ : ∃ W0, w.alloc (.cells #[.int .i64 p.into, .int .i64 p.frm.id, .int .i64 p.frm.ver, .int .i64 p.frm.kind, .string (S p.frm.lang), fv, tv] 36) = W0 := ⟨_, rfl⟩
  have b0 : Below w.heap.size w W0 := by rw [← hW0]; exact (Below.refl w.heap.size w).alloc (Nat.le_refl _) _
  have hX : PBx w.heap.size p fv tv W0 := by unfold PBx; rw [← hW0]; exact heap_alloc_new w _
  obtain ⟨fa, fc, rfl, -, -⟩ := hf.length
  obtain ⟨ta, tc, tg, tgo, rfl, -, -, -, -⟩ := id ht.opened
  have cR := Lib.hid (mRight_any p.frm _ W0 (hE.after b0) (hf.after b0) hb 0 r3)
  have cN := Lib.hid (fun (W : World) (h : Below W0.heap.size W0 W) => noIn_any p fa p.frm.fields.length fc _ w.heap.size p.taken _ W ((ht.after b0).after h) (hX.after h) r6)
  have cA := Lib.hid (fun (W : World) (h : Below W0.heap.size W0 W) => ascending_any p.taken _ W ((ht.after b0).after h) r7 hz)
  have HX := Lib.hid (fun (W : World) (h : Below W0.heap.size W0 W) => hX.after h)
  have HB := Lib.hid (fun (W : World) (h : Below W0.heap.size W0 W) => b0.trans (h.mono b0.size))
  have HW0 := Lib.hid hW0
  obtain ⟨⟨p0, p1, p2, p3, p4, p5, p6⟩, -⟩ := pcells16 hX
  have d1 : decide (p.into < 1) = false := decide_eq_false (by omega)
  have d2 : decide (9999 < p.into) = false := decide_eq_false (by omega)
  have d3 : decide (p.frm.id = 0) = false := decide_eq_false r4
  have q3 : (p.frm.id == 0) = false := beq_false_of_ne r4
  have d4 : decide (p.frm.id = p.into) = false := decide_eq_false r5
  have q4 : (p.frm.id == p.into) = false := beq_false_of_ne r5
  unfold RV at cR
  unfold PgV
  unfold PBx at HX
  clear hE hf ht hb hz hr r1 r2 r3 r4 r5 r6 r7 hW0 b0 hX
  generalize p.frm.fields.length = fn_ at *
  generalize p.taken.length = tn at *
  generalize S p.frm.lang = lg at *
  generalize p.frm.id = fid at *
  generalize p.frm.ver = fver at *
  generalize p.frm.kind = fkind at *
  generalize p.into = pin at *
  go_enter Tryd.func24, Tryd.ntmps24
  go_upto_region 1 with fail
  (try rw [HW0.out])
  clear HW0
  go_wp2_with fail
  refine cR.out.mono ?_
  rintro e w1 ⟨rfl, hb1⟩
  have HB1 := Lib.hid hb1
  clear p0 p1 p2 p3 p4 p5 p6 cR hb1
  obtain ⟨⟨p0, p1, p2, p3, p4, p5, p6⟩, -⟩ := pcells16 (HX.out w1 HB1.out)
  go_wp2_with fail
  refine (cN.out w1 HB1.out).mono ?_
  rintro e w2 ⟨rfl, hb2⟩
  have HB2 := Lib.hid (HB1.out.trans (hb2.mono HB1.out.size))
  clear p0 p1 p2 p3 p4 p5 p6 cN hb2 HB1
  obtain ⟨⟨p0, p1, p2, p3, p4, p5, p6⟩, -⟩ := pcells16 (HX.out w2 HB2.out)
  go_wp2_with fail
  refine (cA.out w2 HB2.out).mono ?_
  rintro e w3 ⟨rfl, hb3⟩
  have HF := Lib.hid (HB.out w3 (HB2.out.trans (hb3.mono HB2.out.size)))
  clear p0 p1 p2 p3 p4 p5 p6 cA hb3 HB2 HX HB
  go_wp2
  first | exact ⟨rfl, HF.out⟩ | (go_ret; exact ⟨rfl, HF.out⟩)
end

end Go.Proofs.YtceneblmllpdnaaDoor
