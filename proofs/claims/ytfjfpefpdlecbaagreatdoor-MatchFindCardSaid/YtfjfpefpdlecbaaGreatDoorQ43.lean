/- Merged: R15K, Hp15, RegImp, Chain3. -/
import Derived.Test.YtfjfpefpdlecbaaGreatDoorQ18
import Derived.Test.YtfjfpefpdlecbaaGreatDoorQ17
import Derived.Test.YtfjfpefpdlecbaaGreatDoorQ07
import Derived.Test.YtfjfpefpdlecbaaGreatDoorQ14
import Derived.Test.YtfjfpefpdlecbaaGreatDoorQ28
import Derived.Test.YtfjfpefpdlecbaaGreatDoorQ30
import Derived.Maps.AppendAt
namespace Go.Proofs.YtfjfpefpdlecbaaGreatDoor

section
open Go.RowKit Go.PlainAid
def allB (l : List Rec) : Bool := decide (l.length ≤ 8) && (l.all validR && decide ((idsOf l).Nodup))
theorem allB_ok (l : List Rec) (h : allB l = true) : l.length ≤ 8 ∧ (∀ r ∈ l, okR r) ∧ (idsOf l).Nodup := by
  unfold allB at h
  rw [Bool.and_eq_true, Bool.and_eq_true, decide_eq_true_iff, decide_eq_true_iff, List.all_eq_true] at h
  exact ⟨h.1, fun r hr => validR_ok r (h.2.1 r hr), h.2.2⟩
set_option maxHeartbeats 8000000 in
theorem lall_any (l : List Rec) (v : Value) (w : World) (hv : RL v l w) (b : Bool) (hb : allB l = b) :
    Calls Tryz.prog 21 #[v] w fun e w' => e = .returned (.bool b) ∧ Below w.heap.size w w' := by
  have HV := Lib.hid (fun (W : World) (h : Below w.heap.size w W) => hv.after h)
  have cD := Lib.hid (fun (W : World) (h : Below w.heap.size w W) (r : Bool) (hr : decide ((idsOf l).Nodup) = r) => refDistinct_any l v W (hv.after h) r hr)
  obtain ⟨a, cap, rfl, hcap, hmax⟩ := hv.length
  unfold maxLen at hmax
  have HLong : RowKit.Hid (8 < l.length → b = false) := fun h => by
    rw [← hb]
    unfold allB
    rw [decide_eq_false (by omega), Bool.false_and]
  have HBad : RowKit.Hid (∀ i, i < l.length → validR (l.getD i rec0) = false → b = false) := fun i hi h => by
    rw [← hb]
    unfold allB
    rw [all_false rec0 validR l i hi h, Bool.false_and, Bool.and_false]
  have HGood : RowKit.Hid (l.length ≤ 8 → (∀ i, i < l.length → validR (l.getD i rec0) = true) → decide ((idsOf l).Nodup) = b) := fun h1 h2 => by
    rw [← hb]
    unfold allB
    rw [decide_eq_true h1, all_true rec0 validR l h2, Bool.true_and, Bool.true_and]
  have HR := Lib.hid (Below.refl w.heap.size w)
  generalize hn : l.length = n at *
  have HN := Lib.hid hn
  clear hn hv hb
  by_cases h8 : 8 < n
  · have hf := HLong.out h8
    subst hf
    have t1 : decide ((8 : Int) < (n : Int)) = true := decide_eq_true (by omega)
    go_enter Tryz.func21, Tryz.ntmps21
    go_wp2
    first | exact ⟨rfl, HR.out⟩ | (go_ret; exact ⟨rfl, HR.out⟩)
  have t1 : decide ((8 : Int) < (n : Int)) = false := decide_eq_false (by omega)
  have hn8 : n ≤ 8 := by omega
  have HG1 := Lib.hid (HGood.out hn8)
  clear HLong HGood h8
  go_enter Tryz.func21, Tryz.ntmps21
  go_wp2
  go_loopw [3] (fun s3 wr => ∃ i : Nat, s3 = .int .i64 (i : Int) ∧ i ≤ n ∧ RowKit.Hid (∀ j, j < i → validR (l.getD j rec0) = true) ∧ RowKit.Hid (Below w.heap.size w wr)) (fun s3 _ => n - (intOf s3).toNat)
  case atStart => exact ⟨0, rfl, Nat.zero_le _, (fun j hj => by omega), HR.out⟩
  case round =>
    obtain ⟨i, rfl, hi, HI, HB⟩ := hrel
    clear HR
    have i1 : (0 : Int) ≤ (i : Int) := by omega
    by_cases hin : i < n
    · have i2 : (i : Int) < (n : Int) := by omega
      obtain ⟨g, o, cap', u, he, hg, c0, c1, c2, c3, c4, hq⟩ := (HV.out wr HB.out).at i (by rw [HN.out]; exact hin)
      obtain ⟨rfl, -, hcp⟩ := Value.slice.inj he
      subst hcp
      have HBi := Lib.hid (HBad.out i hin)
      obtain ⟨r, hr⟩ : ∃ r, l.getD i rec0 = r := ⟨_, rfl⟩
      have HI2 : RowKit.Hid (validR r = true → ∀ j, j < i + 1 → validR (l.getD j rec0) = true) := by
        intro h0 j hj
        rcases Nat.lt_or_ge j i with h | h
        · exact HI.out j h
        · rw [show j = i by omega, hr]; exact h0
      rw [hr] at c0 c1 c2 c3 hq HBi
      obtain ⟨vb, hvb⟩ : ∃ vb, validR r = vb := ⟨_, rfl⟩
      have cV := Lib.hid (lvalid_any r u wr hq vb hvb)
      rw [hvb] at HBi HI2
      obtain ⟨au, cu, hu, -, -⟩ := hq.length
      subst hu
      unfold RV at cV
      clear he hg hr hvb hq HI
      generalize r.fields.length = nf at *
      generalize S r.lang = lg at *
      generalize r.id = rid at *
      generalize r.ver = rver at *
      generalize r.kind = rkind at *
      go_wp2_with fail
      refine cV.out.mono ?_
      rintro e w5 ⟨rfl, hb5⟩
      have HB5 := Lib.hid (HB.out.trans (hb5.mono HB.out.size))
      clear cV hb5 HB c0 c1 c2 c3 c4
      cases vb
      · have hf := HBi.out rfl
        subst hf
        go_wp2
        first | exact ⟨rfl, HB5.out⟩ | (go_ret; exact ⟨rfl, HB5.out⟩)
      · have HI3 := Lib.hid (HI2.out rfl)
        clear HI2 HBi
        go_wp2
        go_roundw
        case rel => exact ⟨i + 1, by go_num, by omega, HI3.out, HB5.out⟩
        case measure => simp [intOf]; omega
    · obtain rfl : i = n := by omega
      have c5 := Lib.hid (cD.out wr HB.out b (HG1.out HI.out))
      clear cD HG1 HBad HI
      go_wp2_with fail
      refine c5.out.mono ?_
      rintro e w5 ⟨rfl, hb5⟩
      have HG := Lib.hid (HB.out.trans (hb5.mono HB.out.size))
      clear c5 hb5
      go_wp2
      first | exact ⟨rfl, HG.out⟩ | (go_ret; exact ⟨rfl, HG.out⟩)
end

section
open Go.RowKit Go.PlainAid
theorem below_drewN16 (w : World) (d : Nat) : Below w.heap.size w (w.drewN d) := drewN_below w d
theorem RL.open15 {v : Value} {A : List Rec} {w : World} (h : RL v A w) : ∃ a cap g o, ∃ us : Nat → Value, v = .slice a A.length cap ∧ A.length ≤ cap ∧ cap ≤ maxLen ∧ (0 < A.length → a = some ⟨g, o, none⟩) ∧ ∀ W, Below w.heap.size w W → ∀ i, i < A.length →
    (W.cell? ⟨g, o + i * 5, none⟩ = some (.int .i64 (A.getD i rec0).id) ∧ W.cell? ⟨g, o + i * 5 + 1, none⟩ = some (.int .i64 (A.getD i rec0).ver) ∧ W.cell? ⟨g, o + i * 5 + 2, none⟩ = some (.int .i64 (A.getD i rec0).kind) ∧
      W.cell? ⟨g, o + i * 5 + 3, none⟩ = some (.string (S (A.getD i rec0).lang)) ∧ W.cell? ⟨g, o + i * 5 + 4, none⟩ = some (us i)) ∧ FL (us i) (A.getD i rec0).fields W := by
  obtain ⟨a, cap, rfl, hc, hm, hn, hx⟩ := h
  by_cases h0 : 0 < A.length
  · obtain ⟨g, o, -, rfl, -⟩ := hx 0 h0
    have hy : ∀ i, i < A.length → ∃ u, g < w.heap.size ∧ w.cell? ⟨g, o + i * 5, none⟩ = some (.int .i64 (A.getD i rec0).id) ∧ w.cell? ⟨g, o + i * 5 + 1, none⟩ = some (.int .i64 (A.getD i rec0).ver) ∧ w.cell? ⟨g, o + i * 5 + 2, none⟩ = some (.int .i64 (A.getD i rec0).kind) ∧
      w.cell? ⟨g, o + i * 5 + 3, none⟩ = some (.string (S (A.getD i rec0).lang)) ∧ w.cell? ⟨g, o + i * 5 + 4, none⟩ = some u ∧ FL u (A.getD i rec0).fields w := by
      intro i hi
      obtain ⟨g', o', u, e, rest⟩ := hx i hi
      obtain ⟨rfl, rfl, -⟩ := Addr.mk.inj (Option.some.inj e)
      exact ⟨u, rest⟩
    refine ⟨_, cap, g, o, fun i => if h : i < A.length then (hy i h).choose else .nilIface, rfl, hc, hm, fun _ => rfl, fun W hb i hi => ?_⟩
    obtain ⟨hg, h1, h2, h3, h4, h5, h6⟩ := (hy i hi).choose_spec
    simp only [dif_pos hi]
    exact ⟨⟨(hb.cell (p := ⟨g, o + i * 5, none⟩) hg).trans h1, (hb.cell (p := ⟨g, o + i * 5 + 1, none⟩) hg).trans h2, (hb.cell (p := ⟨g, o + i * 5 + 2, none⟩) hg).trans h3, (hb.cell (p := ⟨g, o + i * 5 + 3, none⟩) hg).trans h4, (hb.cell (p := ⟨g, o + i * 5 + 4, none⟩) hg).trans h5⟩, h6.after hb⟩
  · exact ⟨a, cap, 0, 0, fun _ => .nilIface, rfl, hc, hm, fun h => absurd h h0, fun W hb i hi => absurd hi (by omega)⟩
theorem find_len15 (m : MRule) (l : List Rec) (a : Rec) : (findM m l a).length ≤ l.length := by
  unfold findM foundM hitsM
  rw [List.length_map, ins_fold_len, List.length_map]
  have := List.length_filter_le (fun x : Rec => decide (x.id ≠ a.id) && decide (m.need ≤ scoreM m x a)) l
  simp only [List.length_nil]
  omega
theorem twosA_len15 (m : MRule) (a : Rec) (l : List Rec) : (twosA m a l).length ≤ l.length := by
  unfold twosA
  rw [List.length_map]
  exact List.length_filter_le _ _
theorem cnt_le15 (m : MRule) (l : List Rec) (h8 : l.length ≤ 8) (i k : Nat) (hi : i ≤ l.length) (hk : k ≤ l.length) : cntM m l i k ≤ i * 8 + k := by
  have key : ∀ L : List Rec, (L.flatMap fun a => twosA m a l).length ≤ L.length * 8 := by
    intro L
    induction L with
    | nil => simp
    | cons x r ih =>
      rw [List.flatMap_cons, List.length_append, List.length_cons]
      have := twosA_len15 m x l
      omega
  have h1 := key (l.take i)
  have h2 := twosA_len15 m (l.getD i rec0) (l.take k)
  rw [List.length_take] at h1 h2
  unfold cntM
  omega
def SP.il15 (l : List Int) : SP := ⟨fun v w => IL v l w, fun _ _ _ h hb => h.after hb⟩
end

section
open Go.RowKit
def updB (d : Nat → Bool) (i : Nat) : Nat → Bool := fun j => if j = i then true else d j
section
variable (imp : Nat → Bool) (X : (Nat → Bool) → (Nat → Value) → World → Prop) (P : Program) (Q : Exit → Act → World → Prop) (ops : Array Oper) (A : (Nat → Value) → Act) (V : List (Value → Prop))
def ObI (k : Nat) (o : Oper) : Prop :=
  ∀ (d : Nat → Bool) (vs : Nat → Value) (w : World), d k = false → (∀ j, depB o j = true → d j = true) → (∀ i q j, ops[i]? = some q → depB q j = true → d i = true → d j = true) →
    (∀ j, depB o j = true → imp j = false → (V.getD j (fun _ => True)) (vs j)) → X d vs w → ∀ K : Act → World → Prop,
    RowKit.Hid (∀ v w', (imp k = true → X (updB d k) (upd vs k v) w') → (imp k = false → (V.getD k (fun _ => True)) v ∧ Below w.heap.size w w') → K ((A vs).put o.dst v) w') →
    if Region.wanted o (yielded ops (A vs).tmps) = true then Oper.wp P o (A vs) w K Q else K ((A vs).put o.dst undef) w
def ObsI : List Oper → Nat → Prop
  | [], _ => True
  | o :: r, k => ObI imp X P Q ops A V k o ∧ ObsI r (k + 1)
theorem ObsI.at : ∀ (r : List Oper) (k q : Nat) (o : Oper), ObsI imp X P Q ops A V r k → r[q]? = some o → ObI imp X P Q ops A V (k + q) o
  | [], _, _, _, _, h => by cases h
  | o' :: r, k, 0, o, hO, h => by
    obtain rfl : o' = o := by simpa using h
    exact hO.1
  | o' :: r, k, q + 1, o, hO, h => by
    have := ObsI.at r (k + 1) q o hO.2 (by simpa using h)
    rwa [show k + 1 + q = k + (q + 1) by omega] at this
theorem ObsI.nil {k : Nat} : ObsI imp X P Q ops A V [] k := trivial
theorem ObsI.cons {o : Oper} {r : List Oper} {k : Nat} (h : ObI imp X P Q ops A V k o) (t : ObsI imp X P Q ops A V r (k + 1)) : ObsI imp X P Q ops A V (o :: r) k := ⟨h, t⟩
end

theorem wp_region_imp {P : Program} {id : Nat} {ops : Array Oper} {Q : Exit → Act → World → Prop} {a0 : Act} {w0 : World} (imp : Nat → Bool) (X : (Nat → Bool) → (Nat → Value) → World → Prop)
    (hX0 : ∀ vs, X (fun _ => false) vs w0.drew) (hXst : ∀ d vs u w, X d vs u → Below u.heap.size u w → X d vs w) (hXo : ∀ d vs w i v, imp i = false → X d vs w → X (updB d i) (upd vs i v) w)
    (V : List (Value → Prop)) (A : (Nat → Value) → Act) (n f : Nat) (ol : Oper)
    (hm : P.follows .mixedOrders = true) (hd : distinctB ops.toList = true) (hb : backB ops.toList 0 = true) (hA : ∀ vs, puts ops.toList vs 0 a0 = A vs)
    (hlast : lastB ops f n = true) (hol : ops[n]? = some ol)
    (hob : ObsI imp X P Q ops A V (ops.toList.take n) 0)
    (hfin : ∀ d vs w, (∀ k, k < n → d k = true) → X d vs w → (∀ k, k < n → imp k = false → (V.getD k (fun _ => True)) (vs k)) →
      if Region.wanted ol (yielded ops (A vs).tmps) = true then Oper.wp P ol (A vs) w (fun a w' => Q .normal a w') Q else Q .normal ((A vs).put ol.dst undef) w) :
    (Code.region id ops true).wp P Q a0 w0 := by
  unfold lastB at hlast
  rw [Bool.and_eq_true, decide_eq_true_eq] at hlast
  obtain ⟨hn, hreach⟩ := hlast
  have hdf : ∀ (l : Array Bool) i, i < l.size → (fun j => (l.setIfInBounds i true).getD j false) = updB (fun j => l.getD j false) i := fun l i hi => by
    funext j
    unfold updB
    by_cases h : j = i
    · subst h; simp [hi]
    · rw [if_neg h, getD_set_ne false (Ne.symm h)]
  refine wp_region_any hm ?_
  refine wpAny_inv (I := fun l a w => l.size = ops.size ∧ ((l.getD n false = true ∧ (∀ k, k < ops.size → l.getD k false = true) ∧ Q .normal a w) ∨ (l.getD n false = false ∧ (∀ k o, ops[k]? = some o → l.getD k false = true → ∀ e, e ∈ o.after → Region.binds .any e = true → l.getD e.on false = true) ∧
    ∃ vs, a = A vs ∧ X (fun j => l.getD j false) vs w ∧ ∀ k, l.getD k false = true → imp k = false → (V.getD k (fun _ => True)) (vs k)))) (fun l a w h => h.1) ?_ ?_ _ _ _ _ ?_ ?_
  · rintro l a w i ⟨hl, hI⟩ hi
    obtain ⟨h0, o, ho, hall⟩ := mem_ready.1 hi
    have hlt : i < ops.size := (Array.getElem?_eq_some_iff.1 ho).1
    have hil : i < l.size := by omega
    have hif : l.getD i false = false := by simpa [hil] using h0
    rcases hI with ⟨_, hall2, _⟩ | ⟨hnf, hc, vs, rfl, hw, hk⟩
    · rw [hall2 i hlt] at hif
      cases hif
    by_cases hin : i = n
    · subst hin
      obtain rfl : o = ol := by rw [hol] at ho; exact (Option.some.inj ho).symm
      have hdone : ∀ j, j < i → l.getD j false = true := fun j hj => by
        have hr := List.all_eq_true.1 hreach j (List.mem_range.2 hj)
        exact reach_done hc f i j o ho (fun e he hx => hall e he hx) hr
      have hst := hfin _ vs w hdone hw (fun k hk' => hk k (hdone k hk'))
      have hfin2 : ∀ a' w', Q .normal a' w' → (l.setIfInBounds i true).size = ops.size ∧ (((l.setIfInBounds i true).getD i false = true ∧ (∀ k, k < ops.size → (l.setIfInBounds i true).getD k false = true) ∧ Q .normal a' w') ∨ ((l.setIfInBounds i true).getD i false = false ∧ (∀ k o, ops[k]? = some o → (l.setIfInBounds i true).getD k false = true → ∀ e, e ∈ o.after → Region.binds .any e = true → (l.setIfInBounds i true).getD e.on false = true) ∧
          ∃ vs, a' = A vs ∧ X (fun j => (l.setIfInBounds i true).getD j false) vs w' ∧ ∀ k, (l.setIfInBounds i true).getD k false = true → imp k = false → (V.getD k (fun _ => True)) (vs k))) := by
        intro a' w' hq
        have hself : (l.setIfInBounds i true).getD i false = true := by simp [hil]
        refine ⟨by simpa using hl, .inl ⟨hself, fun k hk' => ?_, hq⟩⟩
        by_cases hki : k = i
        · subst hki; exact hself
        · rw [getD_set_ne false (Ne.symm hki)]
          exact hdone k (by omega)
      unfold wpOp
      simp only [ho]
      split
      · rename_i hw'
        rw [if_pos hw'] at hst
        exact .inl (Oper.wp_mono (fun a' w' h => hfin2 a' w' h) hst)
      · rename_i hw'
        rw [if_neg hw'] at hst
        exact hfin2 _ _ hst
    · have hi2 : i < n := by omega
      have hO := ObsI.at imp X P Q ops A V (ops.toList.take n) 0 i o hob (by rw [List.getElem?_take_of_lt hi2]; simpa using ho)
      rw [Nat.zero_add] at hO
      have hput : ∀ v, (A vs).put o.dst v = A (upd vs i v) := fun v => by
        rw [← hA, ← hA, puts_upd ops.toList vs 0 i a0 o v hd (by simpa using ho), Nat.zero_add]
      have hst1 := hO (fun j => l.getD j false) vs w hif (fun j hj => dep_done (fun e he hx => hall e he hx) hj) (fun i' q j hq hj hd' => dep_done (fun e he hx => hc i' q hq hd' e he hx) hj)
        (fun j hj => hk _ (dep_done (fun e he hx => hall e he hx) hj)) hw (fun a' w' => (l.setIfInBounds i true).size = ops.size ∧ (((l.setIfInBounds i true).getD n false = true ∧ (∀ k, k < ops.size → (l.setIfInBounds i true).getD k false = true) ∧ Q .normal a' w') ∨ ((l.setIfInBounds i true).getD n false = false ∧ (∀ k o, ops[k]? = some o → (l.setIfInBounds i true).getD k false = true → ∀ e, e ∈ o.after → Region.binds .any e = true → (l.setIfInBounds i true).getD e.on false = true) ∧
          ∃ vs, a' = A vs ∧ X (fun j => (l.setIfInBounds i true).getD j false) vs w' ∧ ∀ k, (l.setIfInBounds i true).getD k false = true → imp k = false → (V.getD k (fun _ => True)) (vs k))))
        (by
          intro v w' hv1 hv2
          have hmono : ∀ j, l.getD j false = true → (l.setIfInBounds i true).getD j false = true := fun j hj => by
            by_cases hji : j = i
            · subst hji; rw [hj] at hif; cases hif
            · rw [getD_set_ne false (Ne.symm hji)]; exact hj
          refine ⟨by simpa using hl, .inr ⟨by rw [getD_set_ne false hin]; exact hnf, fun k o' ho' hk' e he hx => ?_, upd vs i v, hput v, ?_, fun k hk' hik => ?_⟩⟩
          · by_cases hki : k = i
            · subst hki
              obtain rfl : o = o' := Option.some.inj (ho.symm.trans ho')
              exact hmono _ (hall e he hx)
            · rw [getD_set_ne false (Ne.symm hki)] at hk'
              exact hmono _ (hc k o' ho' hk' e he hx)
          · rw [hdf l i hil]
            cases hi : imp i with
            | true => exact hv1 hi
            | false => exact hXo _ _ _ i v hi (hXst _ _ _ _ hw (hv2 hi).2)
          · by_cases hki : k = i
            · subst hki
              have e : upd vs k v k = v := by simp [upd]
              rw [e]
              exact (hv2 hik).1
            · have e : upd vs i v k = vs k := by unfold upd; rw [if_neg hki]
              rw [e]
              refine hk k ?_ hik
              rwa [getD_set_ne false (Ne.symm hki)] at hk')
      unfold wpOp
      simp only [ho]
      split
      · rename_i hw'
        rw [if_pos hw'] at hst1
        exact .inl hst1
      · rename_i hw'
        rw [if_neg hw'] at hst1
        exact hst1
  · rintro l a w ⟨hl, hI⟩ hr
    rcases hI with ⟨_, _, hq⟩ | ⟨hnf, _⟩
    · exact hq
    · rw [ready_all hb hl hr n (by omega)] at hnf
      cases hnf
  · simp
  · obtain ⟨vs, hvs⟩ := puts_self ops.toList 0 a0
    have hf : ∀ k, (Array.replicate ops.size false).getD k false = false := fun k => by
      by_cases h : k < ops.size
      · simp [h]
      · simp [h]
    have hf2 : (fun j => (Array.replicate ops.size false).getD j false) = fun _ => false := funext hf
    refine ⟨by simp, .inr ⟨hf n, fun k _ _ hk => ?_, vs, by rw [← hA, hvs], by rw [hf2]; exact hX0 vs, fun k hk => ?_⟩⟩
    · rw [hf k] at hk; cases hk
    · rw [hf k] at hk; cases hk
end

section
open Go.RowKit
def nilS : Value := .slice none 0 0
def rowE (N : Nat) (e : TypeId) (sz : Nat) (v : Value) (n : Nat) (cs : List Value) (w : World) : Prop := w.ownsRow N e sz v n cs ∧ v ≠ nilS
theorem rowE.after {N : Nat} {e : TypeId} {sz : Nat} {v : Value} {n : Nat} {cs : List Value} {w w' : World} (h : rowE N e sz v n cs w) (hb : Below w.heap.size w w') : rowE N e sz v n cs w' := by
  refine ⟨⟨h.1.1, ?_⟩, h.2⟩
  rcases h.1.2 with hn | ⟨g, cap, cur, hv, hB', hg, rest⟩
  · exact .inl hn
  · exact .inr ⟨g, cap, cur, hv, hB', (hb.block g (Array.getElem?_eq_some_iff.1 hg).1).trans hg, rest⟩
structure Ch (i0 i1 i2 i3 i4 N : Nat) (W0 : World) (e : TypeId) (sz k m : Nat) (cA cx cB : List Value) (d : Nat → Bool) (vs : Nat → Value) (w : World) : Prop where
  low : Below N W0 w
  size : N ≤ w.heap.size
  c0 : d i0 = true → d i1 = false → rowE N e sz (vs i0) 0 [] w
  c1 : d i1 = true → d i3 = false → rowE N e sz (vs i1) k cA w
  c2 : d i2 = true → d i3 = false → ∃ b, vs i2 = .slice (some ⟨b, 0, none⟩) 1 1 ∧ w.heap[b]? = some (.cells cx.toArray e (0, 0)) ∧ (d i1 = true → (vs i1).ownBlock ≠ some b) ∧ (d i0 = true → d i1 = false → (vs i0).ownBlock ≠ some b)
  c3 : d i3 = true → d i4 = false → rowE N e sz (vs i3) (k + 1) (cA ++ cx) w
  c4 : d i4 = true → rowE N e sz (vs i4) (k + 1 + m) (cA ++ cx ++ cB) w
theorem upd_at (vs : Nat → Value) (i : Nat) (v : Value) : upd vs i v i = v := by simp [upd]
theorem upd_ne (vs : Nat → Value) (i j : Nat) (v : Value) (h : j ≠ i) : upd vs i v j = vs j := by unfold upd; rw [if_neg h]
theorem updB_at (d : Nat → Bool) (i : Nat) : updB d i i = true := by simp [updB]
theorem updB_ne (d : Nat → Bool) (i j : Nat) (h : j ≠ i) : updB d i j = d j := by unfold updB; rw [if_neg h]
section
variable {i0 i1 i2 i3 i4 N : Nat} {W0 : World} {e : TypeId} {sz k m : Nat} {cA cx cB : List Value} {d : Nat → Bool} {vs : Nat → Value} {w : World}
theorem Ch.init (h : Below N W0 w) (hs : N ≤ w.heap.size) (vs : Nat → Value) : Ch i0 i1 i2 i3 i4 N W0 e sz k m cA cx cB (fun _ => false) vs w :=
  ⟨h, hs, (fun h => by cases h), (fun h => by cases h), (fun h => by cases h), (fun h => by cases h), (fun h => by cases h)⟩
theorem Ch.below (h : Ch i0 i1 i2 i3 i4 N W0 e sz k m cA cx cB d vs w) {w' : World} (hb : Below w.heap.size w w') : Ch i0 i1 i2 i3 i4 N W0 e sz k m cA cx cB d vs w' := by
  refine ⟨h.low.trans (hb.mono h.size), Nat.le_trans h.size hb.size, fun a b => (h.c0 a b).after hb, fun a b => (h.c1 a b).after hb, fun a b => ?_, fun a b => (h.c3 a b).after hb, fun a => (h.c4 a).after hb⟩
  obtain ⟨b', h1, h2, h3⟩ := h.c2 a b
  exact ⟨b', h1, (hb.block b' (Array.getElem?_eq_some_iff.1 h2).1).trans h2, h3⟩
theorem Ch.other (h : Ch i0 i1 i2 i3 i4 N W0 e sz k m cA cx cB d vs w) (i : Nat) (v : Value) (n0 : i0 ≠ i) (n1 : i1 ≠ i) (n2 : i2 ≠ i) (n3 : i3 ≠ i) (n4 : i4 ≠ i) : Ch i0 i1 i2 i3 i4 N W0 e sz k m cA cx cB (updB d i) (upd vs i v) w := by
  constructor <;> (try simp only [updB_ne _ _ _ n0, updB_ne _ _ _ n1, updB_ne _ _ _ n2, updB_ne _ _ _ n3, updB_ne _ _ _ n4, upd_ne _ _ _ _ n0, upd_ne _ _ _ _ n1, upd_ne _ _ _ _ n2, upd_ne _ _ _ _ n3, upd_ne _ _ _ _ n4])
  · exact h.low
  · exact h.size
  · exact h.c0
  · exact h.c1
  · exact h.c2
  · exact h.c3
  · exact h.c4
theorem rowE.ltE {N : Nat} {e : TypeId} {sz : Nat} {v : Value} {n : Nat} {cs : List Value} {w : World} (h : rowE N e sz v n cs w) (b : Nat) (hb : v.ownBlock = some b) : N ≤ b ∧ b < w.heap.size := h.1.lt b hb
/-- The empty row. -/
theorem Ch.s0 (h : Ch i0 i1 i2 i3 i4 N W0 e sz k m cA cx cB d vs w) (hne : [i0, i1, i2, i3, i4].Nodup) :
    Ch i0 i1 i2 i3 i4 N W0 e sz k m cA cx cB (updB d i0) (upd vs i0 (.slice (some ⟨w.heap.size, 0, none⟩) 0 0)) (w.alloc (.cells #[] e)) := by
  simp only [List.nodup_cons, List.mem_cons, List.not_mem_nil, or_false, not_or, List.nodup_nil, and_true, not_false_eq_true] at hne
  obtain ⟨⟨n1, n2, n3, n4⟩, _⟩ := hne
  have hb := (Below.refl w.heap.size w).alloc (Nat.le_refl _) (.cells #[] e)
  have g := h.below hb
  constructor <;> (try simp only [updB_at, upd_at, updB_ne _ _ _ (Ne.symm n1), updB_ne _ _ _ (Ne.symm n2), updB_ne _ _ _ (Ne.symm n3), updB_ne _ _ _ (Ne.symm n4), upd_ne _ _ _ _ (Ne.symm n1), upd_ne _ _ _ _ (Ne.symm n2), upd_ne _ _ _ _ (Ne.symm n3), upd_ne _ _ _ _ (Ne.symm n4)])
  · exact g.low
  · exact g.size
  · intro _ _
    exact ⟨⟨by simp, .inr ⟨w.heap.size, 0, #[], rfl, h.size, heap_alloc_new w _, Nat.le_refl _, Nat.zero_le _, by simp, by simp⟩⟩, fun e => by cases e⟩
  · exact g.c1
  · intro a b
    obtain ⟨b', k1, k2, k3, _⟩ := h.c2 a b
    have hl := (Array.getElem?_eq_some_iff.1 k2).1
    exact ⟨b', k1, (hb.block b' hl).trans k2, k3, fun _ _ e => by have e2 : w.heap.size = b' := Option.some.inj e; omega⟩
  · exact g.c3
  · exact g.c4
/-- The first append. -/
theorem Ch.s1 (h : Ch i0 i1 i2 i3 i4 N W0 e sz k m cA cx cB d vs w) (hne : [i0, i1, i2, i3, i4].Nodup) (h0 : d i0 = true) (h1 : d i1 = false) (h3 : d i3 = false) (h4 : d i4 = false) {v' : Value} {w' : World}
    (hown : w'.ownsRow N e sz v' k cA) (hnn : v' ≠ nilS) (hg : w.grownBy w' (vs i0).ownBlock) (hat : v'.ownBlock = (vs i0).ownBlock ∨ v'.ownBlock = some w.heap.size) :
    Ch i0 i1 i2 i3 i4 N W0 e sz k m cA cx cB (updB d i1) (upd vs i1 v') w' := by
  simp only [List.nodup_cons, List.mem_cons, List.not_mem_nil, or_false, not_or, List.nodup_nil, and_true, not_false_eq_true] at hne
  obtain ⟨⟨n01, _, _, _⟩, ⟨n12, n13, n14⟩, _⟩ := hne
  have hl := (h.c0 h0 h1).ltE
  constructor <;> (try simp only [updB_at, upd_at, updB_ne _ _ _ n01, updB_ne _ _ _ (Ne.symm n12), updB_ne _ _ _ (Ne.symm n13), updB_ne _ _ _ (Ne.symm n14), upd_ne _ _ _ _ n01, upd_ne _ _ _ _ (Ne.symm n12), upd_ne _ _ _ _ (Ne.symm n13), upd_ne _ _ _ _ (Ne.symm n14)])
  · exact h.low.grown hg h.size (fun j hj => (hl j hj).1)
  · exact Nat.le_trans h.size hg.size
  · intro _ c; cases c
  · intro _ _; exact ⟨hown, hnn⟩
  · intro a b
    obtain ⟨b', k1, k2, _, k4⟩ := h.c2 a b
    have hb := (Array.getElem?_eq_some_iff.1 k2).1
    have hne0 := k4 h0 h1
    refine ⟨b', k1, (hg.block b' hb (fun e => hne0 e.symm)).trans k2, fun _ => ?_, fun _ c => by cases c⟩
    rcases hat with e | e
    · rw [e]; exact hne0
    · rw [e]
      intro e2
      have := Option.some.inj e2
      omega
  · intro a; rw [h3] at a; cases a
  · intro a; rw [h4] at a; cases a
/-- The element that is laid. -/
theorem Ch.s2 (h : Ch i0 i1 i2 i3 i4 N W0 e sz k m cA cx cB d vs w) (hne : [i0, i1, i2, i3, i4].Nodup) (h3 : d i3 = false) (h4 : d i4 = false) :
    Ch i0 i1 i2 i3 i4 N W0 e sz k m cA cx cB (updB d i2) (upd vs i2 (.slice (some ⟨w.heap.size, 0, none⟩) 1 1)) (w.alloc (.cells cx.toArray e)) := by
  simp only [List.nodup_cons, List.mem_cons, List.not_mem_nil, or_false, not_or, List.nodup_nil, and_true, not_false_eq_true] at hne
  obtain ⟨⟨_, n02, _, _⟩, ⟨n12, _, _⟩, ⟨n23, n24⟩, _⟩ := hne
  have hb := (Below.refl w.heap.size w).alloc (Nat.le_refl _) (.cells cx.toArray e)
  have g := h.below hb
  constructor <;> (try simp only [updB_at, upd_at, updB_ne _ _ _ n02, updB_ne _ _ _ n12, updB_ne _ _ _ (Ne.symm n23), updB_ne _ _ _ (Ne.symm n24), upd_ne _ _ _ _ n02, upd_ne _ _ _ _ n12, upd_ne _ _ _ _ (Ne.symm n23), upd_ne _ _ _ _ (Ne.symm n24)])
  · exact g.low
  · exact g.size
  · exact g.c0
  · exact g.c1
  · intro _ _
    refine ⟨w.heap.size, rfl, heap_alloc_new w _, fun a e => ?_, fun a b e => ?_⟩
    · have := ((h.c1 a h3).ltE _ e).2
      omega
    · have := ((h.c0 a b).ltE _ e).2
      omega
  · intro a; rw [h3] at a; cases a
  · intro a; rw [h4] at a; cases a
/-- The second append. -/
theorem Ch.s3 (h : Ch i0 i1 i2 i3 i4 N W0 e sz k m cA cx cB d vs w) (hne : [i0, i1, i2, i3, i4].Nodup) (h1 : d i1 = true) (h3 : d i3 = false) (h4 : d i4 = false) {v' : Value} {w' : World}
    (hown : w'.ownsRow N e sz v' (k + 1) (cA ++ cx)) (hnn : v' ≠ nilS) (hg : w.grownBy w' (vs i1).ownBlock) :
    Ch i0 i1 i2 i3 i4 N W0 e sz k m cA cx cB (updB d i3) (upd vs i3 v') w' := by
  simp only [List.nodup_cons, List.mem_cons, List.not_mem_nil, or_false, not_or, List.nodup_nil, and_true, not_false_eq_true] at hne
  obtain ⟨⟨_, _, n03, _⟩, ⟨_, n13, _⟩, ⟨n23, _⟩, n34⟩ := hne
  have hl := (h.c1 h1 h3).ltE
  constructor <;> (try simp only [updB_at, upd_at, updB_ne _ _ _ n03, updB_ne _ _ _ n13, updB_ne _ _ _ n23, updB_ne _ _ _ (Ne.symm n34), upd_ne _ _ _ _ n03, upd_ne _ _ _ _ n13, upd_ne _ _ _ _ n23, upd_ne _ _ _ _ (Ne.symm n34)])
  · exact h.low.grown hg h.size (fun j hj => (hl j hj).1)
  · exact Nat.le_trans h.size hg.size
  · intro _ c; rw [h1] at c; cases c
  · intro _ c; cases c
  · intro _ c; cases c
  · intro _ _; exact ⟨hown, hnn⟩
  · intro a; rw [h4] at a; cases a
/-- The third append. -/
theorem Ch.s4 (h : Ch i0 i1 i2 i3 i4 N W0 e sz k m cA cx cB d vs w) (hne : [i0, i1, i2, i3, i4].Nodup) (h1 : d i1 = true) (h3 : d i3 = true) (h4 : d i4 = false) {v' : Value} {w' : World}
    (hown : w'.ownsRow N e sz v' (k + 1 + m) (cA ++ cx ++ cB)) (hnn : v' ≠ nilS) (hg : w.grownBy w' (vs i3).ownBlock) :
    Ch i0 i1 i2 i3 i4 N W0 e sz k m cA cx cB (updB d i4) (upd vs i4 v') w' := by
  simp only [List.nodup_cons, List.mem_cons, List.not_mem_nil, or_false, not_or, List.nodup_nil, and_true, not_false_eq_true] at hne
  obtain ⟨⟨_, _, _, n04⟩, ⟨_, _, n14⟩, ⟨_, n24⟩, n34⟩ := hne
  have hl := (h.c3 h3 h4).ltE
  constructor <;> (try simp only [updB_at, upd_at, updB_ne _ _ _ n04, updB_ne _ _ _ n14, updB_ne _ _ _ n24, updB_ne _ _ _ n34, upd_ne _ _ _ _ n04, upd_ne _ _ _ _ n14, upd_ne _ _ _ _ n24, upd_ne _ _ _ _ n34])
  · exact h.low.grown hg h.size (fun j hj => (hl j hj).1)
  · exact Nat.le_trans h.size hg.size
  · intro _ c; rw [h1] at c; cases c
  · intro _ c; rw [h3] at c; cases c
  · intro _ c; rw [h3] at c; cases c
  · intro _ c; cases c
  · intro _; exact ⟨hown, hnn⟩
end
end

end Go.Proofs.YtfjfpefpdlecbaaGreatDoor
