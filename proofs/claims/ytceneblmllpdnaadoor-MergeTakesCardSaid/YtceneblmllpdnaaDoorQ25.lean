/- Merged: KB16, XA16, LW16. -/
import Derived.Test.YtceneblmllpdnaaDoorQ09
import Derived.Test.YtceneblmllpdnaaDoorQ11
import Derived.Test.YtceneblmllpdnaaDoorQ02
import Derived.Test.YtceneblmllpdnaaDoorQ24
import Derived.Test.YtceneblmllpdnaaDoorQ22
import Derived.Test.YtceneblmllpdnaaDoorQ21
import Derived.Test.YtceneblmllpdnaaDoorQ08
namespace Go.Proofs.YtceneblmllpdnaaDoor

section
open Go.RowKit Go.PlainAid
def encK (k : Kp) : List Value := [.string (S k.1), .int .i64 k.2]
def cellsK (L : List Kp) : List Value := L.flatMap encK
theorem cellsK_snoc (L : List Kp) (k : Kp) : cellsK (L ++ [k]) = cellsK L ++ encK k := by simp [cellsK]
theorem cellsK_length : ∀ L : List Kp, (cellsK L).length = L.length * 2
  | [] => rfl
  | k :: t => by
    have := cellsK_length t
    show (encK k ++ cellsK t).length = _
    rw [List.length_append, this, List.length_cons]
    simp only [encK, List.length_cons, List.length_nil]
    omega
theorem cellsK_at : ∀ (L : List Kp) (i : Nat), i < L.length → (cellsK L)[i * 2]? = some (.string (S (L.getD i kp0).1)) ∧ (cellsK L)[i * 2 + 1]? = some (.int .i64 (L.getD i kp0).2)
  | [], _, h => by cases h
  | k :: t, 0, _ => ⟨rfl, rfl⟩
  | k :: t, i + 1, h => by
    have := cellsK_at t i (by simpa using h)
    have e : cellsK (k :: t) = .string (S k.1) :: .int .i64 k.2 :: cellsK t := rfl
    rw [e, show (i + 1) * 2 = i * 2 + 1 + 1 by omega]
    simp only [List.getElem?_cons_succ]
    exact this
/-- A slice of rules of the call's own, from block B on. -/
def KpR (B : Nat) (v : Value) (L : List Kp) (w : World) : Prop := w.ownsRow B 26 2 v L.length (cellsK L)
theorem KpR.nil (B : Nat) (w : World) : KpR B (.slice none 0 0) [] w := World.ownsRow_nil _ _ _ _
theorem KpR.after {B : Nat} {v : Value} {L : List Kp} {w w' : World} (h : KpR B v L w) (hb : Below w.heap.size w w') : KpR B v L w' := own_after14 h hb
theorem KpR.base {B B' : Nat} {v : Value} {L : List Kp} {w : World} (h : KpR B' v L w) (hB : B ≤ B') : KpR B v L w := by
  refine ⟨h.1, ?_⟩
  rcases h.2 with hn | ⟨g, cap, cur, hv, hb, rest⟩
  · exact .inl hn
  · exact .inr ⟨g, cap, cur, hv, Nat.le_trans hB hb, rest⟩
theorem KpR.kpl {B : Nat} {v : Value} {L : List Kp} {w : World} (h : KpR B v L w) : KpL v L w := by
  have hown := h
  rcases h.2 with ⟨rfl, h0⟩ | ⟨g, cap, cur, rfl, hb, hg, hc, hm, hs, ht⟩
  · have : L = [] := List.eq_nil_of_length_eq_zero h0
    subst this
    exact ⟨none, 0, rfl, Nat.le_refl _, Nat.zero_le _, fun _ => rfl, fun i hi => by cases hi⟩
  · have hadd : ∀ j, (⟨g, 0, none⟩ : Addr).add j = ⟨g, j, none⟩ := fun j => by unfold Addr.add; split <;> simp_all
    refine ⟨_, cap, rfl, hc, hm, (fun h => by cases h), fun i hi => ?_⟩
    have hcc := cellsK_at L i hi
    have t0 := hown.cells (g := g) rfl _ _ hcc.1
    have t1 := hown.cells (g := g) rfl _ _ hcc.2
    rw [hadd] at t0 t1
    refine ⟨g, 0, rfl, (Array.getElem?_eq_some_iff.1 hg).1, ?_⟩
    rw [Nat.zero_add]
    exact ⟨t0, t1⟩
theorem infoKeep : (Tryd.prog.info? 26).map (fun i => (i.zero, i.size, i.bytes)) = some (some (.agg #[.string ⟨#[]⟩, .int .i64 0]), 2, 24) := by kernel_rfl
theorem info_keep : ∃ i0, Tryd.prog.info? 26 = some i0 ∧ i0.zero = some (.agg #[.string ⟨#[]⟩, .int .i64 0]) ∧ i0.size = 2 ∧ i0.bytes = 24 := by
  obtain ⟨i0, h0, h2⟩ := Option.map_eq_some_iff.1 infoKeep
  simp only [Prod.mk.injEq] at h2
  exact ⟨i0, h0, h2.1, h2.2.1, h2.2.2⟩
theorem cells_two16 (w : World) (a b : Value) (t : TypeId) : ∀ j u, [a, b][j]? = some u → (w.alloc (.cells #[a, b] t)).cell? ((⟨w.heap.size, 0, none⟩ : Addr).add j) = some u := by
  intro j u hj
  match j, hj with
  | 0, hj => simp at hj; subst hj; simp [Addr.add]
  | 1, hj => simp at hj; subst hj; simp [Addr.add]
  | (j + 2), hj => simp at hj
/-- append of one rule that has just been laid to such a row. -/
theorem append_kp {ops : Array Oper} {rest : List Oper} {o : Oper} {a : Act} {Q : Exit → Act → World → Prop} (w : World) (hgd : o.guard = none) (s x : Operand)
    (ho : o.op = .call { callee := .builtin .append, args := #[s, x], argTypes := #[22, 22] })
    (B : Nat) (v : Value) (L : List Kp) (t : List UInt8) (h : Int) (hs : a.eval s = v) (hr : KpR B v L w) (hx : a.eval x = .slice (some ⟨w.heap.size, 0, none⟩) 1 1) (hz : L.length ≤ 10000000) (hB : B ≤ w.heap.size)
    (N : Nat) (W1 : World) (hNB : N ≤ B) (hb : Below N W1 w)
    (hk : ∀ v' w', KpR B v' (L ++ [(t, h)]) w' → Below N W1 w' → B ≤ w'.heap.size → wpList Tryd.prog ops Q rest (a.put o.dst v') w') : wpList Tryd.prog ops Q (o :: rest) a (w.alloc (.cells #[.string (S t), .int .i64 h] 26)) := by
  obtain ⟨i0, hi, hz0, hz1, hz2⟩ := info_keep
  have hrow := World.ownsRow.alloc hr (.cells #[.string (S t), .int .i64 h] 26)
  refine wpList_append_own _ hgd s x 22 ho B 26 i0 (.agg #[.string ⟨#[]⟩, .int .i64 0]) 2 24 Tryd.underlying22 hi hz0 hz1 hz2 rfl (by decide) v L.length _ hs hrow ⟨w.heap.size, 0, none⟩ 1 1 [.string (S t), .int .i64 h] hx rfl (cells_two16 _ _ _ _) (by intro u hu; simp at hu; rcases hu with rfl | rfl <;> rfl) (by unfold maxLen; omega) (by omega) (by simp; omega) ?_
  intro v2 w2 hown2 hg2 hn2
  refine hk v2 w2 (by unfold KpR; rw [List.length_append, cellsK_snoc]; exact hown2) ?_ (Nat.le_trans (by simp; omega) hg2.size)
  exact (hb.alloc (by omega) _).grown hg2 (by simp; omega) (fun j hj => Nat.le_trans hNB (hrow.lt j hj).1)

set_option maxHeartbeats 4000000 in
theorem pStandard16_any (w : World) : Calls Tryd.prog 8 #[] w fun e w' => ∃ v, e = .returned v ∧ KpL v stdK w' ∧ Below w.heap.size w w' := by
  obtain ⟨W, hW⟩ : ∃ W, w.alloc (.cells (cellsK stdK).toArray 26) = W := ⟨_, rfl⟩
  have hX : W.heap[w.heap.size]? = some (.cells (cellsK stdK).toArray 26 (0, 0)) := by rw [← hW]; exact heap_alloc_new w _
  have hb : Below w.heap.size w W := by rw [← hW]; exact (Below.refl w.heap.size w).alloc (Nat.le_refl _) _
  have hr : KpR w.heap.size (.slice (some ⟨w.heap.size, 0, none⟩) 10 10) stdK W := ⟨rfl, .inr ⟨w.heap.size, 10, _, rfl, Nat.le_refl _, hX, Nat.le_refl _, by decide, rfl, rfl⟩⟩
  have HE := Lib.hid (show (∃ v, Ending.returned (.slice (some ⟨w.heap.size, 0, none⟩) 10 10) = .returned v ∧ KpL v stdK W ∧ Below w.heap.size w W) from ⟨_, rfl, hr.kpl, hb⟩)
  have HW : RowKit.Hid (w.alloc (.cells #[.string ⟨#[49, 48, 48]⟩, .int .i64 2, .string ⟨#[49, 49, 48]⟩, .int .i64 2, .string ⟨#[50, 52, 53]⟩, .int .i64 2, .string ⟨#[50, 53, 48]⟩, .int .i64 2, .string ⟨#[50, 54, 48]⟩, .int .i64 2, .string ⟨#[50, 54, 52]⟩, .int .i64 2, .string ⟨#[51, 48, 48]⟩, .int .i64 2, .string ⟨#[52, 57, 48]⟩, .int .i64 2, .string ⟨#[56, 51, 48]⟩, .int .i64 2, .string ⟨#[56, 53, 54]⟩, .int .i64 0] 26) = W) := hW
  clear hr hb hX hW
  go_enter Tryd.func8, Tryd.ntmps8
  go_wp2
  (try simp only [Exit.inBlock, Exit.then])
  first | (rw [HW.out]; go_ret; exact HE.out) | (go_ret; rw [HW.out]; exact HE.out)

def stdTags : List (List UInt8) := [[49, 48, 48], [49, 49, 48], [50, 52, 53], [50, 53, 48], [50, 54, 48], [50, 54, 52], [51, 48, 48], [52, 57, 48], [56, 51, 48]]
def tagK (t : List UInt8) : Kp := (t, 2)
theorem stdK_tags : stdTags.map tagK ++ [([56, 53, 54], 0)] = stdK := rfl
theorem tags_take (k : Nat) (h : k < 9) : (stdTags.take (k + 1)).map tagK = (stdTags.take k).map tagK ++ [(stdTags.getD k [], 2)] := by
  match k, h with
  | 0, _ => rfl
  | 1, _ => rfl
  | 2, _ => rfl
  | 3, _ => rfl
  | 4, _ => rfl
  | 5, _ => rfl
  | 6, _ => rfl
  | 7, _ => rfl
  | 8, _ => rfl
set_option maxHeartbeats 8000000 in
theorem refStandard16_row (w : World) : Calls Tryd.prog 9 #[] w fun e w' => ∃ v, e = .returned v ∧ KpR w.heap.size v stdK w' ∧ Below w.heap.size w w' := by
  obtain ⟨W0, hW0⟩ : ∃ W0, w.alloc (.cells (stdTags.map fun t => Value.string (S t)).toArray 9) = W0 := ⟨_, rfl⟩
  have hX : W0.heap[w.heap.size]? = some (.cells (stdTags.map fun t => Value.string (S t)).toArray 9 (0, 0)) := by rw [← hW0]; exact heap_alloc_new w _
  have b0 : Below w.heap.size w W0 := by rw [← hW0]; exact (Below.refl w.heap.size w).alloc (Nat.le_refl _) _
  have hlt : w.heap.size < W0.heap.size := by rw [← hW0]; simp
  have HX := Lib.hid (fun (W : World) (h : Below W0.heap.size W0 W) (i : Nat) (hi : i < 9) => show W.cell? ⟨w.heap.size, i, none⟩ = some (.string (S (stdTags.getD i []))) from by
    rw [Lib.cell_of_heap ((h.block w.heap.size hlt).trans hX)]
    match i, hi with
    | 0, _ => rfl
    | 1, _ => rfl
    | 2, _ => rfl
    | 3, _ => rfl
    | 4, _ => rfl
    | 5, _ => rfl
    | 6, _ => rfl
    | 7, _ => rfl
    | 8, _ => rfl)
  have HE := Lib.hid (fun (v : Value) (W : World) (h : KpR W0.heap.size v (stdTags.map tagK ++ [([56, 53, 54], 0)]) W) (hb : Below W0.heap.size W0 W) => show (∃ v', Ending.returned v = .returned v' ∧ KpR w.heap.size v' stdK W ∧ Below w.heap.size w W) from ⟨v, rfl, by have := h.base b0.size; rwa [stdK_tags] at this, b0.trans (hb.mono b0.size)⟩)
  have HW : RowKit.Hid (w.alloc (.cells #[.string ⟨#[49, 48, 48]⟩, .string ⟨#[49, 49, 48]⟩, .string ⟨#[50, 52, 53]⟩, .string ⟨#[50, 53, 48]⟩, .string ⟨#[50, 54, 48]⟩, .string ⟨#[50, 54, 52]⟩, .string ⟨#[51, 48, 48]⟩, .string ⟨#[52, 57, 48]⟩, .string ⟨#[56, 51, 48]⟩] 9) = W0) := hW0
  have HN := Lib.hid (KpR.nil W0.heap.size W0)
  have HB := Lib.hid (Below.refl W0.heap.size W0)
  clear hX hW0 b0 hlt
  go_enter Tryd.func9, Tryd.ntmps9
  go_upto_region 2 with fail
  rw [HW.out]
  clear HW
  go_wp2
  go_loopw [2, 3] (fun s2 s3 wr => ∃ k : Nat, s3 = .int .i64 (k : Int) ∧ k ≤ 9 ∧ KpR W0.heap.size s2 ((stdTags.take k).map tagK) wr ∧ Below W0.heap.size W0 wr) (fun _ s3 _ => 9 - (intOf s3).toNat)
  case atStart => exact ⟨0, rfl, Nat.zero_le _, HN.out, HB.out⟩
  case round =>
    obtain ⟨k, rfl, hk, hown, hbw⟩ := hrel
    clear HN HB
    have hsz := hbw.size
    have hll : ((stdTags.take k).map tagK).length ≤ 9 := by rw [List.length_map, List.length_take]; omega
    by_cases hkn : k < 9
    · have i1 : (0 : Int) ≤ (k : Int) := by omega
      have i2 : (k : Int) < 9 := by omega
      have c0 := HX.out wr hbw k hkn
      have hst := tags_take k hkn
      have HO := Lib.hid hown
      have HBw := Lib.hid hbw
      obtain ⟨M, hM⟩ : ∃ M, (stdTags.take k).map tagK = M := ⟨_, rfl⟩
      rw [hM] at HO hst hll
      have HM := Lib.hid hst
      clear hown hbw hst hM
      generalize stdTags.getD k [] = tt at *
      go_wp2_with (at_builtin; refine append_kp wr rfl _ _ rfl W0.heap.size u2 M tt 2 rfl HO.out rfl (by omega) (by omega) W0.heap.size W0 (Nat.le_refl _) HBw.out ?_; intro v2 w2 hr2 hb2 hB2)
      go_roundw
      case rel => exact ⟨k + 1, by go_num, by omega, by rw [HM.out]; exact hr2, hb2⟩
      case measure => simp [intOf]; omega
    · obtain rfl : k = 9 := by omega
      have hT : (stdTags.take 9).map tagK = stdTags.map tagK := rfl
      rw [hT] at hown
      have HO := Lib.hid hown
      have HBw := Lib.hid hbw
      obtain ⟨M, hM⟩ : ∃ M, stdTags.map tagK = M := ⟨_, rfl⟩
      have hl9 : M.length = 9 := by rw [← hM]; rfl
      rw [hM] at HO HE
      clear hown hbw hT hM
      go_wp2_with (at_builtin; refine append_kp wr rfl _ _ rfl W0.heap.size u2 M [56, 53, 54] 0 rfl HO.out rfl (by omega) (by omega) W0.heap.size W0 (Nat.le_refl _) HBw.out ?_; intro v2 w2 hr2 hb2 hB2)
      have HG := Lib.hid (HE.out v2 w2 hr2 hb2)
      clear hr2 hb2
      go_wp2
      first | exact HG.out | (go_ret; exact HG.out)
theorem refStandard16_any (w : World) : Calls Tryd.prog 9 #[] w fun e w' => ∃ v, e = .returned v ∧ KpL v stdK w' ∧ Below w.heap.size w w' := by
  refine (refStandard16_row w).mono ?_
  rintro e W ⟨v, h1, h2, h3⟩
  exact ⟨v, h1, h2.kpl, h3⟩
end

section
open Go.RowKit Go.PlainAid
def rvC (R : Rec) (mv : Value) : Array Value := #[.int .i64 R.id, .int .i64 R.ver, .int .i64 R.kind, .string (S R.lang), mv]
def pgC (p : Prt) (fv tv : Value) : Array Value := #[.int .i64 p.into, .int .i64 p.frm.id, .int .i64 p.frm.ver, .int .i64 p.frm.kind, .string (S p.frm.lang), fv, tv]
def tupA (R : Rec) (P : Prt) (mv fv tv : Value) : Value := .tuple #[RV R mv, PgV P fv tv, .int .i64 0]
def pA (R : Rec) (P : Prt) (N : Nat) (d : Nat → Bool) (vs : Nat → Value) (w : World) : Nat → Prop
  | 2 => d 3 = false → KpL (vs 2) stdK w
  | 3 => ∃ mv fv tv, vs 3 = tupA R P mv fv tv ∧ FT N mv R.fields w ∧ FT N fv P.frm.fields w ∧ TR N tv P.taken w
  | 4 => vs 4 = vs 3
  | 5 => ∀ mv fv tv, vs 3 = tupA R P mv fv tv → vs 5 = RV R mv
  | 6 => ∀ mv fv tv, vs 3 = tupA R P mv fv tv → vs 6 = PgV P fv tv
  | 7 => vs 7 = .int .i64 0
  | 8 => ∃ b cs, vs 8 = .pointer (some ⟨b, 0, none⟩) ∧ N ≤ b ∧ w.heap[b]? = some (.cells cs 31 (0, 0)) ∧ cs.size = 5
  | 9 => ∃ b cs, vs 9 = .pointer (some ⟨b, 0, none⟩) ∧ N ≤ b ∧ w.heap[b]? = some (.cells cs 36 (0, 0)) ∧ cs.size = 7
  | 10 => ∀ mv fv tv b, vs 3 = tupA R P mv fv tv → vs 8 = .pointer (some ⟨b, 0, none⟩) → w.heap[b]? = some (.cells (rvC R mv) 31 (0, 0))
  | 11 => ∀ mv fv tv b, vs 3 = tupA R P mv fv tv → vs 9 = .pointer (some ⟨b, 0, none⟩) → w.heap[b]? = some (.cells (pgC P fv tv) 36 (0, 0))
  | 12 => vs 12 = .int .i64 0
  | _ => True
def dpA : Nat → List Nat
  | 4 => [3]
  | 5 => [3]
  | 6 => [3]
  | 10 => [3, 8]
  | 11 => [3, 9]
  | _ => []
/-- Only blocks of one type change, and keep their size. -/
structure RelT (T : TypeId) (w w' : World) : Prop where
  size : w.heap.size ≤ w'.heap.size
  same : ∀ (b : Nat) (cs : Array Value) (t : TypeId), w.heap[b]? = some (Obj.cells cs t (0, 0)) → t ≠ T → w'.heap[b]? = some (Obj.cells cs t (0, 0))
  like : ∀ (b : Nat) (cs : Array Value) (t : TypeId), w.heap[b]? = some (Obj.cells cs t (0, 0)) → ∃ cs' : Array Value, w'.heap[b]? = some (Obj.cells cs' t (0, 0)) ∧ cs'.size = cs.size
theorem RelT.below {T : TypeId} {w w' : World} (h : Below w.heap.size w w') : RelT T w w' :=
  ⟨h.size, fun b _ _ hc _ => (h.block b (Array.getElem?_eq_some_iff.1 hc).1).trans hc, fun b cs _ hc => ⟨cs, (h.block b (Array.getElem?_eq_some_iff.1 hc).1).trans hc, rfl⟩⟩
theorem RelT.row {T : TypeId} {w : World} {g : Nat} {old xs : Array Value} (hg : w.heap[g]? = some (.cells old T (0, 0))) (hz : xs.size = old.size) : RelT T w (w.setRow g xs) := by
  refine ⟨Nat.le_of_eq (size_setRow _ _ _).symm, fun b cs t hc ht => ?_, fun b cs t hc => ?_⟩
  · refine (setRow_other _ _ _ _ (fun e => ?_)).trans hc
    subst e
    rw [hg] at hc
    injection Option.some.inj hc with e1 e2
    exact ht e2.symm
  · by_cases e : b = g
    · subst e
      rw [hg] at hc
      injection Option.some.inj hc with e1 e2
      subst e1 e2
      exact ⟨xs, setRow_heap _ _ _ _ _ _ hg, hz⟩
    · exact ⟨cs, (setRow_other _ _ _ _ e).trans hc, rfl⟩
theorem own_rel {T e : TypeId} {w w' : World} (h : RelT T w w') (ht : e ≠ T) {B s n : Nat} {v : Value} {xs : List Value} (ho : w.ownsRow B e s v n xs) : w'.ownsRow B e s v n xs :=
  own_kept ho (fun b _ _ hc => (h.same b _ _ hc ht).trans hc.symm)
theorem FT.rel {T : TypeId} {w w' : World} (h : RelT T w w') (h1 : 45 ≠ T) (h2 : 65 ≠ T) {B : Nat} {v : Value} {L : List Fld} (hf : FT B v L w) : FT B v L w' := by
  obtain ⟨us, g1, g2, g3⟩ := hf
  exact ⟨us, g1, own_rel h h1 g2, fun i hi => own_rel h h2 (g3 i hi)⟩

structure Xa (R : Rec) (P : Prt) (wq : World) (d : Nat → Bool) (vs : Nat → Value) (w : World) : Prop where
  low : Below wq.heap.size wq w
  p : ∀ i, d i = true → pA R P wq.heap.size d vs w i ∧ ∀ k ∈ dpA i, d k = true
section
variable {R : Rec} {P : Prt} {wq : World} {d : Nat → Bool} {vs : Nat → Value} {w : World}
theorem Xa.init (vs : Nat → Value) : Xa R P wq (fun _ => false) vs wq.drew := ⟨(Below.refl _ _).drew, fun i h => by cases h⟩
theorem Xa.keep (h : Xa R P wq d vs w) {T : TypeId} {w' : World} (hT : RelT T w w') (h1 : 45 ≠ T) (h2 : 65 ≠ T) (h3 : 3 ≠ T) (hk : d 2 = true → d 3 = true ∨ Below w.heap.size w w') (h10 : d 10 = true → 31 ≠ T) (h11 : d 11 = true → 36 ≠ T) :
    ∀ j, d j = true → pA R P wq.heap.size d vs w' j := by
  intro j hj
  have hp := (h.p j hj).1
  match j, hp with
  | 0, _ => trivial
  | 1, _ => trivial
  | 2, hp =>
    intro h3
    rcases hk hj with e | e
    · rw [h3] at e; cases e
    · exact KpL.after (hp h3) e
  | 3, ⟨mv, fv, tv, e1, e2, e3, e4⟩ => exact ⟨mv, fv, tv, e1, e2.rel hT h1 h2, e3.rel hT h1 h2, own_rel hT h3 e4⟩
  | 4, hp => exact hp
  | 5, hp => exact hp
  | 6, hp => exact hp
  | 7, hp => exact hp
  | 8, ⟨b, cs, e1, e2, e3, e4⟩ =>
    obtain ⟨cs', g1, g2⟩ := hT.like _ _ _ e3
    exact ⟨b, cs', e1, e2, g1, g2.trans e4⟩
  | 9, ⟨b, cs, e1, e2, e3, e4⟩ =>
    obtain ⟨cs', g1, g2⟩ := hT.like _ _ _ e3
    exact ⟨b, cs', e1, e2, g1, g2.trans e4⟩
  | 10, hp => exact fun mv fv tv b e1 e2 => hT.same _ _ _ (hp mv fv tv b e1 e2) (h10 hj)
  | 11, hp => exact fun mv fv tv b e1 e2 => hT.same _ _ _ (hp mv fv tv b e1 e2) (h11 hj)
  | 12, hp => exact hp
  | n + 13, _ => trivial
theorem pA_upd {N : Nat} {i j : Nat} {v : Value} (hi : d i = false) (hj : d j = true) (hdj : ∀ k ∈ dpA j, d k = true) (hp : pA R P N d vs w j) : pA R P N (updB d i) (upd vs i v) w j := by
  have hne : ∀ k, d k = true → upd vs i v k = vs k := fun k hk => upd_ne _ _ _ _ (fun e => by subst e; rw [hi] at hk; cases hk)
  have hjn := hne j hj
  match j, hp, hdj with
  | 0, _, _ => trivial
  | 1, _, _ => trivial
  | 2, hp, _ =>
    intro h3
    show KpL (upd vs i v 2) stdK w
    rw [hjn]
    refine hp ?_
    unfold updB at h3
    split at h3
    · cases h3
    · exact h3
  | 3, hp, _ => unfold pA at hp ⊢; rw [hjn]; exact hp
  | 4, hp, hd => unfold pA at hp ⊢; rw [hjn, hne 3 (hd 3 (by simp [dpA]))]; exact hp
  | 5, hp, hd => unfold pA at hp ⊢; rw [hjn, hne 3 (hd 3 (by simp [dpA]))]; exact hp
  | 6, hp, hd => unfold pA at hp ⊢; rw [hjn, hne 3 (hd 3 (by simp [dpA]))]; exact hp
  | 7, hp, _ => unfold pA at hp ⊢; rw [hjn]; exact hp
  | 8, hp, _ => unfold pA at hp ⊢; rw [hjn]; exact hp
  | 9, hp, _ => unfold pA at hp ⊢; rw [hjn]; exact hp
  | 10, hp, hd => unfold pA at hp ⊢; rw [hne 8 (hd 8 (by simp [dpA])), hne 3 (hd 3 (by simp [dpA]))]; exact hp
  | 11, hp, hd => unfold pA at hp ⊢; rw [hne 9 (hd 9 (by simp [dpA])), hne 3 (hd 3 (by simp [dpA]))]; exact hp
  | 12, hp, _ => unfold pA at hp ⊢; rw [hjn]; exact hp
  | n + 13, _, _ => trivial
/-- One operation more. -/
theorem Xa.step (h : Xa R P wq d vs w) (i : Nat) (v : Value) {w' : World} (hi : d i = false) (T : TypeId) (hT : RelT T w w') (hlow : Below wq.heap.size wq w') (h1 : 45 ≠ T) (h2 : 65 ≠ T) (h3 : 3 ≠ T) (hk : d 2 = true → d 3 = true ∨ Below w.heap.size w w') (h10 : d 10 = true → 31 ≠ T) (h11 : d 11 = true → 36 ≠ T)
    (hp : pA R P wq.heap.size (updB d i) (upd vs i v) w' i) (hd : ∀ k ∈ dpA i, d k = true) : Xa R P wq (updB d i) (upd vs i v) w' := by
  refine ⟨hlow, fun j hj => ?_⟩
  have hmono : ∀ k, d k = true → updB d i k = true := fun k hk => by unfold updB; split <;> simp [hk]
  by_cases e : j = i
  · subst e
    exact ⟨hp, fun k hk => hmono k (hd k hk)⟩
  · have hj' : d j = true := by rwa [updB_ne _ _ _ e] at hj
    have hdj := (h.p j hj').2
    exact ⟨pA_upd hi hj' hdj (h.keep hT h1 h2 h3 hk h10 h11 j hj'), fun k hk => hmono k (hdj k hk)⟩
theorem Xa.stepB (h : Xa R P wq d vs w) (i : Nat) (v : Value) {w' : World} (hi : d i = false) (hb : Below w.heap.size w w') (hp : pA R P wq.heap.size (updB d i) (upd vs i v) w' i) (hd : ∀ k ∈ dpA i, d k = true) : Xa R P wq (updB d i) (upd vs i v) w' :=
  h.step i v hi 9 (RelT.below hb) (h.low.trans (hb.mono h.low.size)) (by decide) (by decide) (by decide) (fun _ => .inr hb) (fun _ => by decide) (fun _ => by decide) hp hd
theorem Xa.below (h : Xa R P wq d vs w) {w' : World} (hb : Below w.heap.size w w') : Xa R P wq d vs w' :=
  ⟨h.low.trans (hb.mono h.low.size), fun j hj => ⟨h.keep (T := 9) (RelT.below hb) (by decide) (by decide) (by decide) (fun _ => .inr hb) (fun _ => by decide) (fun _ => by decide) j hj, (h.p j hj).2⟩⟩
theorem Xa.other (h : Xa R P wq d vs w) (i : Nat) (v : Value) (hi : i ≠ 2 ∧ i ≠ 3 ∧ i ≠ 4 ∧ i ≠ 5 ∧ i ≠ 6 ∧ i ≠ 7 ∧ i ≠ 8 ∧ i ≠ 9 ∧ i ≠ 10 ∧ i ≠ 11 ∧ i ≠ 12) : Xa R P wq (updB d i) (upd vs i v) w := by
  obtain ⟨n2, n3, n4, n5, n6, n7, n8, n9, n10, n11, n12⟩ := hi
  have hd : ∀ k, k ≠ i → updB d i k = d k := fun k hk => updB_ne _ _ _ hk
  have hv : ∀ k, k ≠ i → upd vs i v k = vs k := fun k hk => upd_ne _ _ _ _ hk
  refine ⟨h.low, fun j hj => ?_⟩
  match j, hj with
  | 0, _ => exact ⟨trivial, fun k hk => by cases hk⟩
  | 1, _ => exact ⟨trivial, fun k hk => by cases hk⟩
  | 2, hj =>
    rw [hd 2 (Ne.symm n2)] at hj
    refine ⟨?_, fun k hk => by cases hk⟩
    have := (h.p 2 hj).1
    unfold pA at this ⊢
    rw [hd 3 (Ne.symm n3), hv 2 (Ne.symm n2)]
    exact this
  | 3, hj =>
    rw [hd 3 (Ne.symm n3)] at hj
    refine ⟨?_, fun k hk => by cases hk⟩
    have := (h.p 3 hj).1
    unfold pA at this ⊢
    rw [hv 3 (Ne.symm n3)]
    exact this
  | 4, hj =>
    rw [hd 4 (Ne.symm n4)] at hj
    obtain ⟨g1, g2⟩ := h.p 4 hj
    unfold pA at g1 ⊢
    rw [hv 3 (Ne.symm n3), hv 4 (Ne.symm n4)]
    exact ⟨g1, fun k hk => by simp [dpA] at hk; subst hk; rw [hd 3 (Ne.symm n3)]; exact g2 3 (by simp [dpA])⟩
  | 5, hj =>
    rw [hd 5 (Ne.symm n5)] at hj
    obtain ⟨g1, g2⟩ := h.p 5 hj
    unfold pA at g1 ⊢
    rw [hv 3 (Ne.symm n3), hv 5 (Ne.symm n5)]
    exact ⟨g1, fun k hk => by simp [dpA] at hk; subst hk; rw [hd 3 (Ne.symm n3)]; exact g2 3 (by simp [dpA])⟩
  | 6, hj =>
    rw [hd 6 (Ne.symm n6)] at hj
    obtain ⟨g1, g2⟩ := h.p 6 hj
    unfold pA at g1 ⊢
    rw [hv 3 (Ne.symm n3), hv 6 (Ne.symm n6)]
    exact ⟨g1, fun k hk => by simp [dpA] at hk; subst hk; rw [hd 3 (Ne.symm n3)]; exact g2 3 (by simp [dpA])⟩
  | 7, hj =>
    rw [hd 7 (Ne.symm n7)] at hj
    refine ⟨?_, fun k hk => by cases hk⟩
    have := (h.p 7 hj).1
    unfold pA at this ⊢
    rw [hv 7 (Ne.symm n7)]
    exact this
  | 8, hj =>
    rw [hd 8 (Ne.symm n8)] at hj
    refine ⟨?_, fun k hk => by cases hk⟩
    have := (h.p 8 hj).1
    unfold pA at this ⊢
    rw [hv 8 (Ne.symm n8)]
    exact this
  | 9, hj =>
    rw [hd 9 (Ne.symm n9)] at hj
    refine ⟨?_, fun k hk => by cases hk⟩
    have := (h.p 9 hj).1
    unfold pA at this ⊢
    rw [hv 9 (Ne.symm n9)]
    exact this
  | 10, hj =>
    rw [hd 10 (Ne.symm n10)] at hj
    obtain ⟨g1, g2⟩ := h.p 10 hj
    unfold pA at g1 ⊢
    rw [hv 3 (Ne.symm n3), hv 8 (Ne.symm n8)]
    refine ⟨g1, fun k hk => ?_⟩
    have hk2 : k = 3 ∨ k = 8 := by simpa [dpA] using hk
    rcases hk2 with rfl | rfl
    · rw [hd 3 (Ne.symm n3)]; exact g2 3 (by simp [dpA])
    · rw [hd 8 (Ne.symm n8)]; exact g2 8 (by simp [dpA])
  | 11, hj =>
    rw [hd 11 (Ne.symm n11)] at hj
    obtain ⟨g1, g2⟩ := h.p 11 hj
    unfold pA at g1 ⊢
    rw [hv 3 (Ne.symm n3), hv 9 (Ne.symm n9)]
    refine ⟨g1, fun k hk => ?_⟩
    have hk2 : k = 3 ∨ k = 9 := by simpa [dpA] using hk
    rcases hk2 with rfl | rfl
    · rw [hd 3 (Ne.symm n3)]; exact g2 3 (by simp [dpA])
    · rw [hd 9 (Ne.symm n9)]; exact g2 9 (by simp [dpA])
  | 12, hj =>
    rw [hd 12 (Ne.symm n12)] at hj
    refine ⟨?_, fun k hk => by cases hk⟩
    have := (h.p 12 hj).1
    unfold pA at this ⊢
    rw [hv 12 (Ne.symm n12)]
    exact this
  | n + 13, _ => exact ⟨trivial, fun k hk => by cases hk⟩
end
end

section
open Go.RowKit Go.PlainAid
set_option maxHeartbeats 4000000 in
theorem lone16_any (t v : List UInt8) (w : World) :
    Calls Tryd.prog 23 #[.string (S t), .string (S v)] w fun e w' => ∃ u, e = .returned (FV (one16 t v) u) ∧ SB w.heap.size u (one16 t v).subs w' ∧ Below w.heap.size w w' := by
  obtain ⟨W1, hW1⟩ : ∃ X, (w.alloc (.cells #[.string (S t), .string ⟨#[32, 32]⟩, .slice (some ⟨w.heap.size + 1, 0, none⟩) 1 1, .int .i64 0] 45)).alloc (.cells #[.int .u8 97, .string (S v)] 65) = X := ⟨_, rfl⟩
  have b1 : Below w.heap.size w W1 := by rw [← hW1]; exact ((Below.refl w.heap.size w).alloc (Nat.le_refl _) _).alloc (by simp) _
  have hB : W1.heap[w.heap.size]? = some (.cells #[.string (S t), .string ⟨#[32, 32]⟩, .slice (some ⟨w.heap.size + 1, 0, none⟩) 1 1, .int .i64 0] 45 (0, 0)) := by
    rw [← hW1]
    exact (Below.heap_alloc _ _ _ (by simp)).trans (heap_alloc_new w _)
  have hs : SB (w.heap.size + 1) (.slice (some ⟨w.heap.size + 1, 0, none⟩) 1 1) [(97, v)] W1 := by
    have := SB.one (w.alloc (.cells #[.string (S t), .string ⟨#[32, 32]⟩, .slice (some ⟨w.heap.size + 1, 0, none⟩) 1 1, .int .i64 0] 45)) 97 v
    rw [World.size_alloc] at this
    rw [← hW1]
    exact this
  have HFin := Lib.hid hB
  have HE : RowKit.Hid (∃ u, Ending.returned (.agg #[.string (S t), .string ⟨#[32, 32]⟩, .slice (some ⟨w.heap.size + 1, 0, none⟩) 1 1, .int .i64 0]) = .returned (FV (one16 t v) u) ∧ SB w.heap.size u (one16 t v).subs W1 ∧ Below w.heap.size w W1) :=
    ⟨_, rfl, hs.base (Nat.le_succ _), b1⟩
  have HW1 := Lib.hid hW1
  clear hB hs b1 hW1
  obtain ⟨st, hst⟩ : ∃ x, S t = x := ⟨_, rfl⟩
  obtain ⟨sv, hsv⟩ : ∃ x, S v = x := ⟨_, rfl⟩
  rw [hst] at HFin HE HW1 ⊢
  rw [hsv] at HW1 ⊢
  clear hst hsv
  go_enter Tryd.func23, Tryd.ntmps23
  go_wp2
  (try simp only [Exit.inBlock, Exit.then])
  rw [HW1.out]
  refine bodyPost_ret (results_cell_row rfl _ _ w.heap.size _ _ _ _ rfl HFin.out Tryd.underlying45 rfl (by kernel_rfl)) rfl ?_
  exact HE.out
end

end Go.Proofs.YtceneblmllpdnaaDoor
