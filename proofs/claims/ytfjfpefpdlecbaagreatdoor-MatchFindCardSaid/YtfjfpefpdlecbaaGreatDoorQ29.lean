/- Merged: KE15, Plain15E, R15N, Al15. -/
import Derived.Test.YtfjfpefpdlecbaaGreatDoorQ28
import Derived.Test.YtfjfpefpdlecbaaGreatDoorQ15
import Derived.Test.YtfjfpefpdlecbaaGreatDoorQ16
import Derived.Maps.AppendAt
import Derived.Test.YtfjfpefpdlecbaaGreatDoorQ18
import Derived.Laws.ResultCell
namespace Go.Proofs.YtfjfpefpdlecbaaGreatDoor

section
open Go.RowKit Go.PlainAid
/-- A slice of slices of texts. -/
def KK (v : Value) (Ks : List (List (List UInt8))) (w : World) : Prop :=
  ∃ a cap, v = .slice a Ks.length cap ∧ Ks.length ≤ cap ∧ cap ≤ maxLen ∧ ∀ i, i < Ks.length → ∃ g u, a = some ⟨g, 0, none⟩ ∧ g < w.heap.size ∧ w.cell? ⟨g, i, none⟩ = some u ∧ BL u (Ks.getD i []) w
theorem KK.after {v : Value} {Ks : List (List (List UInt8))} {w w' : World} (h : KK v Ks w) (hb : Below w.heap.size w w') : KK v Ks w' := by
  obtain ⟨a, cap, rfl, hc, hm, hx⟩ := h
  refine ⟨a, cap, rfl, hc, hm, fun i hi => ?_⟩
  obtain ⟨g, u, rfl, hg, h1, h2⟩ := hx i hi
  exact ⟨g, u, rfl, Nat.lt_of_lt_of_le hg hb.size, (hb.cell (p := ⟨g, i, none⟩) hg).trans h1, h2.after hb⟩
theorem KK.length {v : Value} {Ks : List (List (List UInt8))} {w : World} (h : KK v Ks w) : ∃ a cap, v = .slice a Ks.length cap ∧ Ks.length ≤ cap ∧ cap ≤ maxLen := by
  obtain ⟨a, cap, h1, h2, h3, _⟩ := h
  exact ⟨a, cap, h1, h2, h3⟩
/-- A row of such slices from block B on; what they hold lies in other new blocks. -/
def KN (B : Nat) (v : Value) (Ks : List (List (List UInt8))) (w : World) : Prop :=
  ∃ xs : List Value, xs.length = Ks.length ∧ w.ownsRow B 36 1 v Ks.length xs ∧ ∀ i, i < Ks.length → NewX B v.ownBlock (BL (xs.getD i .nilIface) (Ks.getD i [])) w
theorem KN.nil (B : Nat) (w : World) : KN B (.slice none 0 0) [] w := ⟨[], rfl, World.ownsRow_nil _ _ _ _, fun i hi => by cases hi⟩
theorem KN.on {B : Nat} {v : Value} {Ks : List (List (List UInt8))} {w w' : World} (h : KN B v Ks w) (hs : w.heap.size ≤ w'.heap.size) (hb : ∀ i, B ≤ i → i < w.heap.size → w'.heap[i]? = w.heap[i]?) : KN B v Ks w' := by
  obtain ⟨us, h1, h2, h3⟩ := h
  exact ⟨us, h1, own_same h2 hb, fun i hi => (h3 i hi).on hs (fun j hj hk _ => hb j hj hk)⟩
theorem KN.after {B : Nat} {v : Value} {Ks : List (List (List UInt8))} {w w' : World} (h : KN B v Ks w) (hb : Below w.heap.size w w') : KN B v Ks w' := h.on hb.size fun i _ hi => hb.block i hi
theorem NewX.here {B : Nat} {og : Option Nat} {P : World → Prop} {w : World} (h : NewX B og P w) : P w := h w (Nat.le_refl _) (fun _ _ _ _ => rfl)
theorem KN.kk {B : Nat} {v : Value} {Ks : List (List (List UInt8))} {w : World} (h : KN B v Ks w) : KK v Ks w := by
  obtain ⟨us, hl, hown, hq⟩ := h
  rcases hown.2 with ⟨rfl, h0⟩ | ⟨g, cap, cur, rfl, hb, hg, hc, hm, hs, ht⟩
  · have : Ks = [] := List.eq_nil_of_length_eq_zero h0
    subst this
    exact ⟨none, 0, rfl, Nat.le_refl _, Nat.zero_le _, fun i hi => by cases hi⟩
  · refine ⟨_, cap, rfl, hc, hm, fun i hi => ⟨g, us.getD i .nilIface, rfl, (Array.getElem?_eq_some_iff.1 hg).1, ?_, (hq i hi).here⟩⟩
    have := hown.cells (g := g) rfl i (us.getD i .nilIface) (by rw [List.getD_eq_getElem?_getD, List.getElem?_eq_getElem (by omega)]; rfl)
    have hadd : (⟨g, 0, none⟩ : Addr).add i = ⟨g, i, none⟩ := by unfold Addr.add; split <;> simp_all
    rwa [hadd] at this
theorem KN.new {B : Nat} {v : Value} {Ks : List (List (List UInt8))} {w : World} (h : KN B v Ks w) : New B (KK v Ks) w := fun _ hs hb => (h.on hs hb).kk
theorem NR.new15 {B : Nat} {v : Value} {L : List (List UInt8)} {w : World} (h : NR B v L w) : New B (BL v L) w := fun _ _ hb => row_bl (own_same h hb)
theorem infoSl15 : (Tryz.prog.info? 36).map (fun i => (i.zero, i.size, i.bytes)) = some (some (.slice none 0 0), 1, 24) := by kernel_rfl
theorem bl_one {u : Value} {L : List (List UInt8)} {w : World} (h : BL u L w) : u.oneCell' = true := by
  obtain ⟨a, cap, rfl, _⟩ := h
  rfl
theorem getD_snoc15 {α : Type} (L : List α) (x d : α) (i : Nat) (hi : i < L.length + 1) : (L ++ [x]).getD i d = if i < L.length then L.getD i d else x := by
  rw [List.getD_eq_getElem?_getD, List.getD_eq_getElem?_getD]
  by_cases h : i < L.length
  · rw [if_pos h, List.getElem?_append_left h]
  · rw [if_neg h, List.getElem?_append_right (by omega), show i - L.length = 0 by omega]
    rfl
/-- One list more behind such a row. -/
theorem KN.grow {B : Nat} {v : Value} {Ks : List (List (List UInt8))} {w : World} (h : KN B v Ks w) (hz : Ks.length ≤ 1000) (hB : B ≤ w.heap.size) (x : Value) (K : List (List UInt8)) (b : Nat) (t : TypeId)
    (hb : w.heap[b]? = some (.cells #[x] t (0, 0))) (hx : NewX B v.ownBlock (BL x K) w) (ty : TypeId) :
    ∃ v' w', (Builtin.append_ #[74, 74] ty #[v, .slice (some ⟨b, 0, none⟩) 1 1]).run Tryz.prog w = .ok v' w' ∧ KN B v' (Ks ++ [K]) w' ∧ w.grownBy w' v.ownBlock := by
  obtain ⟨us, hl, hown, hq⟩ := h
  obtain ⟨i0, h0, h2⟩ := Option.map_eq_some_iff.1 infoSl15
  simp only [Prod.mk.injEq] at h2
  have hnews : ∀ j u, [x][j]? = some u → w.cell? ((⟨b, 0, none⟩ : Addr).add j) = some u := by
    intro j u hj
    match j, hj with
    | 0, hj =>
      simp at hj
      subst hj
      rw [show (⟨b, 0, none⟩ : Addr).add 0 = ⟨b, 0, none⟩ from by simp [Addr.add], Lib.cell_of_heap hb]
      rfl
    | (j + 1), hj => simp at hj
  obtain ⟨v', w', hr, hown2, hg, -, hat⟩ := run_append_own_at (P := Tryz.prog) w B 74 ty 36 i0 (.slice none 0 0) 1 24 Tryz.underlying74 h0 h2.1 h2.2.1 h2.2.2 rfl (by decide) v Ks.length us hown ⟨b, 0, none⟩ 1 1 [x] rfl hnews (by intro u hu; simp at hu; subst hu; exact bl_one hx.here) (by unfold maxLen; omega) (by omega) hB
  refine ⟨v', w', hr, ⟨us ++ [x], by rw [List.length_append, List.length_append, hl]; rfl, by rw [List.length_append]; exact hown2, fun i hi => ?_⟩, hg⟩
  have hmv : ∀ {P : World → Prop}, NewX B v.ownBlock P w → NewX B v'.ownBlock P w' := fun hp => hp.move hg.size (fun j _ hk hne => hg.block j hk hne) (hat.imp id fun h => ⟨_, h, Nat.le_refl _⟩)
  rw [List.length_append] at hi
  have hi' : i < Ks.length + 1 := by simpa using hi
  rw [getD_snoc15 us x _ i (by omega), getD_snoc15 Ks K _ i hi', hl]
  by_cases h1 : i < Ks.length
  · rw [if_pos h1, if_pos h1]; exact hmv (hq i h1)
  · rw [if_neg h1, if_neg h1]; exact hmv hx
theorem KN.lt {B : Nat} {v : Value} {Ks : List (List (List UInt8))} {w : World} (h : KN B v Ks w) : ∀ k, v.ownBlock = some k → B ≤ k ∧ k < w.heap.size := by
  obtain ⟨us, _, hown, _⟩ := h
  exact hown.lt
theorem own_form15 {w : World} {B e size n : Nat} {v : Value} {xs : List Value} (h : w.ownsRow B e size v n xs) : ∃ ao cp, v = .slice ao n cp := by
  rcases h.2 with ⟨rfl, h0⟩ | ⟨g, cap, cur, rfl, _⟩
  · exact ⟨none, 0, by rw [h0]⟩
  · exact ⟨_, _, rfl⟩
theorem KN.form {B : Nat} {v : Value} {Ks : List (List (List UInt8))} {w : World} (h : KN B v Ks w) : ∃ a cap, v = .slice a Ks.length cap := by
  obtain ⟨us, _, hown, _⟩ := h
  exact own_form15 hown

/-- append whose run is known, as one step of a region that draws. -/
theorem step_append_run15 {P : Program} {ops : Array Oper} {o : Oper} {a : Act} {w w' : World} {v : Value} {K : Act → World → Prop} {Q : Exit → Act → World → Prop} {E : Prop} (hgd : o.guard = none) (d s : Operand) (t1 t2 : TypeId)
    (ho : o.op = .call { callee := .builtin .append, args := #[d, s], argTypes := #[t1, t2] }) (u x : Value) (hd : a.eval d = u) (hs : a.eval s = x) (hrun : (Builtin.append_ #[t1, t2] o.type #[u, x]).run P w = .ok v w')
    (h : K (a.put o.dst v) w') : if Region.wanted o (yielded ops a.tmps) = true then Oper.wp P o a w K Q else E := by
  have hw : Region.wanted o (yielded ops a.tmps) = true := by simp [Region.wanted, hgd]
  rw [if_pos hw]
  unfold Oper.wp
  simp [execOp, ho, resolve, invoke, builtin, hd, hs, hrun, Result.andThen]
  exact h

/-- A profile. -/
def PV (id : Int) (kv : Value) : Value := .agg #[.int .i64 id, kv]
def profK (m : MRule) (r : Rec) : List (List (List UInt8)) := m.keys.map fun k => keysM k r
def okN (m : MRule) : Prop := ∀ k ∈ m.keys, 0 ≤ k.norm ∧ k.norm ≤ 4
theorem profK_take (m : MRule) (r : Rec) (i : Nat) (h : i < m.keys.length) : (profK m r).take (i + 1) = (profK m r).take i ++ [keysM (m.keys.getD i key0) r] := by
  unfold profK
  rw [← List.map_take, ← List.map_take, List.take_succ_eq_append_getElem h, List.map_append, List.getD_eq_getElem?_getD, List.getElem?_eq_getElem h]
  rfl
/-- What holds while a profile is built: its box p holds the number and the row v. -/
structure PS (W1 : World) (p : Nat) (id : Int) (v : Value) (kb : Nat) (kc : Array Value) (b : Bool) (Ks : List (List (List UInt8))) (w : World) : Prop where
  low : Below p W1 w
  box : w.heap[p]? = some (.cells #[.int .i64 id, v] 76 (0, 0))
  key : w.heap[kb]? = some (.cells kc 39 (0, 0))
  row : b = false → KN (p + 1) v Ks w
  own : ∀ k, v.ownBlock = some k → p + 1 ≤ k ∧ k < w.heap.size
  kne : v.ownBlock ≠ some kb
  kge : p + 1 ≤ kb
def stepT (og : Option Nat) (k : Nat) (u v : World) : Prop := if k = 6 then u.grownBy v og else Below u.heap.size u v
theorem stepT_append {og : Option Nat} {u v : World} (h : u.grownBy v og) : stepT og 6 u v := h
theorem stepT_size {og : Option Nat} {k : Nat} {u v : World} (h : stepT og k u v) : u.heap.size ≤ v.heap.size ∧ ∀ i, i < u.heap.size → some i ≠ og → v.heap[i]? = u.heap[i]? := by
  unfold stepT at h
  split at h
  · exact ⟨h.size, fun i hi hne => h.block i hi hne⟩
  · exact ⟨h.size, fun i hi _ => h.block i hi⟩
theorem PS.step {W1 : World} {p : Nat} {id : Int} {v : Value} {kb : Nat} {kc : Array Value} {b : Bool} {Ks : List (List (List UInt8))} {u w : World} (k : Nat) (h : PS W1 p id v kb kc b Ks u) (ht : stepT v.ownBlock k u w) : PS W1 p id v kb kc (b || decide (k = 6)) Ks w := by
  obtain ⟨hs, hb⟩ := stepT_size ht
  have hp : p < u.heap.size := (Array.getElem?_eq_some_iff.1 h.box).1
  have hk : kb < u.heap.size := (Array.getElem?_eq_some_iff.1 h.key).1
  refine ⟨?_, (hb p hp (fun e => by have := (h.own p e.symm).1; omega)).trans h.box, (hb kb hk (fun e => h.kne e.symm)).trans h.key, ?_, fun k hk => ⟨(h.own k hk).1, Nat.lt_of_lt_of_le (h.own k hk).2 hs⟩, h.kne, h.kge⟩
  · unfold stepT at ht
    split at ht
    · exact h.low.grown ht (by omega) (fun j hj => by have := (h.own j hj).1; omega)
    · exact h.low.trans (ht.mono (by omega))
  · intro hf
    rw [Bool.or_eq_false_iff] at hf
    unfold stepT at ht
    rw [if_neg (of_decide_eq_false hf.2)] at ht
    exact (h.row hf.1).after ht
def VP.bl15 (B : Nat) (og : Option Nat) (K : List (List UInt8)) : VP := fun u w => NewX B og (BL u K) w
def VP.sl15 (B : Nat) (og : Option Nat) (K : List (List UInt8)) : VP := fun u w => ∃ x b, u = .slice (some ⟨b, 0, none⟩) 1 1 ∧ w.heap[b]? = some (.cells #[x] 36 (0, 0)) ∧ og ≠ some b ∧ NewX B og (BL x K) w
def VP.kn15 (B : Nat) (Ks : List (List (List UInt8))) : VP := fun u w => KN B u Ks w
theorem newx_step {B : Nat} {og : Option Nat} {P : World → Prop} {k : Nat} {u w : World} (h : NewX B og P u) (ht : stepT og k u w) : NewX B og P w := by
  obtain ⟨hs, hb⟩ := stepT_size ht
  exact h.on hs fun i _ hi hne => hb i hi hne
end

section
open Go.RowKit Go.PlainAid
def fld15 (t : List UInt8) (c : UInt8) (v : List UInt8) : Fld := ⟨t, [32, 32], [(c, v)], 0⟩
def book15 (i : Int) (l : List Fld) : Rec := ⟨i, 3, 1, [101, 110, 103], l⟩
def LA15 : List Fld := [fld15 [50, 52, 53] 97 [68, 111, 103, 115, 32, 38, 32, 67, 97, 116, 115], fld15 [49, 48, 48] 97 [83, 109, 105, 116, 104], fld15 [50, 54, 52] 99 [99, 49, 50, 51, 52, 53], fld15 [50, 54, 52] 99 [91, 49, 57, 57, 56, 93]]
def LB15 : List Fld := [fld15 [49, 48, 48] 97 [83, 77, 73, 84, 72], fld15 [50, 52, 53] 97 [68, 111, 103, 115, 44, 32, 99, 97, 116, 115]]
def LC15 : List Fld := [fld15 [49, 48, 48] 97 [83, 109, 105, 116, 104], fld15 [50, 52, 53] 97 [100, 111, 103, 115, 32, 99, 97, 116, 115], fld15 [50, 54, 52] 99 [49, 57, 57, 56]]
def rA15 : Rec := book15 1 LA15
def rB15 : Rec := book15 2 LB15
def rC15 : Rec := book15 3 LC15
def lAll15 : List Rec := [rA15, rB15, rC15]
def k1_15 : MKey := ⟨[50, 52, 53], 97, 1, 1⟩
def k3_15 : MKey := ⟨[50, 52, 53], 97, 3, 1⟩
def k4_15 : MKey := ⟨[50, 54, 52], 99, 4, 1⟩
theorem ex15_right : rightM standardM = 0 := by decide +kernel
theorem ex15_k1 : keysM k1_15 rA15 = [[100, 111, 103, 115, 32, 99, 97, 116, 115]] := by decide +kernel
theorem ex15_k3 : keysM k3_15 rA15 = [[100, 111, 103, 115]] := by decide +kernel
theorem ex15_k4 : keysM k4_15 rA15 = [[49, 57, 57, 56]] := by decide +kernel
theorem ex15_s1 : scoreM standardM rA15 rB15 = 80 := by decide +kernel
theorem ex15_s2 : scoreM standardM rA15 rC15 = 100 := by decide +kernel
theorem ex15_f : findM standardM lAll15 rA15 = [3] := by decide +kernel
theorem ex15_p : pairsM standardM lAll15 = [(1, 3)] := by decide +kernel
theorem ex15_okA : okR rA15 := validR_ok _ (by decide +kernel)
theorem ex15_okB : okR rB15 := validR_ok _ (by decide +kernel)
theorem ex15_okC : okR rC15 := validR_ok _ (by decide +kernel)
theorem ex15_okL : ∀ x ∈ lAll15, okR x := by
  intro x hx
  rcases List.mem_cons.1 hx with rfl | hx
  · exact ex15_okA
  rcases List.mem_cons.1 hx with rfl | hx
  · exact ex15_okB
  rcases List.mem_cons.1 hx with rfl | hx
  · exact ex15_okC
  cases hx
theorem ex15_nd : (idsOf lAll15).Nodup := by decide +kernel
theorem ex15_okM : okM standardM := okM_of _ ex15_right
theorem ex15_okN : okN standardM := by unfold okN standardM; decide +kernel
end

section
open Go.RowKit Go.PlainAid
def setK4 (w : World) (b : Nat) (x0 x1 x2 x3 : Value) : World := (((w.setCell ⟨b, 0, none⟩ x0).setCell ⟨b, 1, none⟩ x1).setCell ⟨b, 2, none⟩ x2).setCell ⟨b, 3, none⟩ x3
theorem setK4_heap {w : World} {b : Nat} {t : TypeId} {c0 c1 c2 c3 x0 x1 x2 x3 : Value} (h : w.heap[b]? = some (.cells #[c0, c1, c2, c3] t (0, 0))) :
    (setK4 w b x0 x1 x2 x3).heap[b]? = some (.cells #[x0, x1, x2, x3] t (0, 0)) := by
  unfold setK4
  simp [World.setCell, Array.getElem?_modify, h]
theorem setK4_below {w0 w : World} {b B : Nat} (h : Below B w0 w) (hb : B ≤ b) (x0 x1 x2 x3 : Value) : Below B w0 (setK4 w b x0 x1 x2 x3) :=
  (((h.setCell (p := ⟨b, 0, none⟩) hb x0).setCell (p := ⟨b, 1, none⟩) hb x1).setCell (p := ⟨b, 2, none⟩) hb x2).setCell (p := ⟨b, 3, none⟩) hb x3
set_option maxHeartbeats 8000000 in
theorem refKey_any (t : ByteArray) (c n g : Int) (w : World) :
    Calls Tryz.prog 34 #[.string t, .int .u8 c, .int .i64 n, .int .i64 g] w fun e w' => e = .returned (.agg #[.string t, .int .u8 c, .int .i64 n, .int .i64 g]) ∧ Below w.heap.size w w' := by
  obtain ⟨W0, hW0⟩ : ∃ W0, w.alloc (.cells #[.string ⟨#[]⟩, .int .u8 0, .int .i64 0, .int .i64 0] 39) = W0 := ⟨_, rfl⟩
  have hR : W0.heap[w.heap.size]? = some (.cells #[.string ⟨#[]⟩, .int .u8 0, .int .i64 0, .int .i64 0] 39 (0, 0)) := by rw [← hW0]; exact heap_alloc_new w _
  have b0 : Below w.heap.size w W0 := by rw [← hW0]; exact (Below.refl w.heap.size w).alloc (Nat.le_refl _) _
  obtain ⟨r0, r1, r2, r3⟩ := kcells4 hR
  have s0 := Lib.frozen_of_heap hR 0
  have s1 := Lib.frozen_of_heap hR 1
  have s2 := Lib.frozen_of_heap hR 2
  have s3 := Lib.frozen_of_heap hR 3
  have HW0 := Lib.hid hW0
  have HFin := Lib.hid (setK4_heap (x0 := .string t) (x1 := .int .u8 c) (x2 := .int .i64 n) (x3 := .int .i64 g) hR)
  have HG := Lib.hid (setK4_below b0 (Nat.le_refl _) (.string t) (.int .u8 c) (.int .i64 n) (.int .i64 g))
  unfold setK4 at HFin HG
  clear hW0 hR b0
  go_enter Tryz.func34, Tryz.ntmps34
  go_upto_region 1 with fail
  rw [HW0.out]
  go_wp2
  (try simp only [Exit.inBlock, Exit.then])
  refine bodyPost_ret (results_cell_row rfl _ _ w.heap.size _ _ _ _ rfl HFin.out Tryz.underlying39 rfl (by kernel_rfl)) rfl ?_
  exact ⟨rfl, HG.out⟩
theorem cells_at {W : World} {b : Nat} {t : TypeId} {cs : Array Value} {fr : Nat × Nat} (h : W.heap[b]? = some (.cells cs t fr)) (j : Nat) (u : Value) (hj : cs[j]? = some u) : W.cell? ⟨b, j, none⟩ = some u := by
  rw [Lib.cell_of_heap h]
  exact hj
theorem heap_setn15 {w : World} (p : Addr) (x : Value) (g : Nat) (h : g ≠ p.block) : (w.setCell p x).heap[g]? = w.heap[g]? := by
  have h' : ¬ p.block = g := fun e => h e.symm
  simp [World.setCell, Array.getElem?_modify, h']
/-- The standard keys as they lie. -/
def stdC : Array Value := #[.string ⟨#[48, 50, 48]⟩, .int .u8 97, .int .i64 2, .int .i64 100, .string ⟨#[48, 50, 50]⟩, .int .u8 97, .int .i64 0, .int .i64 100, .string ⟨#[50, 52, 53]⟩, .int .u8 97, .int .i64 1, .int .i64 50, .string ⟨#[49, 48, 48]⟩, .int .u8 97, .int .i64 1, .int .i64 30, .string ⟨#[50, 54, 52]⟩, .int .u8 99, .int .i64 4, .int .i64 20, .string ⟨#[50, 54, 48]⟩, .int .u8 99, .int .i64 4, .int .i64 20]
theorem KL.std (w : World) (b : Nat) (h : w.heap[b]? = some (.cells stdC 39 (0, 0))) : KL (.slice (some ⟨b, 0, none⟩) 6 6) standardM.keys w := by
  have hlt : b < w.heap.size := (Array.getElem?_eq_some_iff.1 h).1
  refine ⟨_, 6, rfl, Nat.le_refl _, by decide, (fun g => by cases g), fun i hi => ⟨b, 0, rfl, hlt, ?_⟩⟩
  have hi6 : i < 6 := hi
  refine ⟨cells_at h _ _ ?_, cells_at h _ _ ?_, cells_at h _ _ ?_, cells_at h _ _ ?_⟩
  all_goals
    match i, hi6 with
    | 0, _ => rfl
    | 1, _ => rfl
    | 2, _ => rfl
    | 3, _ => rfl
    | 4, _ => rfl
    | 5, _ => rfl

set_option maxHeartbeats 16000000 in
set_option maxRecDepth 100000 in
theorem refStd15_any (w : World) :
    Calls Tryz.prog 14 #[] w fun e w' => ∃ v, e = .returned (MV standardM v) ∧ KL v standardM.keys w' ∧ Below w.heap.size w w' := by
  obtain ⟨Q, hQ⟩ : ∃ Q, (fun (e : Ending) (w' : World) => ∃ v, e = .returned (MV standardM v) ∧ KL v standardM.keys w' ∧ Below w.heap.size w w') = Q := ⟨_, rfl⟩
  rw [hQ]
  obtain ⟨W0, hW0⟩ : ∃ W0, w.alloc (.cells #[.slice none 0 0, .int .i64 0] 24) = W0 := ⟨_, rfl⟩
  have hR : W0.heap[w.heap.size]? = some (.cells #[.slice none 0 0, .int .i64 0] 24 (0, 0)) := by rw [← hW0]; exact heap_alloc_new w _
  have b0 : Below w.heap.size w W0 := by rw [← hW0]; exact (Below.refl w.heap.size w).alloc (Nat.le_refl _) _
  have hlt : w.heap.size < W0.heap.size := by rw [← hW0]; simp
  have HR := Lib.hid (fun (W : World) (h : Below W0.heap.size W0 W) => (h.block w.heap.size hlt).trans hR)
  have HEnd : RowKit.Hid (∀ W bw, bw = W.heap.size → Below W0.heap.size W0 W →
      (((W.setCell ⟨w.heap.size, 0, none⟩ (.slice (some ⟨bw, 0, none⟩) 6 6)).setCell ⟨w.heap.size, 1, none⟩ (.int .i64 100)).alloc (.cells stdC 39)).heap[w.heap.size]? = some (.cells #[.slice (some ⟨bw, 0, none⟩) 6 6, .int .i64 100] 24 (0, 0)) ∧
      Q (.returned (.agg #[.slice (some ⟨bw, 0, none⟩) 6 6, .int .i64 100])) (((W.setCell ⟨w.heap.size, 0, none⟩ (.slice (some ⟨bw, 0, none⟩) 6 6)).setCell ⟨w.heap.size, 1, none⟩ (.int .i64 100)).alloc (.cells stdC 39))) := by
    rintro W bw rfl hW
    have hltW : w.heap.size < W.heap.size := Nat.lt_of_lt_of_le hlt hW.size
    have h1 := HR.out W hW
    have hb := b0.trans (hW.mono b0.size)
    have hb2 := (hb.setCell (p := ⟨w.heap.size, 0, none⟩) (Nat.le_refl _) (.slice (some ⟨W.heap.size, 0, none⟩) 6 6)).setCell (p := ⟨w.heap.size, 1, none⟩) (Nat.le_refl _) (.int .i64 100)
    obtain ⟨V, hV⟩ : ∃ V, (W.setCell ⟨w.heap.size, 0, none⟩ (.slice (some ⟨W.heap.size, 0, none⟩) 6 6)).setCell ⟨w.heap.size, 1, none⟩ (.int .i64 100) = V := ⟨_, rfl⟩
    have hVs : V.heap.size = W.heap.size := by rw [← hV]; simp [World.setCell]
    have hV1 : V.heap[w.heap.size]? = some (.cells #[.slice (some ⟨W.heap.size, 0, none⟩) 6 6, .int .i64 100] 24 (0, 0)) := by
      rw [← hV]
      simp [World.setCell, Array.getElem?_modify, h1]
    rw [hV] at hb2 ⊢
    refine ⟨(Below.heap_alloc _ _ _ (by omega)).trans hV1, ?_⟩
    rw [← hQ]
    refine ⟨_, rfl, ?_, hb2.alloc (by omega) _⟩
    have := KL.std _ _ (heap_alloc_new V (.cells stdC 39))
    rw [hVs] at this
    exact this
  have HRB := Lib.hid (Below.refl W0.heap.size W0)
  have cK := Lib.hid (fun (t : ByteArray) (c n g : Int) (W : World) => refKey_any t c n g W)
  have HW0 := Lib.hid hW0
  clear hQ hW0 hR b0 hlt
  unfold stdC at HEnd
  go_enter Tryz.func14, Tryz.ntmps14
  go_upto_region 1 with fail
  rw [HW0.out]
  go_wp2_with fail
  refine (cK.out _ _ _ _ _).mono ?_
  rintro e w1 ⟨rfl, hb1⟩
  have B1 := Lib.hid (HRB.out.trans (hb1.mono (Nat.le_refl _)))
  clear hb1
  go_wp2_with fail
  refine (cK.out _ _ _ _ _).mono ?_
  rintro e w2 ⟨rfl, hb2⟩
  have B2 := Lib.hid (B1.out.trans (hb2.mono B1.out.size))
  clear hb2 B1
  go_wp2_with fail
  refine (cK.out _ _ _ _ _).mono ?_
  rintro e w3 ⟨rfl, hb3⟩
  have B3 := Lib.hid (B2.out.trans (hb3.mono B2.out.size))
  clear hb3 B2
  go_wp2_with fail
  refine (cK.out _ _ _ _ _).mono ?_
  rintro e w4 ⟨rfl, hb4⟩
  have B4 := Lib.hid (B3.out.trans (hb4.mono B3.out.size))
  clear hb4 B3
  go_wp2_with fail
  refine (cK.out _ _ _ _ _).mono ?_
  rintro e w5 ⟨rfl, hb5⟩
  have B5 := Lib.hid (B4.out.trans (hb5.mono B4.out.size))
  clear hb5 B4
  go_wp2_with fail
  refine (cK.out _ _ _ _ _).mono ?_
  rintro e w6 ⟨rfl, hb6⟩
  have B6 := Lib.hid (B5.out.trans (hb6.mono B5.out.size))
  clear hb6 B5
  obtain ⟨m0, m1⟩ := mcells2 (HR.out w6 B6.out)
  have s0 := Lib.frozen_of_heap (HR.out w6 B6.out) 0
  have s1 := Lib.frozen_of_heap (HR.out w6 B6.out) 1
  obtain ⟨hfin, hg⟩ := HEnd.out w6 _ rfl B6.out
  have HFin := Lib.hid hfin
  have HG := Lib.hid hg
  have hltw : w.heap.size < w6.heap.size := (Array.getElem?_eq_some_iff.1 (HR.out w6 B6.out)).1
  clear hfin hg HEnd
  go_wp2
  (try simp only [Exit.inBlock, Exit.then])
  refine bodyPost_ret (results_cell_row rfl _ _ w.heap.size _ _ _ _ rfl HFin.out Tryz.underlying24 rfl (by kernel_rfl)) rfl ?_
  exact HG.out
end

section
open Go.RowKit Go.PlainAid
theorem fcells4 {W : World} {b : Nat} {t : TypeId} {x0 x1 x2 x3 : Value} (h : W.heap[b]? = some (.cells #[x0, x1, x2, x3] t (0, 0))) : W.cell? ⟨b, 0, none⟩ = some x0 ∧ W.cell? ⟨b, 1, none⟩ = some x1 ∧ W.cell? ⟨b, 2, none⟩ = some x2 ∧ W.cell? ⟨b, 3, none⟩ = some x3 := by
  refine ⟨?_, ?_, ?_, ?_⟩ <;> rw [Lib.cell_of_heap h] <;> rfl
theorem QL.of15 (w : World) (b : Nat) (c : UInt8) (v : List UInt8) (hbk : w.heap[b]? = some (.cells #[.int .u8 (c.toNat : Int), .string (S v)] 70 (0, 0))) : QL (.slice (some ⟨b, 0, none⟩) 1 1) [(c, v)] w := by
  refine ⟨_, 1, rfl, Nat.le_refl _, by decide, (fun g => by cases g), fun i hi => ⟨b, 0, rfl, (Array.getElem?_eq_some_iff.1 hbk).1, ?_⟩⟩
  have hi1 : i < 1 := hi
  match i, hi1 with
  | 0, _ => exact ⟨cells_at hbk _ _ rfl, cells_at hbk _ _ rfl⟩
set_option maxHeartbeats 8000000 in
theorem lfield15_any (t v : List UInt8) (c : UInt8) (w : World) :
    Calls Tryz.prog 30 #[.string (S t), .int .u8 (c.toNat : Int), .string (S v)] w fun e w' => ∃ u, e = .returned (FV (fld15 t c v) u) ∧ QL u [(c, v)] w' ∧ Below w.heap.size w w' := by
  obtain ⟨W0, hW0⟩ : ∃ W0, w.alloc (.cells #[.string ⟨#[]⟩, .string ⟨#[]⟩, .slice none 0 0, .int .i64 0] 57) = W0 := ⟨_, rfl⟩
  have hR : W0.heap[w.heap.size]? = some (.cells #[.string ⟨#[]⟩, .string ⟨#[]⟩, .slice none 0 0, .int .i64 0] 57 (0, 0)) := by rw [← hW0]; exact heap_alloc_new w _
  have b0 : Below w.heap.size w W0 := by rw [← hW0]; exact (Below.refl w.heap.size w).alloc (Nat.le_refl _) _
  have hs0 : W0.heap.size = w.heap.size + 1 := by rw [← hW0]; simp
  have hR5 : (W0.alloc (.cells #[.int .u8 (c.toNat : Int), .string (S v)] 70)).heap[w.heap.size]? = some (.cells #[.string ⟨#[]⟩, .string ⟨#[]⟩, .slice none 0 0, .int .i64 0] 57 (0, 0)) := (Below.heap_alloc _ _ _ (by omega)).trans hR
  obtain ⟨r0, r1, r2, r3⟩ := fcells4 hR5
  have s0 := Lib.frozen_of_heap hR5 0
  have s1 := Lib.frozen_of_heap hR5 1
  have s2 := Lib.frozen_of_heap hR5 2
  have s3 := Lib.frozen_of_heap hR5 3
  have b5 := b0.alloc (by omega : w.heap.size ≤ W0.heap.size) (.cells #[.int .u8 (c.toNat : Int), .string (S v)] 70)
  have h5 := setK4_heap (x0 := .string (S t)) (x1 := .string ⟨#[32, 32]⟩) (x2 := .slice (some ⟨W0.heap.size, 0, none⟩) 1 1) (x3 := .int .i64 0) hR5
  have g5 := setK4_below b5 (Nat.le_refl _) (.string (S t)) (.string ⟨#[32, 32]⟩) (.slice (some ⟨W0.heap.size, 0, none⟩) 1 1) (.int .i64 0)
  have hq := QL.of15 (setK4 (W0.alloc (.cells #[.int .u8 (c.toNat : Int), .string (S v)] 70)) w.heap.size (.string (S t)) (.string ⟨#[32, 32]⟩) (.slice (some ⟨W0.heap.size, 0, none⟩) 1 1) (.int .i64 0)) W0.heap.size c v (by
    have hne : W0.heap.size ≠ w.heap.size := by omega
    unfold setK4
    rw [heap_setn15 _ _ _ hne, heap_setn15 _ _ _ hne, heap_setn15 _ _ _ hne, heap_setn15 _ _ _ hne]
    exact heap_alloc_new W0 _)
  unfold setK4 at hq h5 g5
  have HFin := Lib.hid h5
  have HG := Lib.hid g5
  have HQ := Lib.hid hq
  have HW0 := Lib.hid hW0
  clear hW0 hR hR5 b0 hs0 hq h5 g5 b5
  go_enter Tryz.func30, Tryz.ntmps30
  go_upto_region 1 with fail
  rw [HW0.out]
  go_wp2
  (try simp only [Exit.inBlock, Exit.then])
  refine bodyPost_ret (results_cell_row rfl _ _ w.heap.size _ _ _ _ rfl HFin.out Tryz.underlying57 rfl (by kernel_rfl)) rfl ?_
  exact ⟨_, rfl, HQ.out, HG.out⟩
end

end Go.Proofs.YtfjfpefpdlecbaaGreatDoor
