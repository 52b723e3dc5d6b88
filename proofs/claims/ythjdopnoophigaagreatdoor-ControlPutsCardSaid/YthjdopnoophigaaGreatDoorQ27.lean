/- Merged: QF13, VM13, QG13, QH13, KP14. -/
import Derived.Test.YthjdopnoophigaaGreatDoorQ26
import Derived.Test.YthjdopnoophigaaGreatDoorQ01
import Derived.Maps.OwnSet
import Derived.DeepKeys4
import Derived.MapViews
import Derived.WalkArith
import Derived.Test.YthjdopnoophigaaGreatDoorQ24
import Derived.Test.YthjdopnoophigaaGreatDoorQ04
namespace Go.Proofs.YthjdopnoophigaaGreatDoor

section
open Go.RowKit Go.PlainAid
theorem oneI_range (b : Int) (a : Au) (h : a.id < 1 ∨ 9999 < a.id) : oneI (some b) a = 2 := by unfold oneI; rw [if_pos h]
theorem oneI_twice (b : Int) (a : Au) (h : ¬ (a.id < 1 ∨ 9999 < a.id)) (h2 : a.id ≤ b) : oneI (some b) a = 7 := by
  unfold oneI
  rw [if_neg h]
  simp [h2]
theorem oneI_shape (b : Int) (a : Au) (h : ¬ (a.id < 1 ∨ 9999 < a.id)) (h2 : ¬ a.id ≤ b) : oneI (some b) a = shapeI a := by
  unfold oneI
  rw [if_neg h]
  simp [h2]
end

section
open Go.RowKit Go.Maps
/-- A value, as itself. -/
def exV (v : Value) : Option (DataW Value × List MemPlace) := some (.held v, [])
theorem ownsMap_tight {H : Type} {w : World} {P : Program} {k : TypeId} {R : Value → Option (DataW H × List MemPlace)} {b n : Nat} {D : DataW H} (h : w.ownsMap P k R b n D) : w.ownsMap P k R b (Maps.size D) D := by
  obtain ⟨es, clock, hb, F, hs, rfl⟩ := h
  refine ⟨es, clock, hb, F, ?_, rfl⟩
  simp [Maps.size, length_sorted]
theorem ownsMap_below {H : Type} {w w' : World} {P : Program} {k : TypeId} {R : Value → Option (DataW H × List MemPlace)} {b n : Nat} {D : DataW H} (h : w.ownsMap P k R b n D) (hb : w'.heap[b]? = w.heap[b]?) : w'.ownsMap P k R b n D := by
  obtain ⟨es, clock, h1, F, hs, hD⟩ := h
  exact ⟨es, clock, hb.trans h1, F, hs, hD⟩

/-- Block b is a map of m entries; at the key mk x it holds the value f x, if there is one. -/
def VM {α : Type} (kT : TypeId) (mk : α → Lit) (b : Nat) (f : α → Option Value) (m : Nat) (w : World) : Prop :=
  ∃ D : DataW Value, w.ownsMap Tryz.prog kT exV b m D ∧ Maps.size D = m ∧ ∀ x, Maps.has D (mk x) = (f x).isSome ∧ ∀ z, D.atKey (mk x) (.held z) = .held ((f x).getD z)
section
variable {α : Type} {kT : TypeId} {mk : α → Lit} {b m : Nat} {f : α → Option Value} {w : World}
theorem VM.made (kT : TypeId) (mk : α → Lit) (w : World) : VM kT mk w.heap.size (fun _ => none) 0 (w.alloc (.map #[] 0)) :=
  ⟨.map [], World.ownsMap_made w _ _ _, rfl, fun _ => ⟨rfl, fun _ => rfl⟩⟩
theorem VM.lt (h : VM kT mk b f m w) : b < w.heap.size := by
  obtain ⟨D, h, _⟩ := h
  exact h.lt
theorem VM.same {w' : World} (h : VM kT mk b f m w) (hb : w'.heap[b]? = w.heap[b]?) : VM kT mk b f m w' := by
  obtain ⟨D, h, h2⟩ := h
  exact ⟨D, ownsMap_below h hb, h2⟩
theorem VM.after {w' : World} (h : VM kT mk b f m w) (hb : Below w.heap.size w w') : VM kT mk b f m w' := h.same (hb.block b h.lt)
theorem VM.alloc (h : VM kT mk b f m w) (o : Obj) : VM kT mk b f m (w.alloc o) := by
  obtain ⟨D, h, h2⟩ := h
  exact ⟨D, h.alloc o, h2⟩
theorem VM.drew (h : VM kT mk b f m w) : VM kT mk b f m w.drew := h
theorem VM.look {t e : TypeId} (h : VM kT mk b f m w) (K : Keyed Tryz.prog kT) (ht : Tryz.prog.underlying t = some (.map kT e)) {z : Value} (hz : (zeroValue e).run Tryz.prog w = .ok z w) {key : Value} {x : α} (hkey : keyOf Tryz.prog kT key = some (mk x)) :
    (Instr.lookup t (.map (some b)) key false).run Tryz.prog w = .ok ((f x).getD z) w := by
  obtain ⟨D, h, _, hf⟩ := h
  obtain ⟨v, ps, hrun, hv⟩ := h.lookup K ht hz (zd := .held z) (zp := []) rfl hkey
  rw [(hf x).2 z] at hv
  unfold exV at hv
  have := (Prod.mk.inj (Option.some.inj hv)).1
  rw [hrun, DataW.held.inj this]
theorem VM.lookOk {t e : TypeId} (h : VM kT mk b f m w) (K : Keyed Tryz.prog kT) (ht : Tryz.prog.underlying t = some (.map kT e)) {z : Value} (hz : (zeroValue e).run Tryz.prog w = .ok z w) {key : Value} {x : α} (hkey : keyOf Tryz.prog kT key = some (mk x)) :
    (Instr.lookup t (.map (some b)) key true).run Tryz.prog w = .ok (.tuple #[(f x).getD z, .bool (f x).isSome]) w := by
  obtain ⟨D, h, _, hf⟩ := h
  obtain ⟨v, ps, hrun, hv⟩ := h.look_ok K ht hz (zd := .held z) (zp := []) rfl hkey
  rw [(hf x).2 z] at hv
  rw [(hf x).1] at hrun
  unfold exV at hv
  have := (Prod.mk.inj (Option.some.inj hv)).1
  rw [hrun, DataW.held.inj this]
theorem VM.len {t e : TypeId} (h : VM kT mk b f m w) (ht : Tryz.prog.underlying t = some (.map kT e)) (ty : TypeId) : (Builtin.len_ #[t] ty #[.map (some b)]).run Tryz.prog w = .ok (.int .i64 (m : Int)) w := by
  obtain ⟨D, h, hm, _⟩ := h
  rw [← hm]
  exact h.len ht ty
theorem VM.store [DecidableEq α] {t e : TypeId} (hinj : ∀ x y, mk x = mk y → x = y) (hk : ∀ x, WideAt.IsKeyLit (mk x)) (h : VM kT mk b f m w) (K : Keyed Tryz.prog kT) (ht : Tryz.prog.underlying t = some (.map kT e)) (hn : m < maxLen) {key : Value} {x : α} (hkey : keyOf Tryz.prog kT key = some (mk x)) (v : Value) :
    ∃ w', (Instr.mapUpdate t (.map (some b)) key v).run Tryz.prog w = .ok () w' ∧ VM kT mk b (fun y => if y = x then some v else f y) (if (f x).isSome = true then m else m + 1) w' ∧ w.grownBy w' (some b) := by
  obtain ⟨D, h, hm, hf⟩ := h
  have ht' := h.tidy K
  obtain ⟨w', hrun, h', hg⟩ := h.update K ht hn hkey (val := v) (d := .held v) (ps := []) rfl
  have hsz : Maps.size (D.put (mk x) (.held v)) = if (f x).isSome = true then m else m + 1 := by
    rw [size_put ht', (hf x).1, hm]
  refine ⟨w', hrun, ⟨_, ?_, hsz, fun y => ?_⟩, hg⟩
  · rw [← hsz]
    exact ownsMap_tight h'
  · show _ = (if y = x then some v else f y).isSome ∧ ∀ z, _ = DataW.held ((if y = x then some v else f y).getD z)
    by_cases hxy : y = x
    · subst hxy
      rw [if_pos rfl]
      exact ⟨has_put_same h.isMap (hk y) _, fun z => atKey_put_same h.isMap (hk y) _ _⟩
    · rw [if_neg hxy]
      have hne : mk y ≠ mk x := fun e => hxy (hinj _ _ e)
      exact ⟨(has_put_other hne _).trans (hf y).1, fun z => (atKey_put_other hne _ _).trans ((hf y).2 z)⟩
end
/-- m[k] = v where the walk stands at it. -/
theorem wpList_store_vm {α : Type} [DecidableEq α] {kT : TypeId} {mk : α → Lit} {b m : Nat} {f : α → Option Value} (w : World) {ops : Array Oper} {rest : List Oper} {o : Oper} {a : Act} {Q : Exit → Act → World → Prop}
    (hg : o.guard = none) (ma xa va : Operand) (t e : TypeId) (hop : o.op = Op.mapUpdate t ma xa va) (hinj : ∀ x y, mk x = mk y → x = y) (hk : ∀ x, WideAt.IsKeyLit (mk x)) (h : VM kT mk b f m w) (K : Keyed Tryz.prog kT) (ht : Tryz.prog.underlying t = some (.map kT e)) (hn : m < maxLen)
    (hm : a.eval ma = .map (some b)) (v : Value) (hv : a.eval va = v) (key : Value) (y : α) (hx : a.eval xa = key) (hkey : keyOf Tryz.prog kT key = some (mk y))
    (hK : ∀ w', VM kT mk b (fun z => if z = y then some v else f z) (if (f y).isSome = true then m else m + 1) w' → w.grownBy w' (some b) → wpList Tryz.prog ops Q rest (a.put o.dst undef) w') :
    wpList Tryz.prog ops Q (o :: rest) a w := by
  refine wpList_plain hg fun K' hK' => ?_
  obtain ⟨w', hrun, r1, r2⟩ := h.store hinj hk K ht hn hkey v
  unfold Oper.wp
  simp [execOp, hop, hm, hx, hv, hrun, Result.andThen]
  exact hK' _ _ (hK w' r1 r2)
/-- m[k] where the walk stands at it. -/
theorem wpList_look_vm {α : Type} {kT : TypeId} {mk : α → Lit} {b m : Nat} {f : α → Option Value} (w : World) {ops : Array Oper} {rest : List Oper} {o : Oper} {a : Act} {Q : Exit → Act → World → Prop}
    (hg : o.guard = none) (ma xa : Operand) (t e : TypeId) (hop : o.op = Op.lookup t ma xa false) (h : VM kT mk b f m w) (K : Keyed Tryz.prog kT) (ht : Tryz.prog.underlying t = some (.map kT e)) (z : Value) (hz : (zeroValue e).run Tryz.prog w = .ok z w)
    (hm : a.eval ma = .map (some b)) (key : Value) (y : α) (hx : a.eval xa = key) (hkey : keyOf Tryz.prog kT key = some (mk y)) (v : Value) (hv : (f y).getD z = v)
    (hK : wpList Tryz.prog ops Q rest (a.put o.dst v) w) :
    wpList Tryz.prog ops Q (o :: rest) a w := by
  refine wpList_plain hg fun K' hK' => ?_
  unfold Oper.wp
  simp [execOp, hop, hm, hx, h.look K ht hz hkey, hv, Result.andThen]
  exact hK' _ _ hK

/-! Keys: integers, names. -/
def mkI (x : Int) : Lit := .int .i64 x
theorem mkI_inj (x y : Int) (h : mkI x = mkI y) : x = y := by
  unfold mkI at h
  simpa using h
theorem mkI_key (x : Int) : WideAt.IsKeyLit (mkI x) := trivial
theorem keyed_int : Keyed Tryz.prog 3 := int_keyed Tryz.underlying3
def wfI (x : Int) : Prop := -9223372036854775808 ≤ x ∧ x ≤ 9223372036854775807
theorem wf_of (x : Int) (h : wfI x) : (Lit.int .i64 x).wf = true := WalkArith.wf_i64 h
theorem key_int (x : Int) (h : wfI x) : keyOf Tryz.prog 3 (.int .i64 x) = some (mkI x) := by
  have := keyOf_int_mk (a := x) Tryz.underlying3 (wf_of x h)
  exact this
def nmV (x : Int × List UInt8) : Value := .agg #[.int .i64 x.1, .string (S x.2)]
theorem laidOutV : laidOutB Tryz.prog = true := by kernel_rfl
theorem rowName : (153 : TypeId) < Tryz.prog.types.size := of_decide_eq_true (by kernel_rfl)
theorem name_keyAt : Tryz.prog.keyTypeAt 3 153 = true := by kernel_rfl
theorem keyed_name : Keyed Tryz.prog 153 := by
  refine Keyed.of_law (deep_law_laid laidOutV (m := 3) (by omega) rowName name_keyAt ?_)
  rw [Tryz.underlying153]
def mkN (x : Int × List UInt8) : Lit := .string (keyBytes [.int .i64 x.1, .string x.2])
theorem mkN_key (x : Int × List UInt8) : WideAt.IsKeyLit (mkN x) := trivial
theorem name_type : Tryz.prog.keyType 153 = true := by kernel_rfl
theorem name_cells : Tryz.prog.cellsOf 153 = 2 := by kernel_rfl
theorem name_size : ∃ m, Tryz.prog.types.size = m + 2 := ⟨Tryz.prog.types.size - 2, by
  have : 2 ≤ Tryz.prog.types.size := of_decide_eq_true (by kernel_rfl)
  omega⟩
theorem key_name (x : Int × List UInt8) (h : wfI x.1) (hl : x.2.length ≤ maxLen) : keyOf Tryz.prog 153 (nmV x) = some (mkN x) := by
  obtain ⟨m, hm⟩ := name_size
  have hw : (Lit.int .i64 x.1).wf = true := WalkArith.wf_i64 h
  have hc := name_cells
  have hS : (S x.2).size ≤ maxLen := by rw [S_size]; exact hl
  have hk := name_type
  have hf : (nmV x).formed Tryz.prog 153 = true := by
    unfold nmV Value.formed
    simp [Tryz.underlying153, hc]
  unfold keyOf
  rw [Tryz.underlying153]
  simp only [hk, hf, Bool.and_self, if_true]
  rw [hm]
  have hcl : (nmV x).cells.toList = [.int .i64 x.1, .string (S x.2)] := rfl
  rw [hcl]
  have e1 : Tryz.prog.keyLits (m + 2) 3 [.int .i64 x.1] = some [.int .i64 x.1] := by
    unfold Program.keyLits
    rw [Tryz.underlying3]
    simp only [hw, and_self, if_true]
  have e2 : Tryz.prog.keyLits (m + 2) 9 [.string (S x.2)] = some [.string x.2] := by
    unfold Program.keyLits
    rw [Tryz.underlying9]
    simp only [hS, if_true]
    rfl
  have e3 : Tryz.prog.keyLits (m + 2 + 1) 153 [.int .i64 x.1, .string (S x.2)] = some [.int .i64 x.1, .string x.2] := by
    unfold Program.keyLits
    rw [Tryz.underlying153]
    have h3 : Tryz.prog.cellsOf 3 = 1 := by kernel_rfl
    have h9 : Tryz.prog.cellsOf 9 = 1 := by kernel_rfl
    simp [hc, h3, h9, e1, e2]
  rw [e3]
  rfl
/-- A name that can be a key. -/
abbrev NK : Type := { x : Int × List UInt8 // wfI x.1 ∧ x.2.length ≤ maxLen }
def mkNK (x : NK) : Lit := mkN x.1
theorem key_nk (x : NK) : keyOf Tryz.prog 153 (nmV x.1) = some (mkNK x) := key_name x.1 x.2.1 x.2.2
theorem mkNK_inj (x y : NK) (h : mkNK x = mkNK y) : x = y := by
  have h1 := keyed_name.inj (key_nk x) (by rw [h]; exact key_nk y)
  unfold nmV at h1
  have h2 := congrArg Array.toList (Value.agg.inj h1)
  simp only [List.cons.injEq, Value.int.injEq, Value.string.injEq, true_and, and_true] at h2
  exact Subtype.ext (Prod.ext h2.1 (S_inj h2.2))
theorem mkNK_key (x : NK) : WideAt.IsKeyLit (mkNK x) := trivial
end

section
open Go.RowKit Go.PlainAid Go.Maps
def ownV (x : Int × Bool) : Value := .agg #[.int .i64 x.1, .bool x.2]
def ownZ : Value := .agg #[.int .i64 0, .bool false]
def fNK (f : Int × List UInt8 → Option (Int × Bool)) : NK → Option Value := fun k => (f k.1).map ownV
theorem zero_owner (w : World) : (zeroValue 148).run Tryz.prog w = .ok ownZ w := by kernel_rfl
theorem fNK_upd (s : (Int × List UInt8 → Option (Int × Bool)) × Nat) (y : NK) (v : Int × Bool) : (fun z => if z = y then some (ownV v) else fNK s.1 z) = fNK (updE s (y.1, v)).1 := by
  funext z
  unfold fNK updE
  by_cases h : z = y
  · subst h
    rw [if_pos rfl]
    simp
  · have h2 : ¬ z.1 = y.1 := fun e => h (Subtype.ext e)
    rw [if_neg h]
    simp [h2]
theorem fNK_cnt (s : (Int × List UInt8 → Option (Int × Bool)) × Nat) (y : NK) (v : Int × Bool) : (if (fNK s.1 y).isSome = true then s.2 else s.2 + 1) = (updE s (y.1, v)).2 := by
  unfold fNK updE
  simp
/-- All but one block is as it was. -/
def Bt (b : Nat) (W W' : World) : Prop := W.heap.size ≤ W'.heap.size ∧ ∀ i, i ≠ b → i < W.heap.size → W'.heap[i]? = W.heap[i]?
theorem Bt.refl (b : Nat) (W : World) : Bt b W W := ⟨Nat.le_refl _, fun _ _ _ => rfl⟩
theorem Bt.trans {b : Nat} {W1 W2 W3 : World} (h1 : Bt b W1 W2) (h2 : Bt b W2 W3) : Bt b W1 W3 :=
  ⟨Nat.le_trans h1.1 h2.1, fun i hi hl => (h2.2 i hi (Nat.lt_of_lt_of_le hl h1.1)).trans (h1.2 i hi hl)⟩
theorem Bt.below {b : Nat} {W W' : World} (h : Below W.heap.size W W') : Bt b W W' := ⟨h.size, fun i _ hl => h.block i hl⟩
theorem Bt.grown {b : Nat} {W W' : World} (h : W.grownBy W' (some b)) : Bt b W W' := ⟨h.size, fun i hi hl => h.block i hl (fun e => hi (Option.some.inj e))⟩
/-- The table of the owners of these entries (the last one first). -/
def OT (b : Nat) (R : List ((Int × List UInt8) × (Int × Bool))) (w : World) : Prop := VM 153 mkNK b (fNK (mapR R).1) (mapR R).2 w
theorem OT.after {b : Nat} {R : List ((Int × List UInt8) × (Int × Bool))} {w w' : World} (h : OT b R w) (hb : Below w.heap.size w w') : OT b R w' := VM.after h hb
theorem OT.store {b : Nat} {R : List ((Int × List UInt8) × (Int × Bool))} {w : World} (h : OT b R w) (hR : R.length ≤ 1000000) (y : NK) (v : Int × Bool) :
    ∃ w', (Instr.mapUpdate 150 (.map (some b)) (.agg #[.int .i64 y.1.1, .string (S y.1.2)]) (ownV v)).run Tryz.prog w = .ok () w' ∧ OT b ((y.1, v) :: R) w' ∧ w.grownBy w' (some b) := by
  have hle := mapR_le R
  obtain ⟨w', h1, h2, h3⟩ := VM.store mkNK_inj mkNK_key h keyed_name Tryz.underlying150 (by unfold maxLen; omega) (key_nk y) (ownV v)
  rw [fNK_upd, fNK_cnt] at h2
  exact ⟨w', h1, h2, h3⟩
/-- What a heading of a file is: a text of moderate length, of a known kind. -/
def okL (L : List Au) : Prop := ∀ a ∈ L, (1 ≤ a.kind ∧ a.kind ≤ 4) ∧ (1 ≤ a.id ∧ a.id ≤ 9999) ∧ a.see.length ≤ 1000 ∧ ∀ x ∈ hdsX a, validT x = true ∧ x.length ≤ 9000
def nkA (a : Au) (x : List UInt8) (h1 : 1 ≤ a.kind ∧ a.kind ≤ 4) (h2 : validT x = true) (h3 : x.length ≤ 9000) : NK := ⟨(a.kind, normX x), ⟨by show -9223372036854775808 ≤ a.kind; omega, by show a.kind ≤ 9223372036854775807; omega⟩, by
  show (normX x).length ≤ maxLen
  have := norm_len x h2
  unfold maxLen
  omega⟩
theorem entX_le (L : List Au) (m : Nat) (h : ∀ a ∈ L, a.see.length ≤ m) : (entX L).length ≤ L.length * (m + 1) := by
  induction L with
  | nil => exact Nat.zero_le _
  | cons a r ih =>
    have h1 := ih (fun b hb => h b (by simp [hb]))
    have h2 := h a (by simp)
    have e : (entX (a :: r)).length = (hdsX a).length + (entX r).length := by
      unfold entX
      rw [List.flatMap_cons, List.length_append]
      congr 1
      exact entA_len a
    rw [e, List.length_cons, Nat.succ_mul]
    unfold hdsX
    rw [List.length_cons]
    omega

set_option maxHeartbeats 16000000 in
set_option maxRecDepth 100000 in
theorem owners_any (v : Value) (L : List Au) (w : World) (hE : Env w) (hv : AL v L w) (hz : L.length ≤ 900) (hok : okL L) :
    Calls Tryz.prog 122 #[v] w fun e w' => ∃ b, e = .returned (.map (some b)) ∧ OT b (entX L).reverse w' ∧ Below w.heap.size w w' := by
  obtain ⟨Q, hQ⟩ : ∃ Q, (fun (e : Ending) (w' : World) => ∃ b, e = .returned (.map (some b)) ∧ OT b (entX L).reverse w' ∧ Below w.heap.size w w') = Q := ⟨_, rfl⟩
  rw [hQ]
  have HQ : RowKit.Hid (∀ b W, OT b (entX L).reverse W → Below w.heap.size w W → Q (.returned (.map (some b))) W) := by
    rw [← hQ]
    exact fun b W h1 h2 => ⟨b, rfl, h1, h2⟩
  have HV := Lib.hid hv
  have HOk := Lib.hid hok
  have hlen := entX_le L 1000 (fun a ha => (hok a ha).2.2.1)
  have HLen : RowKit.Hid (∀ k, (entX (L.take k)).length ≤ 901000) := by
    intro k
    have h1 := entX_le (L.take k) 1000 (fun a ha => (hok a (List.mem_of_mem_take ha)).2.2.1)
    have h2 : (L.take k).length ≤ 900 := by rw [List.length_take]; omega
    have h3 : (L.take k).length * (1000 + 1) ≤ 900 * (1000 + 1) := Nat.mul_le_mul_right _ h2
    omega
  obtain ⟨va, vc, rfl, hc1, hc2⟩ := hv.length
  obtain ⟨n, hn⟩ : ∃ n, L.length = n := ⟨_, rfl⟩
  have HN := Lib.hid hn
  rw [hn] at HV hc1 hz ⊢
  have HE := Lib.hid (fun (W : World) (hb : Below w.heap.size w W) => hE.after hb)
  have hmm := @run_makeMap Tryz.prog
  have HM0 : RowKit.Hid (OT w.heap.size (entX (L.take 0)).reverse (w.alloc (.map #[] 0))) := VM.made _ _ w
  have HB0 : RowKit.Hid (Below w.heap.size w (w.alloc (.map #[] 0))) := (Below.refl _ _).alloc (Nat.le_refl _) _
  clear hQ hv hn hok hlen hE
  go_enter Tryz.func122, Tryz.ntmps122
  go_wp2
  go_loopw [11] (fun s11 wr => ∃ k : Nat, s11 = .int .i64 (k : Int) ∧ k ≤ n ∧ RowKit.Hid (OT w.heap.size (entX (L.take k)).reverse wr) ∧ RowKit.Hid (Below w.heap.size w wr)) (fun s11 _ => n - (intOf s11).toNat)
  case atStart => exact ⟨0, rfl, Nat.zero_le _, HM0.out, HB0.out⟩
  case round =>
    obtain ⟨k, rfl, hk, HM, HB⟩ := hrel
    clear HM0 HB0
    by_cases hkn : k < n
    · have i1 : (0 : Int) ≤ (k : Int) := by omega
      have i2 : (k : Int) < (n : Int) := by omega
      obtain ⟨g, o, cap', s, t, he, hg, c0, c1, c2, c3, c4, hq⟩ := (HV.out.after HB.out).at k (by rw [HN.out]; exact hkn)
      obtain ⟨rfl, -, hcp⟩ := Value.slice.inj he
      obtain ⟨a, ha⟩ : ∃ a, L.getD k au0 = a := ⟨_, rfl⟩
      have hmem : a ∈ L := by
        rw [← ha, getD_at13 L k (by rw [HN.out]; exact hkn)]
        exact List.getElem_mem _
      have hst : L.take (k + 1) = L.take k ++ [a] := by
        rw [List.take_succ_eq_append_getElem (by rw [HN.out]; exact hkn), ← getD_at13 L k (by rw [HN.out]; exact hkn), ha]
      rw [ha] at c0 c1 c2 hq
      obtain ⟨as2, cs2, hs2, -, -⟩ := hq.1.length
      obtain ⟨at2, ct2, ht2, -⟩ := hq.2
      obtain ⟨Wb, hWb⟩ : ∃ W, wr.alloc (.cells #[.int .i64 a.id, .int .i64 a.kind, .string (S a.heading), s, t] 56) = W := ⟨_, rfl⟩
      have bb : Below wr.heap.size wr Wb := by rw [← hWb]; exact (Below.refl _ _).alloc (Nat.le_refl _) _
      have hRb : Wb.heap[wr.heap.size]? = some (.cells #[.int .i64 a.id, .int .i64 a.kind, .string (S a.heading), s, t] 56 (0, 0)) := by rw [← hWb]; exact heap_alloc_new wr _
      have hltb : wr.heap.size < Wb.heap.size := by rw [← hWb]; simp
      obtain ⟨bx, hbx⟩ : ∃ b, wr.heap.size = b := ⟨_, rfl⟩
      have HWr := Lib.hid hbx
      rw [hbx] at hRb hltb bb
      have bb2 : Below wr.heap.size wr Wb := by rw [hbx]; exact bb
      obtain ⟨⟨y0, y1, y2, y3, y4⟩, -⟩ := acells hRb
      have hoka := HOk.out a hmem
      have cH := Lib.hid (headings_any a s t Wb (hq.1.after bb2) (by omega))
      have HMb := Lib.hid (HM.out.after bb2)
      have HBb := Lib.hid (HB.out.trans (bb2.mono HB.out.size))
      have HWb := Lib.hid hWb
      have HSt : RowKit.Hid (entX (L.take (k + 1)) = entX (L.take k) ++ entA a) := by
        unfold RowKit.Hid
        rw [hst]
        unfold entX
        rw [List.flatMap_append, List.flatMap_cons, List.flatMap_nil, List.append_nil]
      have HOa := Lib.hid hoka
      have HKey := Lib.hid (fun (j : Nat) (hj : j < (hdsX a).length) => entA_take a j hj)
      have HEl : RowKit.Hid ((entA a).length = (hdsX a).length) := entA_len a
      have hhl : (hdsX a).length ≤ 1001 := by
        unfold hdsX
        rw [List.length_cons]
        omega
      have hltm : w.heap.size < bx := by rw [← hbx]; exact VM.lt HM.out
      have HLt : RowKit.Hid (bx < Wb.heap.size ∧ w.heap.size < bx) := ⟨hltb, hltm⟩
      subst hs2 ht2
      have HRb := Lib.hid hRb
      clear he hcp ha hq hWb bb hRb hltb hst hoka HM hltm bb2 hbx
      unfold AV at cH
      go_upto_region 5 with fail
      rw [HWb.out, HWr.out]
      clear c0 c1 c2 c3 c4
      go_wp2_with fail
      refine cH.out.mono ?_
      rintro e w6 ⟨v6, rfl, hr6, hn6, hb6⟩
      obtain ⟨a6, c6, hv6, -, -⟩ := own_form13 hr6
      have HR6 := Lib.hid hr6
      obtain ⟨m, hm⟩ : ∃ m, (hdsX a).length = m := ⟨_, rfl⟩
      have HMm := Lib.hid hm
      rw [hm] at hv6 hhl
      have HM6 := Lib.hid (HMb.out.after hb6)
      have HF6 : RowKit.Hid (w6.heap[bx]? = some (.cells #[.int .i64 a.id, .int .i64 a.kind, .string (S a.heading), .slice as2 a.see.length cs2, .slice at2 a.above.length ct2] 56 (0, 0))) := (hb6.block _ HLt.out.1).trans HRb.out
      have HW6 := Lib.hid (HBb.out.trans (hb6.mono HBb.out.size))
      subst hv6
      have HL6 : RowKit.Hid (bx < w6.heap.size) := Nat.lt_of_lt_of_le HLt.out.1 hb6.size
      clear hr6 hn6 hb6 hm cH y0 y1 y2 y3 y4
      go_wp2
      go_loopw [18] (fun s18 wi => ∃ j : Nat, s18 = .int .i64 (j : Int) ∧ j ≤ m ∧ RowKit.Hid (OT w.heap.size (entX (L.take k) ++ (entA a).take j).reverse wi) ∧ RowKit.Hid (Below w.heap.size w wi) ∧ RowKit.Hid (Bt w.heap.size w6 wi)) (fun s18 _ => m - (intOf s18).toNat)
      case atStart => exact ⟨0, rfl, Nat.zero_le _, (by rw [List.take_zero, List.append_nil]; exact HM6.out), HW6.out, Bt.refl _ _⟩
      case round =>
        obtain ⟨j, rfl, hj, HMi, HBi, HTi⟩ := hrel
        clear HM6 HW6
        by_cases hjm : j < m
        · have j1 : (0 : Int) ≤ (j : Int) := by omega
          have j2 : (j : Int) < (m : Int) := by omega
          have hRi : NR Wb.heap.size (.slice a6 m c6) (hdsX a) wr := own_kept HR6.out (fun i h1 h2 => HTi.out.2 i (by have := HLt.out; omega) h2)
          obtain ⟨g2, o2, cap2, he2, hg2, d0⟩ := hRi.bl.at13 j (by rw [HMm.out]; exact hjm)
          obtain ⟨rfl, -, hcp2⟩ := Value.slice.inj he2
          have hFi := (HTi.out.2 bx (by have := HLt.out; omega) HL6.out).trans HF6.out
          have hli : bx < wr.heap.size := Nat.lt_of_lt_of_le HL6.out HTi.out.1
          obtain ⟨⟨y0, y1, y2, y3, y4⟩, -⟩ := acells hFi
          obtain ⟨y, hy⟩ : ∃ y, (hdsX a).getD j [] = y := ⟨_, rfl⟩
          have hyo : validT y = true ∧ y.length ≤ 9000 := by
            refine HOa.out.2.2.2 y ?_
            rw [← hy, List.getD_eq_getElem?_getD, List.getElem?_eq_getElem (by rw [HMm.out]; exact hjm)]
            exact List.getElem_mem _
          have hkey := HKey.out j (by rw [HMm.out]; exact hjm)
          rw [hy] at d0 hkey
          have HKy := Lib.hid hkey
          have cN := Lib.hid (fun (W : World) (hb : Below w.heap.size w W) => pNorm12_any y hyo.1 hyo.2 W (HE.out W hb))
          have HFi := Lib.hid hFi
          obtain ⟨pj, hpj⟩ : ∃ pj, decide (j = 0) = pj := ⟨_, rfl⟩
          have p1 : ((j : Int) == 0) = pj := by rw [← hpj, Bool.eq_iff_iff, beq_iff_eq, decide_eq_true_iff]; omega
          have p2 : (j == 0) = pj := by rw [← hpj, Bool.eq_iff_iff, beq_iff_eq, decide_eq_true_iff]
          have p3 : decide ((j : Int) = 0) = pj := by rw [← hpj, Bool.eq_iff_iff, decide_eq_true_iff, decide_eq_true_iff]; omega
          have HSto : RowKit.Hid (∀ W, OT w.heap.size (entX (L.take k) ++ (entA a).take j).reverse W → ∃ w', (Instr.mapUpdate 150 (.map (some w.heap.size)) (.agg #[.int .i64 a.kind, .string (S (normX y))]) (.agg #[.int .i64 a.id, .bool pj])).run Tryz.prog W = .ok () w' ∧ OT w.heap.size (entX (L.take k) ++ (entA a).take (j + 1)).reverse w' ∧ W.grownBy w' (some w.heap.size)) := by
            intro W hW
            obtain ⟨w', h1, h2, h3⟩ := hW.store (by
              rw [List.length_reverse, List.length_append, List.length_take]
              have := HLen.out k
              omega) (nkA a y HOa.out.1 hyo.1 hyo.2) (a.id, pj)
            refine ⟨w', h1, ?_, h3⟩
            rw [HKy.out, ← List.append_assoc, List.reverse_append, hpj]
            exact h2
          have f0 := Lib.hid (Below.refl wr.heap.size wr).drew
          clear hRi he2 hcp2 hg2 hkey hy hFi hpj hyo
          generalize S (normX y) = sn at *
          generalize S y = sy at *
          go_upto_region 8 with fail
          have hbd : Below w.heap.size w wr.drew := HBi.out.drew
          go_region_law (go_simp; go_at_call 121; refine (cN.out _ ?_).mono ?_; (exact hbd); rintro e w9 ⟨rfl, hb9⟩; have hb19 : Below wr.heap.size wr w9 := f0.out.trans (hb9.mono f0.out.size); have HB9 := Lib.hid hb19; have hF9 := (hb19.block bx hli).trans HFi.out; obtain ⟨⟨z0, z1, z2, z3, z4⟩, -⟩ := acells hF9; obtain ⟨w10, hs10, hm10, hg10⟩ := HSto.out w9 (HMi.out.after hb19); have HM10 := Lib.hid hm10; have HG10 := Lib.hid hg10; clear hb9 hb19 hF9 hm10 hg10)
          all_goals
            have HBn : RowKit.Hid (Below w.heap.size w w10) := (HBi.out.trans (HB9.out.mono HBi.out.size)).grown HG10.out (HBi.out.trans (HB9.out.mono HBi.out.size)).size (fun j hj => by cases hj; exact Nat.le_refl _)
            have HTn : RowKit.Hid (Bt w.heap.size w6 w10) := (HTi.out.trans (Bt.below HB9.out)).trans (Bt.grown HG10.out)
            clear hs10 z0 z1 z2 z3 z4 y0 y1 y2 y3 y4 d0 HG10 HB9 HSto cN HBi HTi HMi f0 hbd
            go_wp2
            go_roundw
            case rel => exact ⟨j + 1, by go_num, by omega, HM10.out, HBn.out, HTn.out⟩
            case measure => simp [intOf]; omega
        · obtain rfl : j = m := by omega
          have hM := HMi.out
          rw [List.take_of_length_le (l := entA a) (by rw [HEl.out, HMm.out]; exact Nat.le_refl _), ← HSt.out] at hM
          have HM9 := Lib.hid hM
          clear hM
          go_wp2
          go_roundw
          case rel => exact ⟨k + 1, by go_num, by omega, HM9.out, HBi.out⟩
          case measure => simp [intOf]; omega
    · obtain rfl : k = n := by omega
      have hT : L.take k = L := by rw [← HN.out, List.take_length]
      have hM := HM.out
      rw [hT] at hM
      have hfin := Lib.hid (HQ.out _ _ hM HB.out)
      clear hM hT
      go_wp2
      first | exact hfin.out | (go_ret; exact hfin.out)
end

section
open Go.RowKit Go.PlainAid Go.Maps
theorem wpList_len_vm {α : Type} {kT : TypeId} {mk : α → Lit} {b m : Nat} {f : α → Option Value} (w : World) {ops : Array Oper} {rest : List Oper} {o : Oper} {a : Act} {Q : Exit → Act → World → Prop}
    (hg : o.guard = none) (x : Operand) (t e : TypeId) (hop : o.op = Op.call { callee := Callee.builtin Builtin.len, args := #[x], argTypes := #[t] }) (ht : Tryz.prog.underlying t = some (.map kT e))
    (h : VM kT mk b f m w) (hm : a.eval x = .map (some b)) (hK : wpList Tryz.prog ops Q rest (a.put o.dst (.int .i64 (m : Int))) w) : wpList Tryz.prog ops Q (o :: rest) a w := by
  refine wpList_plain hg fun K' hK' => ?_
  unfold Oper.wp
  simp [execOp, hop, resolve, invoke, builtin, hm, h.len ht o.type, Result.andThen]
  exact hK' _ _ hK
theorem wpList_lookOk_vm {α : Type} {kT : TypeId} {mk : α → Lit} {b m : Nat} {f : α → Option Value} (w : World) {ops : Array Oper} {rest : List Oper} {o : Oper} {a : Act} {Q : Exit → Act → World → Prop}
    (hg : o.guard = none) (ma xa : Operand) (t e : TypeId) (hop : o.op = Op.lookup t ma xa true) (h : VM kT mk b f m w) (K : Keyed Tryz.prog kT) (ht : Tryz.prog.underlying t = some (.map kT e)) (z : Value) (hz : (zeroValue e).run Tryz.prog w = .ok z w)
    (hm : a.eval ma = .map (some b)) (key : Value) (y : α) (hx : a.eval xa = key) (hkey : keyOf Tryz.prog kT key = some (mk y)) (v : Value) (c : Bool) (hv : (f y).getD z = v) (hc : (f y).isSome = c)
    (hK : wpList Tryz.prog ops Q rest (a.put o.dst (.tuple #[v, .bool c])) w) :
    wpList Tryz.prog ops Q (o :: rest) a w := by
  refine wpList_plain hg fun K' hK' => ?_
  unfold Oper.wp
  simp [execOp, hop, hm, hx, h.lookOk K ht hz hkey, hv, hc, Result.andThen]
  exact hK' _ _ hK
theorem ok_of (L : List Au) (hb : bnd L) (h : onesI none L = 0) : okL L := by
  obtain ⟨_, h2, _⟩ := ones_out L none h
  intro a ha
  obtain ⟨h3, h4⟩ := h2 a ha
  have hk : ¬ (a.kind < 1 ∨ 4 < a.kind) := by
    intro g
    rw [shapeI_kind a g] at h3
    cases h3
  refine ⟨by omega, h4, Nat.le_trans (hb.2 a ha).1 (by decide), fun x hx => ⟨?_, Nat.le_trans ((hb.2 a ha).2.2 x hx) (by decide)⟩⟩
  unfold shapeI at h3
  rw [if_neg hk] at h3
  split at h3
  · rename_i h5
    exact absurd h3 h5
  · rename_i h5
    have := firstI_all _ (Decidable.of_not_not h5) _ (List.mem_map.2 ⟨x, hx, rfl⟩)
    unfold hdE at this
    split at this
    · cases this
    · rename_i h6
      cases hv : validT x with
      | true => rfl
      | false => exact absurd (.inl hv) h6

set_option maxHeartbeats 16000000 in
set_option maxRecDepth 100000 in
theorem find_any (v : Value) (L : List Au) (kd : Int) (h : List UInt8) (w : World) (hE : Env w) (hv : AL v L w) (hz : L.length ≤ 900) (hok : okL L) (hnd : (keysX L).Nodup) (hw : wfI kd) (hvt : validT h = true) (hl : h.length ≤ 9000) :
    Calls Tryz.prog 90 #[v, .int .i64 kd, .string (S h)] w fun e w' => e = .returned (.tuple #[.int .i64 (findA L kd h).1, .bool (findA L kd h).2.1, .bool (findA L kd h).2.2]) ∧ Below w.heap.size w w' := by
  have cN := Lib.hid (pNorm12_any h hvt hl w hE)
  have cO := Lib.hid (fun (W : World) (hb : Below w.heap.size w W) => owners_any v L W (hE.after hb) (hv.after hb) hz hok)
  obtain ⟨va, vc, rfl, hc1, hc2⟩ := hv.length
  have hnl := norm_len h hvt
  have htab := find_tab kd (normX h) L hnd
  obtain ⟨z, hz0⟩ : ∃ z, normX h = z := ⟨_, rfl⟩
  obtain ⟨r1, r2, r3, hr⟩ : ∃ r1 r2 r3, findA L kd h = (r1, r2, r3) := ⟨_, _, _, rfl⟩
  rw [hr]
  unfold findA at hr
  rw [hz0] at cN hr hnl htab
  generalize L.length = n at *
  by_cases he : z = []
  · subst he
    rw [if_pos rfl] at hr
    obtain ⟨rfl, h2⟩ := Prod.mk.inj hr
    obtain ⟨rfl, rfl⟩ := Prod.mk.inj h2
    have e0 : S [] = (⟨#[]⟩ : ByteArray) := rfl
    rw [e0] at cN
    obtain ⟨sn, hsn2⟩ : ∃ s, (⟨#[]⟩ : ByteArray) = s := ⟨_, rfl⟩
    have hn1 : sn.toList.isEmpty = true := by rw [← hsn2, ByteArray.toList_eq]; rfl
    have hn2 : sn.toList = [] := by rw [← hsn2, ByteArray.toList_eq]
    rw [hsn2] at cN
    clear hr h2 e0 hsn2 htab hz0 hnl cO hv hE
    generalize S h = sh at *
    go_enter Tryz.func90, Tryz.ntmps90
    go_wp2_with fail
    refine cN.out.mono ?_
    rintro e w1 ⟨rfl, hb1⟩
    go_wp2
    (try simp only [Exit.inBlock, Exit.then])
    refine bodyPost_ret (results_tmp3 rfl _ _ _) rfl ?_
    exact ⟨rfl, hb1⟩
  · rw [if_neg he] at hr
    rw [hr] at htab
    obtain ⟨zn1, zn2⟩ := S_facts z he
    let y : NK := ⟨(kd, z), hw, by show z.length ≤ maxLen; unfold maxLen; omega⟩
    have HY : RowKit.Hid (∃ y : NK, y.1 = (kd, z)) := ⟨y, rfl⟩
    clear_value y
    obtain ⟨y, hy⟩ := HY.out
    have HKy : RowKit.Hid (keyOf Tryz.prog 153 (.agg #[.int .i64 kd, .string (S z)]) = some (mkNK y)) := by
      have := key_nk y
      rw [hy] at this
      exact this
    have HF : RowKit.Hid ((fNK (mapR (entX L).reverse).1 y).getD ownZ = .agg #[.int .i64 r1, .bool r2] ∧ (fNK (mapR (entX L).reverse).1 y).isSome = r3) := by
      unfold RowKit.Hid fNK
      rw [hy]
      cases e : (mapR (entX L).reverse).1 (kd, z) with
      | none =>
        rw [e] at htab
        obtain ⟨rfl, h2⟩ := Prod.mk.inj htab
        obtain ⟨rfl, rfl⟩ := Prod.mk.inj h2
        exact ⟨rfl, rfl⟩
      | some x =>
        rw [e] at htab
        obtain ⟨rfl, h2⟩ := Prod.mk.inj htab
        obtain ⟨rfl, rfl⟩ := Prod.mk.inj h2
        exact ⟨rfl, rfl⟩
    clear hr htab hz0 hnl hv hE he hy HY
    generalize S h = sh at *
    generalize S z = sz at *
    go_enter Tryz.func90, Tryz.ntmps90
    go_wp2_with fail
    refine cN.out.mono ?_
    rintro e w1 ⟨rfl, hb1⟩
    have HB1 := Lib.hid hb1
    have cO1 := Lib.hid (cO.out w1 hb1)
    clear hb1
    go_wp2_with fail
    refine cO1.out.mono ?_
    rintro e w2 ⟨b, rfl, hm2, hb2⟩
    have HB2 := Lib.hid (HB1.out.trans (hb2.mono HB1.out.size))
    have HM2 : RowKit.Hid (VM 153 mkNK b (fNK (mapR (entX L).reverse).1) (mapR (entX L).reverse).2 w2) := hm2
    clear hm2 hb2
    go_upto_region 5 with (at_lookup; refine wpList_lookOk_vm _ rfl _ _ 150 148 rfl HM2.out keyed_name Tryz.underlying150 ownZ (zero_owner _) rfl _ y rfl HKy.out _ _ HF.out.1 HF.out.2 ?_)
    obtain ⟨W3, hW3⟩ : ∃ W, w2.alloc (.cells #[.int .i64 r1, .bool r2] 148) = W := ⟨_, rfl⟩
    have k0 : W3.cell? ⟨w2.heap.size, 0, none⟩ = some (.int .i64 r1) := by rw [← hW3]; simp
    have k1 : W3.cell? ⟨w2.heap.size, 1, none⟩ = some (.bool r2) := by rw [← hW3]; simp
    have b3 : Below w.heap.size w W3 := by rw [← hW3]; exact HB2.out.alloc HB2.out.size _
    rw [hW3]
    clear hW3 HM2
    go_region
    go_wp2
    (try simp only [Exit.inBlock, Exit.then])
    refine bodyPost_ret (results_tmp3 rfl _ _ _) rfl ?_
    exact ⟨rfl, b3.drew⟩
end

section
open Go.RowKit Go.PlainAid
theorem pFind14 (v : Value) (L : List Au) (kd : Int) (h : List UInt8) (w : World) (hE : Env w) (hv : AL v L w) (hb : bnd L) (hr : rightA L = 0) (hh : validT h = true) (hl : h.length ≤ 1000) (hw : -9223372036854775808 ≤ kd ∧ kd ≤ 9223372036854775807) :
    Calls Tryz.prog 90 #[v, .int .i64 kd, .string (S h)] w fun e w' => e = .returned (.tuple #[.int .i64 (findA L kd h).1, .bool (findA L kd h).2.1, .bool (findA L kd h).2.2]) ∧ Below w.heap.size w w' :=
  find_any v L kd h w hE hv (by have := hb.1; omega) (ok_of L hb (right_out L hr).2.1) (right_out L hr).2.2.1 hw hh (by omega)
set_option maxHeartbeats 16000000 in
set_option maxRecDepth 100000 in
theorem linked_any (la : Value) (L : List Au) (f : Fld) (v : Value) (W00 : World) (hE : Env W00) (hA : AL la L W00) (hbn : bnd L) (hr : rightA L = 0) (hq : QL v f.subs W00) (hok : okF f)
    (hh : looseX f = true → validT (headX f) = true ∧ (headX f).length ≤ 1000) :
    Calls Tryz.prog 62 #[la, FV f v] W00 fun e W' => ∃ u', e = .returned (FV (linkX L f) u') ∧ Res14 W00 v f (linkX L f) u' W' ∧ Below W00.heap.size W00 W' := by
  obtain ⟨Q, hQ⟩ : ∃ Q, (fun (e : Ending) (W' : World) => ∃ u', e = .returned (FV (linkX L f) u') ∧ Res14 W00 v f (linkX L f) u' W' ∧ Below W00.heap.size W00 W') = Q := ⟨_, rfl⟩
  rw [hQ]
  obtain ⟨W0, hW0⟩ : ∃ W0, (W00.alloc (.cells #[.string (S f.tag), .string (S f.ind), v, .int .i64 f.auth] 24)).alloc (.cells #[.string ⟨#[]⟩, .string ⟨#[]⟩, .slice none 0 0, .int .i64 0] 24) = W0 := ⟨_, rfl⟩
  have b0 : Below W00.heap.size W00 W0 := by rw [← hW0]; exact ((Below.refl W00.heap.size W00).alloc (Nat.le_refl _) _).alloc (by simp) _
  have hsz0 : W0.heap.size = W00.heap.size + 2 := by rw [← hW0]; simp
  have hF : W0.heap[W00.heap.size]? = some (.cells #[.string (S f.tag), .string (S f.ind), v, .int .i64 f.auth] 24 (0, 0)) := by
    rw [← hW0]
    exact (Below.heap_alloc _ _ _ (by simp)).trans (heap_alloc_new W00 _)
  have hR : W0.heap[W00.heap.size + 1]? = some (.cells #[.string ⟨#[]⟩, .string ⟨#[]⟩, .slice none 0 0, .int .i64 0] 24 (0, 0)) := by
    rw [← hW0]
    have := heap_alloc_new (W00.alloc (.cells #[.string (S f.tag), .string (S f.ind), v, .int .i64 f.auth] 24)) (.cells #[.string ⟨#[]⟩, .string ⟨#[]⟩, .slice none 0 0, .int .i64 0] 24)
    simpa using this
  have HFx0 := Lib.hid (fun (W : World) (h : Below W0.heap.size W0 W) => (h.block W00.heap.size (by omega)).trans hF)
  have HR0 := Lib.hid (fun (W : World) (h : Below W0.heap.size W0 W) => (h.block (W00.heap.size + 1) (by omega)).trans hR)
  have HBel := Lib.hid (fun (W : World) (h : Below W0.heap.size W0 W) => b0.trans (h.mono b0.size))
  obtain ⟨⟨p0, p1, p2, p3⟩, q0, q1, q2, q3⟩ := fcells4 hF
  have hQe : ∀ x W1, linkX L f = { f with auth := x } → W1.heap[W00.heap.size + 1]? = some (.cells #[.string ⟨#[]⟩, .string ⟨#[]⟩, .slice none 0 0, .int .i64 0] 24 (0, 0)) → Below W00.heap.size W00 W1 →
      (setF4 W1 (W00.heap.size + 1) (.string (S f.tag)) (.string (S f.ind)) v (.int .i64 x)).heap[W00.heap.size + 1]? = some (.cells #[.string (S f.tag), .string (S f.ind), v, .int .i64 x] 24 (0, 0)) ∧
      Q (.returned (.agg #[.string (S f.tag), .string (S f.ind), v, .int .i64 x])) (setF4 W1 (W00.heap.size + 1) (.string (S f.tag)) (.string (S f.ind)) v (.int .i64 x)) := by
    intro x W1 hx hR1 hb1
    obtain ⟨h1, h3⟩ := auth_end (f := f) (v := v) x hR1 hb1
    refine ⟨h1, ?_⟩
    rw [← hQ]
    exact ⟨v, by rw [hx]; rfl, .inl ⟨rfl, by rw [hx]⟩, h3⟩
  have HQ := Lib.hid hQe
  have cL := Lib.hid (loose_any f v W0 (hE.after b0).std (hq.after b0))
  have cKk := Lib.hid (fun (W : World) (h : Below W00.heap.size W00 W) => pKind_any f.tag W (hE.after h).std)
  have cHh := Lib.hid (fun (W : World) (h : Below W00.heap.size W00 W) => pHeading_any f v W (hE.after h).std (hq.after h) hok)
  have cFf := Lib.hid (fun (hl : looseX f = true) (W : World) (h : Below W00.heap.size W00 W) => pFind14 la L (kindX f.tag) (headX f) W (hE.after h) (hA.after h) hbn hr (hh hl).1 (hh hl).2 (by have := kindX_range f.tag; omega))
  have HW0 := Lib.hid hW0
  have HX0 : RowKit.Hid (looseX f = false → ∀ x, x = f.auth → linkX L f = { f with auth := x }) := by
    rintro h x rfl
    unfold linkX
    rw [if_neg (by rw [h]; decide)]
  have HX1 : RowKit.Hid (looseX f = true → (findA L (kindX f.tag) (headX f)).2.2 = false → ∀ x, x = f.auth → linkX L f = { f with auth := x }) := by
    rintro h h2 x rfl
    unfold linkX
    rw [if_pos h, if_neg (by rw [h2]; decide)]
  have HX2 : RowKit.Hid (looseX f = true → (findA L (kindX f.tag) (headX f)).2.2 = true → linkX L f = { f with auth := (findA L (kindX f.tag) (headX f)).1 }) := by
    intro h h2
    unfold linkX
    rw [if_pos h, if_pos h2]
  have HA0 : RowKit.Hid (looseX f = true → f.auth = 0) := by
    intro h
    unfold looseX at h
    rw [Bool.and_eq_true, decide_eq_true_iff] at h
    exact h.1
  obtain ⟨va, vc, hla, hm1, hm2⟩ := hA.length
  obtain ⟨au, cp, hv, -, -⟩ := hq.length
  unfold FV at *
  subst hla hv
  clear hQ hW0 hF hR b0 hq hE hA hok hh hQe
  generalize f.subs.length = n at *
  generalize L.length = m at *
  obtain ⟨⟨id, pf, ok⟩, hfa⟩ : ∃ z, findA L (kindX f.tag) (headX f) = z := ⟨_, rfl⟩
  rw [hfa] at cFf HX1 HX2
  generalize kindX f.tag = kd at *
  generalize hlb : looseX f = lb at *
  obtain ⟨LX, hLX⟩ : ∃ LX, linkX L f = LX := ⟨_, rfl⟩
  rw [hLX] at HX0 HX1 HX2 HQ
  clear hfa hLX hlb
  generalize S (headX f) = hx at *
  go_enter Tryz.func62, Tryz.ntmps62
  go_upto_region 1 with fail
  rw [HW0.out]
  clear HW0
  go_wp2_with fail
  refine cL.out.mono ?_
  rintro e w1 ⟨rfl, hb1⟩
  clear cL p0 p1 p2 p3 q0 q1 q2 q3
  have HFx := Lib.hid (fun (W : World) (h : Below w1.heap.size w1 W) => HFx0.out W (hb1.trans (h.mono hb1.size)))
  have HRx := Lib.hid (fun (W : World) (h : Below w1.heap.size w1 W) => HR0.out W (hb1.trans (h.mono hb1.size)))
  have HBx := Lib.hid (fun (W : World) (h : Below w1.heap.size w1 W) => HBel.out W (hb1.trans (h.mono hb1.size)))
  clear HFx0 HR0 HBel hb1
  cases lb
  · obtain ⟨⟨p0, p1, p2, p3⟩, -⟩ := fcells4 (HFx.out w1 (Below.refl _ _))
    obtain ⟨⟨r0, r1, r2, r3⟩, s0, s1, s2, s3⟩ := fcells4 (HRx.out w1 (Below.refl _ _))
    obtain ⟨hfin, hg⟩ := HQ.out f.auth w1 (HX0.out rfl _ rfl) (HRx.out w1 (Below.refl _ _)) (HBx.out w1 (Below.refl _ _))
    unfold setF4 at hfin hg
    have HFin := Lib.hid hfin
    have HG := Lib.hid hg
    clear hfin hg HQ HX0 HX1 HX2 HA0 cKk cHh cFf HFx HRx HBx
    generalize S f.tag = t0 at *
    generalize S f.ind = t1 at *
    generalize f.auth = t3 at *
    go_wp2
    (try simp only [Exit.inBlock, Exit.then])
    refine bodyPost_ret (results_cell_row rfl _ _ (W00.heap.size + 1) _ _ _ _ rfl HFin.out Tryz.underlying24 rfl (by kernel_rfl)) rfl ?_
    exact HG.out
  · have ha0 := HA0.out rfl
    have cK := Lib.hid (fun (W : World) (h : Below w1.heap.size w1 W) => cKk.out W (HBx.out W h))
    have cH := Lib.hid (fun (W : World) (h : Below w1.heap.size w1 W) => cHh.out W (HBx.out W h))
    have cF := Lib.hid (fun (W : World) (h : Below w1.heap.size w1 W) => cFf.out (by simp) W (HBx.out W h))
    have HY1 := Lib.hid (fun h => HX1.out (by simp) h 0 ha0.symm)
    have HY2 := Lib.hid (HX2.out (by simp))
    try dsimp only at cF
    rw [ha0] at HFx cH
    clear HX0 HX1 HX2 HA0 ha0 cKk cHh cFf
    generalize S f.tag = t0 at *
    generalize S f.ind = t1 at *
    go_upto_region 3 with fail
    go_cut [5, 6, 7] from 12 to 22 (fun s5 s6 s7 wx => s5 = .int .i64 id ∧ s6 = .bool pf ∧ s7 = .bool ok ∧ RowKit.Hid (Below w1.heap.size w1 wx))
    case first =>
      apply wp_region_inv (V := [.eq (.slice va m vc), .eq (.pointer (some ⟨W00.heap.size, 0, none⟩)), .eq (.string t0), .eq (.int .i64 kd), .eq (.agg #[.string t0, .string t1, .slice au n cp, .int .i64 0]), .eq (.string hx), .eq (.tuple #[.int .i64 id, .bool pf, .bool ok]), .eq (.tuple #[.int .i64 id, .bool pf, .bool ok]), .eq (.int .i64 id), .eq (.bool pf), .eq (.bool ok), .eq (.int .i64 id), .eq (.bool pf), .eq (.bool ok)])
      case hm => kernel_rfl
      case hd => kernel_rfl
      case hb => kernel_rfl
      case hA =>
        intro vs
        simp only [puts, Act.put, List.setIfInBounds_toArray, List.set_cons_zero, List.set_cons_succ]
        exact rfl
      case hob =>
        refine Obs.cons _ _ _ _ _ _ ?o0 (Obs.cons _ _ _ _ _ _ ?o1 (Obs.cons _ _ _ _ _ _ ?o2 (Obs.cons _ _ _ _ _ _ ?o3 (Obs.cons _ _ _ _ _ _ ?o4 (Obs.cons _ _ _ _ _ _ ?o5 (Obs.cons _ _ _ _ _ _ ?o6 (Obs.cons _ _ _ _ _ _ ?o7 (Obs.cons _ _ _ _ _ _ ?o8 (Obs.cons _ _ _ _ _ _ ?o9 (Obs.cons _ _ _ _ _ _ ?o10 (Obs.cons _ _ _ _ _ _ ?o11 (Obs.cons _ _ _ _ _ _ ?o12 (Obs.cons _ _ _ _ _ _ ?o13 (Obs.nil _ _ _ _ _ _))))))))))))))
        case o0 =>
          intro vs W hw hd K hK
          go_simp
          exact hK.out _ _ rfl (Below.refl _ _)
        case o1 =>
          intro vs W hw hd K hK
          go_simp
          exact hK.out _ _ rfl (Below.refl _ _)
        case o2 =>
          intro vs W hw hd K hK
          have h1 : vs 1 = .pointer (some ⟨W00.heap.size, 0, none⟩) := hd 1 (by kernel_rfl)
          obtain ⟨⟨p0, p1, p2, p3⟩, -⟩ := fcells4 (HFx.out W hw)
          simp only [Nat.reduceAdd, h1] at hK ⊢
          go_simp
          exact hK.out _ _ rfl (Below.refl _ _)
        case o3 =>
          intro vs W hw hd K hK
          have h2 : vs 2 = .string t0 := hd 2 (by kernel_rfl)
          simp only [Nat.reduceAdd, h2] at hK ⊢
          go_simp
          refine (cK.out W hw).mono ?_
          rintro e W' ⟨rfl, hb'⟩
          exact hK.out _ _ rfl hb'
        case o4 =>
          intro vs W hw hd K hK
          obtain ⟨⟨p0, p1, p2, p3⟩, -⟩ := fcells4 (HFx.out W hw)
          go_simp
          exact hK.out _ _ rfl (Below.refl _ _)
        case o5 =>
          intro vs W hw hd K hK
          have h4 : vs 4 = .agg #[.string t0, .string t1, .slice au n cp, .int .i64 0] := hd 4 (by kernel_rfl)
          simp only [Nat.reduceAdd, h4] at hK ⊢
          go_simp
          refine (cH.out W hw).mono ?_
          rintro e W' ⟨rfl, hb'⟩
          exact hK.out _ _ rfl hb'
        case o6 =>
          intro vs W hw hd K hK
          have h0 : vs 0 = .slice va m vc := hd 0 (by kernel_rfl)
          have h3 : vs 3 = .int .i64 kd := hd 3 (by kernel_rfl)
          have h5 : vs 5 = .string hx := hd 5 (by kernel_rfl)
          simp only [Nat.reduceAdd, h0, h3, h5] at hK ⊢
          go_simp
          refine (cF.out W hw).mono ?_
          rintro e W' ⟨rfl, hb'⟩
          exact hK.out _ _ rfl hb'
        case o7 =>
          intro vs W hw hd K hK
          have h6 : vs 6 = .tuple #[.int .i64 id, .bool pf, .bool ok] := hd 6 (by kernel_rfl)
          simp only [Nat.reduceAdd, h6] at hK ⊢
          go_simp
          exact hK.out _ _ rfl (Below.refl _ _)
        case o8 =>
          intro vs W hw hd K hK
          have h7 : vs 7 = .tuple #[.int .i64 id, .bool pf, .bool ok] := hd 7 (by kernel_rfl)
          simp only [Nat.reduceAdd, h7] at hK ⊢
          go_simp
          exact hK.out _ _ rfl (Below.refl _ _)
        case o9 =>
          intro vs W hw hd K hK
          have h7 : vs 7 = .tuple #[.int .i64 id, .bool pf, .bool ok] := hd 7 (by kernel_rfl)
          simp only [Nat.reduceAdd, h7] at hK ⊢
          go_simp
          exact hK.out _ _ rfl (Below.refl _ _)
        case o10 =>
          intro vs W hw hd K hK
          have h7 : vs 7 = .tuple #[.int .i64 id, .bool pf, .bool ok] := hd 7 (by kernel_rfl)
          simp only [Nat.reduceAdd, h7] at hK ⊢
          go_simp
          exact hK.out _ _ rfl (Below.refl _ _)
        case o11 =>
          intro vs W hw hd K hK
          have h8 : vs 8 = .int .i64 id := hd 8 (by kernel_rfl)
          simp only [Nat.reduceAdd, h8] at hK ⊢
          go_simp
          exact hK.out _ _ rfl (Below.refl _ _)
        case o12 =>
          intro vs W hw hd K hK
          have h9 : vs 9 = .bool pf := hd 9 (by kernel_rfl)
          simp only [Nat.reduceAdd, h9] at hK ⊢
          go_simp
          exact hK.out _ _ rfl (Below.refl _ _)
        case o13 =>
          intro vs W hw hd K hK
          have h10 : vs 10 = .bool ok := hd 10 (by kernel_rfl)
          simp only [Nat.reduceAdd, h10] at hK ⊢
          go_simp
          exact hK.out _ _ rfl (Below.refl _ _)
      case hfin =>
        intro vs W hw hd
        have h11 : vs 11 = .int .i64 id := hd 11 (by decide)
        have h12 : vs 12 = .bool pf := hd 12 (by decide)
        have h13 : vs 13 = .bool ok := hd 13 (by decide)
        simp only [Nat.reduceAdd, h11, h12, h13]
        go_wp2_with fail
        go_meet
        exact ⟨rfl, rfl, rfl, hw⟩
    case rest =>
      obtain ⟨rfl, rfl, rfl, HW⟩ := hcut
      have hFw := HFx.out _ HW.out
      have hRw := HRx.out _ HW.out
      obtain ⟨⟨p0, p1, p2, p3⟩, q0, q1, q2, q3⟩ := fcells4 hFw
      obtain ⟨⟨r0, r1, r2, r3⟩, s0, s1, s2, s3⟩ := fcells4 hRw
      cases ok
      · obtain ⟨hfin, hg⟩ := HQ.out 0 _ (HY1.out (by simp)) hRw (HBx.out _ HW.out)
        unfold setF4 at hfin hg
        have HFin := Lib.hid hfin
        have HG := Lib.hid hg
        clear hfin hg HQ HY1 HY2 cK cH cF HFx HRx HBx hFw hRw HW
        go_wp2
        (try simp only [Exit.inBlock, Exit.then])
        refine bodyPost_ret (results_cell_row rfl _ _ (W00.heap.size + 1) _ _ _ _ rfl HFin.out Tryz.underlying24 rfl (by kernel_rfl)) rfl ?_
        exact HG.out
      · obtain ⟨hfin, hg⟩ := HQ.out id _ (HY2.out (by simp)) ((heap_setn _ ⟨W00.heap.size, 3, none⟩ (.int .i64 id) _ (by simp)).trans hRw) ((HBx.out _ HW.out).setCell (p := ⟨W00.heap.size, 3, none⟩) (Nat.le_refl _) _)
        unfold setF4 at hfin hg
        have HFin := Lib.hid hfin
        have HG := Lib.hid hg
        clear hfin hg HQ HY1 HY2 cK cH cF HFx HRx HBx hFw hRw HW
        go_wp2
        (try simp only [Exit.inBlock, Exit.then])
        refine bodyPost_ret (results_cell_row rfl _ _ (W00.heap.size + 1) _ _ _ _ rfl HFin.out Tryz.underlying24 rfl (by kernel_rfl)) rfl ?_
        exact HG.out
end

end Go.Proofs.YthjdopnoophigaaGreatDoor
