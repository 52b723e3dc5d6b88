/- A map from keys to bools that the call itself has made (BM): which keys it holds as true; looked up, stored into. -/
import Derived.Test.YtjfdolmcecgdgaaDoorByS
import Derived.Maps.OwnOps
import Derived.Maps.Views
namespace Go.Proofs.YtjfdolmcecgdgaaDoor
open Go.RowKit Go.Maps

theorem plainElem_bool_inv {H : Type} {P : Program} {e : TypeId} (he : P.underlying e = some .bool) {v : Value} {z : DataW H × List MemPlace} (h : plainElem P e v = some z) : ∃ x, v = .bool x ∧ z = (.lit (.bool x), []) := by
  unfold plainElem at h
  rw [he] at h
  cases v <;> simp at h
  exact ⟨_, rfl, h.symm⟩
theorem lookup_bool {H : Type} {P : Program} {k t e : TypeId} {w : World} {b n : Nat} {D : DataW H} (h : w.ownsMap P k (plainElem P e) b n D) (K : Keyed P k) (ht : P.underlying t = some (.map k e)) (he : P.underlying e = some .bool) (hz : (zeroValue e).run P w = .ok (.bool false) w)
    {key : Value} {kl : Lit} (hkey : keyOf P k key = some kl) : ∃ c, (Instr.lookup t (.map (some b)) key false).run P w = .ok (.bool c) w ∧ D.atKey kl (.lit (.bool false)) = .lit (.bool c) := by
  obtain ⟨v, ps, hrun, hv⟩ := h.lookup K ht hz (plainElem_bool he false) hkey
  obtain ⟨c, rfl, hc⟩ := plainElem_bool_inv he hv
  simp only [Prod.mk.injEq] at hc
  exact ⟨c, hrun, hc.1⟩

/-- Block b is a map of at most n entries; of the keys mk x those with f x lead to true. -/
def BM {α : Type} (k : TypeId) (mk : α → Lit) (b n : Nat) (f : α → Bool) (w : World) : Prop :=
  ∃ D : DataW Unit, w.ownsMap Tryd.prog k (plainElem Tryd.prog 4) b n D ∧ IsMap D ∧ ∀ x, D.atKey (mk x) (.lit (.bool false)) = .lit (.bool (f x))
theorem zero_bool (w : World) : (zeroValue 4).run Tryd.prog w = .ok (.bool false) w := by kernel_rfl
section
variable {α : Type} {k : TypeId} {mk : α → Lit} {b n : Nat} {f : α → Bool} {w : World}
theorem BM.made (k : TypeId) (mk : α → Lit) (w : World) : BM k mk w.heap.size 0 (fun _ => false) (w.alloc (.map #[] 0)) :=
  ⟨.map [], World.ownsMap_made w _ _ _, isMap_empty, fun _ => rfl⟩
theorem BM.lt (h : BM k mk b n f w) : b < w.heap.size := by
  obtain ⟨D, h, _⟩ := h
  exact h.lt
theorem BM.after {w' : World} (h : BM k mk b n f w) (hb : Below w.heap.size w w') : BM k mk b n f w' := by
  obtain ⟨D, h, h2⟩ := h
  refine ⟨D, ?_, h2⟩
  have hlt := h.lt
  obtain ⟨es, clock, hb', F, hs, hD⟩ := h
  exact ⟨es, clock, (hb.block b hlt).trans hb', F, hs, hD⟩
theorem BM.kept {w' : World} {row : Option Nat} (h : BM k mk b n f w) (hg : w.grownBy w' row) (hne : some b ≠ row) : BM k mk b n f w' := by
  obtain ⟨D, h, h2⟩ := h
  exact ⟨D, h.kept hg hne, h2⟩
theorem BM.look {t : TypeId} (h : BM k mk b n f w) (K : Keyed Tryd.prog k) (ht : Tryd.prog.underlying t = some (.map k 4)) {key : Value} {x : α} (hkey : keyOf Tryd.prog k key = some (mk x)) :
    (Instr.lookup t (.map (some b)) key false).run Tryd.prog w = .ok (.bool (f x)) w := by
  obtain ⟨D, h, _, hf⟩ := h
  obtain ⟨c, hrun, hc⟩ := lookup_bool h K ht Tryd.underlying4 (zero_bool w) hkey
  rw [hf x] at hc
  simp only [DataW.lit.injEq, Lit.bool.injEq] at hc
  rw [hrun, hc]
theorem BM.store [DecidableEq α] {t : TypeId} (hinj : ∀ x y, mk x = mk y → x = y) (hk : ∀ x, WideAt.IsKeyLit (mk x)) (h : BM k mk b n f w) (K : Keyed Tryd.prog k) (ht : Tryd.prog.underlying t = some (.map k 4)) (hn : n < maxLen) {key : Value} {x : α} (hkey : keyOf Tryd.prog k key = some (mk x)) :
    ∃ w', (Instr.mapUpdate t (.map (some b)) key (.bool true)).run Tryd.prog w = .ok () w' ∧ BM k mk b (n + 1) (fun y => f y || decide (x = y)) w' ∧ w.grownBy w' (some b) := by
  obtain ⟨D, h, hD, hf⟩ := h
  obtain ⟨w', hrun, h', hg⟩ := h.update K ht hn hkey (plainElem_bool Tryd.underlying4 true)
  refine ⟨w', hrun, ⟨_, h', hD.put _ _, fun y => ?_⟩, hg⟩
  show _ = DataW.lit (Lit.bool (f y || decide (x = y)))
  by_cases hxy : x = y
  · subst hxy
    rw [atKey_put_same hD (hk x), decide_eq_true rfl, Bool.or_true]
  · rw [atKey_put_other (fun e => hxy (hinj _ _ e).symm), hf y, decide_eq_false hxy, Bool.or_false]
end
/-- m[k] = true where the walk stands at it. -/
theorem wpList_store_bm {α : Type} [DecidableEq α] {k : TypeId} {mk : α → Lit} {b n : Nat} {f : α → Bool} (w : World) {ops : Array Oper} {rest : List Oper} {o : Oper} {a : Act} {Q : Exit → Act → World → Prop}
    (hg : o.guard = none) (m x v : Operand) (t : TypeId) (hop : o.op = Op.mapUpdate t m x v) (hinj : ∀ x y, mk x = mk y → x = y) (hk : ∀ x, WideAt.IsKeyLit (mk x)) (h : BM k mk b n f w) (K : Keyed Tryd.prog k) (ht : Tryd.prog.underlying t = some (.map k 4)) (hn : n < maxLen)
    (hm : a.eval m = .map (some b)) (hv : a.eval v = .bool true) (key : Value) (y : α) (hx : a.eval x = key) (hkey : keyOf Tryd.prog k key = some (mk y))
    (hK : ∀ w', BM k mk b (n + 1) (fun z => f z || decide (y = z)) w' → w.grownBy w' (some b) → wpList Tryd.prog ops Q rest (a.put o.dst undef) w') :
    wpList Tryd.prog ops Q (o :: rest) a w := by
  refine wpList_plain hg fun K' hK' => ?_
  obtain ⟨w', hrun, r1, r2⟩ := h.store hinj hk K ht hn hkey
  unfold Oper.wp
  simp [execOp, hop, hm, hx, hv, hrun, Result.andThen]
  exact hK' _ _ (hK w' r1 r2)
/-- m[k] where the walk stands at it. -/
theorem wpList_look_bm {α : Type} {k : TypeId} {mk : α → Lit} {b n : Nat} {f : α → Bool} (w : World) {ops : Array Oper} {rest : List Oper} {o : Oper} {a : Act} {Q : Exit → Act → World → Prop}
    (hg : o.guard = none) (m x : Operand) (t : TypeId) (hop : o.op = Op.lookup t m x false) (h : BM k mk b n f w) (K : Keyed Tryd.prog k) (ht : Tryd.prog.underlying t = some (.map k 4))
    (hm : a.eval m = .map (some b)) (key : Value) (y : α) (hx : a.eval x = key) (hkey : keyOf Tryd.prog k key = some (mk y))
    (hK : wpList Tryd.prog ops Q rest (a.put o.dst (.bool (f y))) w) :
    wpList Tryd.prog ops Q (o :: rest) a w := by
  refine wpList_plain hg fun K' hK' => ?_
  unfold Oper.wp
  simp [execOp, hop, hm, hx, h.look K ht hkey, Result.andThen]
  exact hK' _ _ hK

/-! Keys: texts and bytes. -/
def mkT (l : List UInt8) : Lit := .string l
def mkC (c : UInt8) : Lit := .int .u8 (c.toNat : Int)
theorem mkT_inj (x y : List UInt8) (h : mkT x = mkT y) : x = y := by
  unfold mkT at h
  simpa using h
theorem mkC_inj (x y : UInt8) (h : mkC x = mkC y) : x = y := by
  unfold mkC at h
  simp only [Lit.int.injEq, true_and] at h
  exact UInt8.toNat_inj.1 (by omega)
theorem mkT_key (x : List UInt8) : WideAt.IsKeyLit (mkT x) := trivial
theorem mkC_key (x : UInt8) : WideAt.IsKeyLit (mkC x) := trivial
theorem keyed_text : Keyed Tryd.prog 9 := string_keyed Tryd.underlying9
theorem keyed_byte : Keyed Tryd.prog 5 := int_keyed Tryd.underlying5
theorem key_text (l : List UInt8) (h : l.length ≤ maxLen) : keyOf Tryd.prog 9 (.string (S l)) = some (mkT l) := WideMaps.keyOf_string_mk Tryd.underlying9 (by rw [S_size]; exact h)
theorem key_byte (c : UInt8) : keyOf Tryd.prog 5 (.int .u8 (c.toNat : Int)) = some (mkC c) := keyOf_int_mk Tryd.underlying5 (by
  have := c.toNat_lt
  simp [Lit.wf, IntKind.min, IntKind.max, IntKind.signed, IntKind.bits]
  omega)
end Go.Proofs.YtjfdolmcecgdgaaDoor
