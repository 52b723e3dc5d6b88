/- Merged: GB10, GC10, Own2. -/
import Derived.Test.YtiledacfdaenbaaDoorQ18
import Derived.Test.YtiledacfdaenbaaDoorQ14
import Derived.Laws.ResultCell
import Derived.RegionTactic
import Derived.Deep.RegionLaw
import Derived.Deep.AppendLies
import Derived.Deep.CutBlock
import Derived.Laws.AppendOwn
import Derived.Below
import Derived.WalkKit
namespace Go.Proofs.YtiledacfdaenbaaDoor

section
open Go.RowKit Go.PlainAid
/-- What holds of blocks from B on alone. -/
def New (B : Nat) (P : World → Prop) (w : World) : Prop := ∀ w' : World, w.heap.size ≤ w'.heap.size → (∀ i, B ≤ i → i < w.heap.size → w'.heap[i]? = w.heap[i]?) → P w'
theorem New.here {B : Nat} {P : World → Prop} {w : World} (h : New B P w) : P w := h w (Nat.le_refl _) (fun _ _ _ => rfl)
theorem New.on {B : Nat} {P : World → Prop} {w w' : World} (h : New B P w) (hs : w.heap.size ≤ w'.heap.size) (hb : ∀ i, B ≤ i → i < w.heap.size → w'.heap[i]? = w.heap[i]?) : New B P w' :=
  fun w2 h1 h2 => h w2 (Nat.le_trans hs h1) fun i h3 h4 => (h2 i h3 (Nat.lt_of_lt_of_le h4 hs)).trans (hb i h3 h4)
theorem New.mono {B B' : Nat} {P : World → Prop} {w : World} (h : New B' P w) (hB : B ≤ B') : New B P w :=
  fun w2 h1 h2 => h w2 h1 fun i h3 h4 => h2 i (Nat.le_trans hB h3) h4
theorem New.after {B : Nat} {P : World → Prop} {w w' : World} (h : New B P w) (hb : Below w.heap.size w w') : New B P w' := h.on hb.size fun i _ hi => hb.block i hi

structure Exc (b N : Nat) (w w' : World) : Prop where
  bel : Below b w w'
  rest : ∀ i, i < N → i ≠ b → w'.heap[i]? = w.heap[i]?
theorem Exc.refl (b N : Nat) (w : World) : Exc b N w w := ⟨Below.refl _ _, fun _ _ _ => rfl⟩
theorem Exc.of {b N : Nat} {w w' : World} (h : Below N w w') (hb : b ≤ N) : Exc b N w w' := ⟨h.mono hb, fun i hi _ => h.block i hi⟩
theorem Exc.trans {b N : Nat} {u v w : World} (h : Exc b N u v) (k : Exc b N v w) : Exc b N u w := ⟨h.bel.trans k.bel, fun i hi hne => (k.rest i hi hne).trans (h.rest i hi hne)⟩
theorem Exc.mono {b N M : Nat} {u v : World} (h : Exc b N u v) (hM : M ≤ N) : Exc b M u v := ⟨h.bel, fun i hi hne => h.rest i (Nat.lt_of_lt_of_le hi hM) hne⟩
theorem Exc.setB (b N : Nat) (w : World) (k : Nat) (u : Value) : Exc b N w (w.setCell ⟨b, k, none⟩ u) :=
  ⟨(Below.refl _ _).setCell (p := ⟨b, k, none⟩) (Nat.le_refl _) u, fun _ _ hne => Below.heap_setCell _ _ _ _ hne⟩
theorem Exc.alloc {b N : Nat} {u v : World} (h : Exc b N u v) (hb : b ≤ N) (hN : N ≤ v.heap.size) (o : Obj) : Exc b N u (v.alloc o) := h.trans (.of ((Below.refl _ _).alloc hN o) hb)
theorem Exc.setCell {b N : Nat} {u v : World} (h : Exc b N u v) (hb : b ≤ N) {p : Addr} (hp : N ≤ p.block) (x : Value) : Exc b N u (v.setCell p x) := h.trans (.of ((Below.refl _ _).setCell hp x) hb)
theorem Exc.drew {b N : Nat} {u v : World} (h : Exc b N u v) : Exc b N u v.drew := ⟨h.bel.drew, h.rest⟩
theorem Exc.grown {b N : Nat} {u v w : World} {row : Option Nat} (h : Exc b N u v) (hb : b ≤ N) (hg : v.grownBy w row) (hN : N ≤ v.heap.size) (hr : ∀ k, row = some k → N ≤ k) : Exc b N u w :=
  h.trans (.of ((Below.refl _ _).grown hg hN hr) hb)
theorem Exc.size {b N : Nat} {u v : World} (h : Exc b N u v) : u.heap.size ≤ v.heap.size := h.bel.size
theorem Exc.cell {b N : Nat} {u v : World} (h : Exc b N u v) {p : Addr} (hp : p.block < N) (hne : p.block ≠ b) : v.cell? p = u.cell? p := World.cell?_of_block (h.rest _ hp hne)

theorem heap_set_ne (w : World) (p : Addr) (v : Value) (g : Nat) (h : g ≠ p.block) : (w.setCell p v).heap[g]? = w.heap[g]? := Below.heap_setCell _ _ _ _ h
theorem own_set_ne {w : World} {B e size n : Nat} {v : Value} {xs : List Value} (h : w.ownsRow B e size v n xs) (p : Addr) (u : Value) (hp : v.ownBlock ≠ some p.block) : (w.setCell p u).ownsRow B e size v n xs := by
  refine ⟨h.1, ?_⟩
  rcases h.2 with hn | ⟨g, cap, cur, rfl, hB', hg, rest⟩
  · exact .inl hn
  · exact .inr ⟨g, cap, cur, rfl, hB', (heap_set_ne w p u g (fun e => hp (by rw [← e]; rfl))).trans hg, rest⟩
/-- A row that lies from B on lies there in every world with the same blocks from B on. -/
theorem own_same {w w' : World} {B e size n : Nat} {v : Value} {xs : List Value} (h : w.ownsRow B e size v n xs) (hb : ∀ i, B ≤ i → i < w.heap.size → w'.heap[i]? = w.heap[i]?) : w'.ownsRow B e size v n xs := by
  refine ⟨h.1, ?_⟩
  rcases h.2 with hn | ⟨g, cap, cur, hv, hB', hg, rest⟩
  · exact .inl hn
  · exact .inr ⟨g, cap, cur, hv, hB', (hb g hB' (Array.getElem?_eq_some_iff.1 hg).1).trans hg, rest⟩

/-- What lies in memory while a field is read: its result's place, the field, its subfields so far (from the end of W5 on), and what lay between in W5. -/
structure NF (w : World) (b : Nat) (W5 : World) (tg ix : ByteArray) (sv : Value) (au : Int) (L : List Sub) (wr : World) : Prop where
  lt : b < w.heap.size
  f : wr.heap[w.heap.size + 1]? = some (.cells #[.string tg, .string ix, sv, .int .i64 au] 49 (0, 0))
  r : wr.heap[w.heap.size]? = some (.cells #[.string ⟨#[]⟩, .string ⟨#[]⟩, .slice none 0 0, .int .i64 0] 49 (0, 0))
  own : wr.ownsRow W5.heap.size 46 2 sv L.length (cellsL L)
  two : w.heap.size + 2 ≤ W5.heap.size
  size : W5.heap.size ≤ wr.heap.size
  mid : ∀ i, w.heap.size + 2 ≤ i → i < W5.heap.size → wr.heap[i]? = W5.heap[i]?
  exc : Exc b w.heap.size w wr
/-- The cells that the walk meets. -/
def NC (N : Nat) (tg ix : ByteArray) (sv : Value) (au : Int) (wr : World) : Prop :=
  (wr.cell? ⟨N + 1, 0, none⟩ = some (.string tg) ∧ wr.cell? ⟨N + 1, 1, none⟩ = some (.string ix) ∧ wr.cell? ⟨N + 1, 2, none⟩ = some sv ∧ wr.cell? ⟨N + 1, 3, none⟩ = some (.int .i64 au)) ∧
  (wr.frozen? ⟨N + 1, 0, none⟩ = false ∧ wr.frozen? ⟨N + 1, 1, none⟩ = false ∧ wr.frozen? ⟨N + 1, 2, none⟩ = false ∧ wr.frozen? ⟨N + 1, 3, none⟩ = false) ∧
  (wr.cell? ⟨N, 0, none⟩ = some (.string ⟨#[]⟩) ∧ wr.cell? ⟨N, 1, none⟩ = some (.string ⟨#[]⟩) ∧ wr.cell? ⟨N, 2, none⟩ = some (.slice none 0 0) ∧ wr.cell? ⟨N, 3, none⟩ = some (.int .i64 0)) ∧
  (wr.frozen? ⟨N, 0, none⟩ = false ∧ wr.frozen? ⟨N, 1, none⟩ = false ∧ wr.frozen? ⟨N, 2, none⟩ = false ∧ wr.frozen? ⟨N, 3, none⟩ = false)
section
variable {w W5 wr : World} {b : Nat} {tg ix : ByteArray} {sv : Value} {au : Int} {L : List Sub}
theorem NF.cells (h : NF w b W5 tg ix sv au L wr) : NC w.heap.size tg ix sv au wr := by
  have zF := h.f
  have zR := h.r
  refine ⟨⟨?_, ?_, ?_, ?_⟩, ⟨Lib.frozen_of_heap zF 0, Lib.frozen_of_heap zF 1, Lib.frozen_of_heap zF 2, Lib.frozen_of_heap zF 3⟩, ⟨?_, ?_, ?_, ?_⟩, ⟨Lib.frozen_of_heap zR 0, Lib.frozen_of_heap zR 1, Lib.frozen_of_heap zR 2, Lib.frozen_of_heap zR 3⟩⟩
  · rw [Lib.cell_of_heap zF]; rfl
  · rw [Lib.cell_of_heap zF]; rfl
  · rw [Lib.cell_of_heap zF]; rfl
  · rw [Lib.cell_of_heap zF]; rfl
  · rw [Lib.cell_of_heap zR]; rfl
  · rw [Lib.cell_of_heap zR]; rfl
  · rw [Lib.cell_of_heap zR]; rfl
  · rw [Lib.cell_of_heap zR]; rfl
theorem NF.first (w : World) (b : Nat) (hb : b < w.heap.size) (tg : ByteArray) : NF w b ((w.alloc (.cells #[.string ⟨#[]⟩, .string ⟨#[]⟩, .slice none 0 0, .int .i64 0] 49)).alloc (.cells #[.string tg, .string ⟨#[]⟩, .slice none 0 0, .int .i64 0] 49)) tg ⟨#[]⟩ (.slice none 0 0) 0 [] ((w.alloc (.cells #[.string ⟨#[]⟩, .string ⟨#[]⟩, .slice none 0 0, .int .i64 0] 49)).alloc (.cells #[.string tg, .string ⟨#[]⟩, .slice none 0 0, .int .i64 0] 49)) := by
  refine ⟨hb, ?_, ?_, World.ownsRow_nil _ _ _ _, by simp, Nat.le_refl _, fun _ _ _ => rfl, ((Exc.refl b w.heap.size w).alloc (Nat.le_of_lt hb) (Nat.le_refl _) _).alloc (Nat.le_of_lt hb) (by simp) _⟩
  · have := heap_alloc_new (w.alloc (.cells #[.string ⟨#[]⟩, .string ⟨#[]⟩, .slice none 0 0, .int .i64 0] 49)) (.cells #[.string tg, .string ⟨#[]⟩, .slice none 0 0, .int .i64 0] 49)
    simpa using this
  · exact (Below.heap_alloc _ _ _ (by simp)).trans (heap_alloc_new w _)
theorem NF.restart (h : NF w b W5 tg ix (.slice none 0 0) au [] wr) : NF w b wr tg ix (.slice none 0 0) au [] wr :=
  ⟨h.lt, h.f, h.r, World.ownsRow_nil _ _ _ _, Nat.le_trans h.two h.size, Nat.le_refl _, fun _ _ _ => rfl, h.exc⟩
theorem NF.drew (h : NF w b W5 tg ix sv au L wr) : NF w b W5 tg ix sv au L wr.drew := ⟨h.lt, h.f, h.r, h.own, h.two, h.size, h.mid, h.exc.drew⟩
theorem NF.alloc (h : NF w b W5 tg ix sv au L wr) (o : Obj) : NF w b W5 tg ix sv au L (wr.alloc o) :=
  have h1 := h.two
  have h2 := h.size
  ⟨h.lt, (Below.heap_alloc wr o _ (by omega)).trans h.f, (Below.heap_alloc wr o _ (by omega)).trans h.r, h.own.alloc o, h1, by simp; omega, fun i hi hj => (Below.heap_alloc wr o _ (by omega)).trans (h.mid i hi hj), h.exc.alloc (Nat.le_of_lt h.lt) (by omega) o⟩
theorem NF.setOther (h : NF w b W5 tg ix sv au L wr) (p : Addr) (u : Value) (hp : W5.heap.size ≤ p.block) (hne : sv.ownBlock ≠ some p.block) : NF w b W5 tg ix sv au L (wr.setCell p u) :=
  have h1 := h.two
  ⟨h.lt, (heap_set_ne wr p u _ (by omega)).trans h.f, (heap_set_ne wr p u _ (by omega)).trans h.r, own_set_ne h.own p u hne, h1, by simpa using h.size, fun i hi hj => (heap_set_ne wr p u _ (by omega)).trans (h.mid i hi hj), h.exc.setCell (Nat.le_of_lt h.lt) (p := p) (by omega) u⟩
theorem NF.setB (h : NF w b W5 tg ix sv au L wr) (u : Value) : NF w b W5 tg ix sv au L (wr.setCell ⟨b, 0, none⟩ u) :=
  have hb := h.lt
  have h1 := h.two
  ⟨h.lt, (heap_set_ne wr _ u _ (by show w.heap.size + 1 ≠ b; omega)).trans h.f, (heap_set_ne wr _ u _ (by show w.heap.size ≠ b; omega)).trans h.r, own_setCell h.own (p := ⟨b, 0, none⟩) (by show b < _; omega) u, h1, by simpa using h.size, fun i hi hj => (heap_set_ne wr _ u _ (by show i ≠ b; omega)).trans (h.mid i hi hj), h.exc.trans (.setB _ _ _ _ _)⟩
theorem NF.setInd (h : NF w b W5 tg ix sv au L wr) (x : ByteArray) : NF w b W5 tg x sv au L (wr.setCell ⟨w.heap.size + 1, 1, none⟩ (.string x)) :=
  have h1 := h.two
  ⟨h.lt, by simp [World.setCell, Array.getElem?_modify, h.f], (heap_set_ne wr _ _ _ (by simp)).trans h.r, own_setCell h.own (p := ⟨w.heap.size + 1, 1, none⟩) (by show w.heap.size + 1 < _; omega) _, h1, by simpa using h.size, fun i hi hj => (heap_set_ne wr _ _ _ (by show i ≠ w.heap.size + 1; omega)).trans (h.mid i hi hj), h.exc.setCell (Nat.le_of_lt h.lt) (p := ⟨w.heap.size + 1, 1, none⟩) (Nat.le_succ _) _⟩
theorem NF.setAuth (h : NF w b W5 tg ix sv au L wr) (x : Int) : NF w b W5 tg ix sv x L (wr.setCell ⟨w.heap.size + 1, 3, none⟩ (.int .i64 x)) :=
  have h1 := h.two
  ⟨h.lt, by simp [World.setCell, Array.getElem?_modify, h.f], (heap_set_ne wr _ _ _ (by simp)).trans h.r, own_setCell h.own (p := ⟨w.heap.size + 1, 3, none⟩) (by show w.heap.size + 1 < _; omega) _, h1, by simpa using h.size, fun i hi hj => (heap_set_ne wr _ _ _ (by show i ≠ w.heap.size + 1; omega)).trans (h.mid i hi hj), h.exc.setCell (Nat.le_of_lt h.lt) (p := ⟨w.heap.size + 1, 3, none⟩) (Nat.le_succ _) _⟩
/-- Behind an append, before the store. -/
theorem NF.app {w3 : World} (h : NF w b W5 tg ix sv au L wr) (o : Obj) (hg : (wr.alloc o).grownBy w3 sv.ownBlock) :
    w3.heap[w.heap.size + 1]? = some (.cells #[.string tg, .string ix, sv, .int .i64 au] 49 (0, 0)) ∧ w3.heap[w.heap.size]? = some (.cells #[.string ⟨#[]⟩, .string ⟨#[]⟩, .slice none 0 0, .int .i64 0] 49 (0, 0)) ∧ (W5.heap.size ≤ w3.heap.size ∧ ∀ i, w.heap.size + 2 ≤ i → i < W5.heap.size → w3.heap[i]? = W5.heap[i]?) ∧ Exc b w.heap.size w w3 := by
  have ha := h.alloc o
  have h1 := ha.two
  have h2 := ha.size
  have hb := fun k hk => (World.ownsRow.lt ha.own k hk).1
  exact ⟨(hg.block _ (by omega) (fun e => by have := hb _ e.symm; omega)).trans ha.f, (hg.block _ (by omega) (fun e => by have := hb _ e.symm; omega)).trans ha.r, ⟨Nat.le_trans h2 hg.size, fun i hi hj => (hg.block _ (by omega) (fun e => by have := hb _ e.symm; omega)).trans (ha.mid i hi hj)⟩, ha.exc.grown (Nat.le_of_lt h.lt) hg (by omega) (fun k hk => by have := hb k hk; omega)⟩
theorem NF.store {sv' : Value} {w3 : World} {x : Sub} (hlt : b < w.heap.size) (h2 : w.heap.size + 2 ≤ W5.heap.size) (hf : w3.heap[w.heap.size + 1]? = some (.cells #[.string tg, .string ix, sv, .int .i64 au] 49 (0, 0)))
    (hr : w3.heap[w.heap.size]? = some (.cells #[.string ⟨#[]⟩, .string ⟨#[]⟩, .slice none 0 0, .int .i64 0] 49 (0, 0))) (hm : W5.heap.size ≤ w3.heap.size ∧ ∀ i, w.heap.size + 2 ≤ i → i < W5.heap.size → w3.heap[i]? = W5.heap[i]?) (he : Exc b w.heap.size w w3)
    (ho : w3.ownsRow W5.heap.size 46 2 sv' (L.length + 1) (cellsL L ++ encS x)) : NF w b W5 tg ix sv' au (L ++ [x]) (w3.setCell ⟨w.heap.size + 1, 2, none⟩ sv') := by
  refine ⟨hlt, by simp [World.setCell, Array.getElem?_modify, hf], (heap_set_ne w3 _ _ _ (by simp)).trans hr, own_setCell ?_ (p := ⟨w.heap.size + 1, 2, none⟩) (by show w.heap.size + 1 < _; omega) _, h2, by simpa using hm.1, fun i hi hj => (heap_set_ne w3 _ _ _ (by show i ≠ w.heap.size + 1; omega)).trans (hm.2 i hi hj), he.setCell (Nat.le_of_lt hlt) (p := ⟨w.heap.size + 1, 2, none⟩) (Nat.le_succ _) _⟩
  rw [cellsL_snoc, List.length_append]
  exact ho
/-- A row of subfields from block B on: a slice of them in every world with the same blocks from B on. -/
theorem own_ql {B : Nat} {v : Value} {L : List Sub} {w : World} (h : w.ownsRow B 46 2 v L.length (cellsL L)) : QL v L w := by
  rcases h.2 with ⟨rfl, h0⟩ | ⟨g, cap, cur, rfl, hb, hg, hc, hm, hs, ht⟩
  · have : L = [] := List.eq_nil_of_length_eq_zero h0
    subst this
    exact ⟨none, 0, rfl, Nat.le_refl _, Nat.zero_le _, fun _ => rfl, fun i hi => by cases hi⟩
  · have hadd : ∀ j, (⟨g, 0, none⟩ : Addr).add j = ⟨g, j, none⟩ := fun j => by unfold Addr.add; split <;> simp_all
    refine ⟨_, cap, rfl, hc, hm, (fun h => by cases h), fun i hi => ⟨g, 0, rfl, (Array.getElem?_eq_some_iff.1 hg).1, ?_⟩⟩
    obtain ⟨c0, c1⟩ := cellsL_at L i hi
    have t0 := h.cells (g := g) rfl _ _ c0
    have t1 := h.cells (g := g) rfl _ _ c1
    rw [hadd] at t0 t1
    rw [Nat.zero_add]
    exact ⟨t0, t1⟩
theorem own_new {B : Nat} {v : Value} {L : List Sub} {w : World} (h : w.ownsRow B 46 2 v L.length (cellsL L)) : New B (QL v L) w := fun _ _ hb => own_ql (own_same h hb)
/-- What the function's return meets, and where it ends. -/
theorem NF.ret {wz : World} (h : NF w b W5 tg ix sv au L wz) :
    RowKit.Hid (((((wz.setCell ⟨w.heap.size, 0, none⟩ (.string tg)).setCell ⟨w.heap.size, 1, none⟩ (.string ix)).setCell ⟨w.heap.size, 2, none⟩ sv).setCell ⟨w.heap.size, 3, none⟩ (.int .i64 au)).heap[w.heap.size]? = some (.cells #[.string tg, .string ix, sv, .int .i64 au] 49 (0, 0))) ∧
    RowKit.Hid (New w.heap.size (QL sv L) ((((wz.setCell ⟨w.heap.size, 0, none⟩ (.string tg)).setCell ⟨w.heap.size, 1, none⟩ (.string ix)).setCell ⟨w.heap.size, 2, none⟩ sv).setCell ⟨w.heap.size, 3, none⟩ (.int .i64 au))) ∧
    RowKit.Hid (Exc b w.heap.size w ((((wz.setCell ⟨w.heap.size, 0, none⟩ (.string tg)).setCell ⟨w.heap.size, 1, none⟩ (.string ix)).setCell ⟨w.heap.size, 2, none⟩ sv).setCell ⟨w.heap.size, 3, none⟩ (.int .i64 au))) := by
  have hb := Nat.le_of_lt h.lt
  have h2 := h.two
  refine ⟨?_, ?_, ?_⟩
  · show ((((wz.setCell ⟨w.heap.size, 0, none⟩ (.string tg)).setCell ⟨w.heap.size, 1, none⟩ (.string ix)).setCell ⟨w.heap.size, 2, none⟩ sv).setCell ⟨w.heap.size, 3, none⟩ (.int .i64 au)).heap[w.heap.size]? = _
    simp [World.setCell, Array.getElem?_modify, h.r]
  · exact (own_new (own_setCell (own_setCell (own_setCell (own_setCell h.own (p := ⟨w.heap.size, 0, none⟩) (by show w.heap.size < _; omega) _) (p := ⟨w.heap.size, 1, none⟩) (by show w.heap.size < _; omega) _) (p := ⟨w.heap.size, 2, none⟩) (by show w.heap.size < _; omega) _) (p := ⟨w.heap.size, 3, none⟩) (by show w.heap.size < _; omega) _)).mono (by omega)
  · exact (((h.exc.setCell hb (p := ⟨w.heap.size, 0, none⟩) (Nat.le_refl _) _).setCell hb (p := ⟨w.heap.size, 1, none⟩) (Nat.le_refl _) _).setCell hb (p := ⟨w.heap.size, 2, none⟩) (Nat.le_refl _) _).setCell hb (p := ⟨w.heap.size, 3, none⟩) (Nat.le_refl _) _
end
/-- append of one subfield to a row of the call's own, within a region that draws. -/
theorem step_append_sub {ops : Array Oper} {o : Oper} {a : Act} {K : Act → World → Prop} {Q : Exit → Act → World → Prop} {E : Prop} (w : World) (hgd : o.guard = none) (s x : Operand)
    (ho : o.op = .call { callee := .builtin .append, args := #[s, x], argTypes := #[47, 47] })
    (B : Nat) (v : Value) (n : Nat) (L : List Sub) (hs : a.eval s = v) (hr : w.ownsRow B 46 2 v n (cellsL L)) (y z : Value) (hy : y.oneCell' = true) (hz1 : z.oneCell' = true) (ad : Addr) (hx : a.eval x = .slice (some ad) 1 1)
    (hM : ∀ j u, [y, z][j]? = some u → w.cell? (ad.add j) = some u)
    (hz : n + 1 ≤ 1000000) (hB : B ≤ w.heap.size)
    (h : ∀ g cap w', w'.ownsRow B 46 2 (.slice (some ⟨g, 0, none⟩) (n + 1) cap) (n + 1) (cellsL L ++ [y, z]) → w.grownBy w' v.ownBlock → K (a.put o.dst (.slice (some ⟨g, 0, none⟩) (n + 1) cap)) w') :
    if Region.wanted o (yielded ops a.tmps) = true then Oper.wp Tryd.prog o a w K Q else E := by
  obtain ⟨i0, hi, hz0, hz1', hz2⟩ := info_sub
  exact step_append_lies w hgd s x _ ho B _ i0 (.agg #[.int .u8 0, .string ⟨#[]⟩]) 2 24 Tryd.underlying47 hi hz0 hz1' hz2 rfl (by decide) v n (cellsL L) hs hr ad 1 1 [y, z] hx
      rfl hM (by intro u hu; simp at hu; rcases hu with rfl | rfl <;> assumption) (by decide) (by unfold maxLen; omega) (by omega) hB _ rfl fun g cap w' hown' hgrow _ _ => h g cap w' hown' hgrow
end

section
open Go.RowKit Go.PlainAid
/-- strings.Split at one byte. -/
theorem cSplit (l : List UInt8) (c : UInt8) (hz : l.length ≤ 1000000) (w : World) (hE : Env w) :
    Calls Tryd.prog 86 #[.string (S l), .string (S [c])] w fun e w' => e = .returned (.slice (some ⟨w.heap.size, 0, none⟩) (splitX c l).length (splitX c l).length) ∧ w' = w.alloc (.cells ((splitX c l).map strB).toArray 9) := by
  obtain ⟨m, hm⟩ := hE.most
  have h := Tryd.strings_Split (S l) (S [c]) m w (by rw [S_size]; omega) hm (by rw [S_size]; exact Nat.le_refl _)
  rw [split_data, show Lib.countB (S l) (S [c]) = l.count c from Lib.count_one c l, ← splitX_len] at h
  exact h
theorem strs_bl (w : World) (P : List (List UInt8)) (h : P.length ≤ maxLen) : New w.heap.size (BL (.slice (some ⟨w.heap.size, 0, none⟩) P.length P.length) P) (w.alloc (.cells (P.map strB).toArray 9)) := by
  intro w' hs hb
  have hbk := (hb w.heap.size (Nat.le_refl _) (by simp)).trans (heap_alloc_new w _)
  refine ⟨_, _, rfl, Nat.le_refl _, h, (fun h => by cases h), fun i hi => ⟨w.heap.size, 0, rfl, (Array.getElem?_eq_some_iff.1 hbk).1, ?_⟩⟩
  rw [Lib.cell_of_heap hbk, Nat.zero_add]
  simp [List.getD_eq_getElem?_getD, List.getElem?_eq_getElem hi]
theorem bl_tail {g m : Nat} {P : List (List UInt8)} {w : World} (h : BL (.slice (some ⟨g, 0, none⟩) P.length P.length) P w) (hm : P.length = m + 1) : BL (.slice (some ⟨g, 1, none⟩) m m) P.tail w := by
  obtain ⟨a, cap, he, hc, hx, hn, hcell⟩ := h
  obtain ⟨rfl, -, rfl⟩ := Value.slice.inj he
  have ht : P.tail.length = m := by rw [List.length_tail, hm, Nat.add_sub_cancel]
  refine ⟨some ⟨g, 1, none⟩, m, by rw [ht], by omega, by omega, (fun h => by cases h), fun i hi => ?_⟩
  rw [ht] at hi
  obtain ⟨g', o', hg', hlt, hcl⟩ := hcell (i + 1) (by omega)
  simp only [Option.some.injEq, Addr.mk.injEq] at hg'
  obtain ⟨rfl, rfl, -⟩ := hg'
  refine ⟨g, 1, rfl, hlt, ?_⟩
  rw [show 1 + i = 0 + (i + 1) by omega, hcl]
  cases P with
  | nil => cases hm
  | cons x t => rfl
theorem subE10_none : ∀ (L : List (List UInt8)) (k : Nat), k < L.length → L.getD k [] = [] → subE10 L = none
  | [], _, h, _ => by cases h
  | [] :: _, _, _, _ => rfl
  | (c :: v) :: t, 0, _, h => by cases h
  | (c :: v) :: t, k + 1, h, h2 => by
    rw [subE10, subE10_none t k (by simpa using h) h2]
    rfl
/-- The subfields of pieces. -/
def pcs (L : List (List UInt8)) : List Sub := L.map fun p => (p.getD 0 0, p.drop 1)
theorem subE10_some : ∀ (L : List (List UInt8)), (∀ k, k < L.length → L.getD k [] ≠ []) → subE10 L = some (pcs L)
  | [], _ => rfl
  | [] :: _, h => absurd rfl (h 0 (by simp))
  | (c :: v) :: t, h => by
    rw [subE10, subE10_some t (fun k hk => h (k + 1) (by simpa using hk))]
    rfl
theorem pcs_snoc (L : List (List UInt8)) (k : Nat) (h : k < L.length) : pcs (L.take (k + 1)) = pcs (L.take k) ++ [((L.getD k []).getD 0 0, (L.getD k []).drop 1)] := by
  unfold pcs
  rw [List.take_succ_eq_append_getElem h, List.map_append, List.getD_eq_getElem?_getD (l := L), List.getElem?_eq_getElem h]
  rfl
theorem pcs_len (L : List (List UInt8)) : (pcs L).length = L.length := by simp [pcs]
theorem cells_two10 (w : World) (a b : Value) (t : TypeId) : ∀ j u, [a, b][j]? = some u → (w.alloc (.cells #[a, b] t)).cell? ((⟨w.heap.size, 0, none⟩ : Addr).add j) = some u := by
  intro j u hj
  match j, hj with
  | 0, hj => simp at hj; subst hj; simp [Addr.add]
  | 1, hj => simp at hj; subst hj; simp [Addr.add]
  | (j + 2), hj => simp at hj
theorem trim_le (l p : List UInt8) : (Lib.trimSuffix l p).length ≤ l.length := by
  unfold Lib.trimSuffix
  split
  · rw [List.length_take]; omega
  · exact Nat.le_refl _
theorem split_le (c : UInt8) (l : List UInt8) : (splitX c l).length ≤ l.length + 1 := by
  rw [splitX_len]
  have := List.count_le_length (a := c) (l := l)
  omega

/-- What field leaves. -/
def FEnd (w : World) (b : Nat) (R : Option Fld) (e : Ending) (w' : World) : Prop :=
  Exc b w.heap.size w w' ∧ ((R = none ∧ e = .panicked upV) ∨ ∃ f u, R = some f ∧ e = .returned (FV f u) ∧ New w.heap.size (QL u f.subs) w')

set_option maxHeartbeats 16000000 in
set_option maxRecDepth 100000 in
theorem field_any (b : Nat) (l tag : List UInt8) (w : World) (hE : ∀ W, Below b w W → Env W) (h : RD b l w) (hz : l.length ≤ 100000) :
    Calls Tryd.prog 72 #[.pointer (some ⟨b, 0, none⟩), .string (S tag)] w fun e w' => FEnd w b (fldE tag l) e w' := by
  have hlt := h.lt
  obtain ⟨Q, hQ⟩ : ∃ Q, (fun e w' => FEnd w b (fldE tag l) e w') = Q := ⟨_, rfl⟩
  rw [hQ]
  have HQ : RowKit.Hid (∀ e w', FEnd w b (fldE tag l) e w' → Q e w') := by rw [← hQ]; exact fun _ _ h => h
  clear hQ
  have HNF := Lib.hid (NF.first w b hlt (S tag))
  obtain ⟨W0, hW0⟩ : ∃ W0, ((w.alloc (.cells #[.string ⟨#[]⟩, .string ⟨#[]⟩, .slice none 0 0, .int .i64 0] 49)).alloc (.cells #[.string (S tag), .string ⟨#[]⟩, .slice none 0 0, .int .i64 0] 49)) = W0 := ⟨_, rfl⟩
  rw [hW0] at HNF
  have HR0 : RowKit.Hid (RD b l W0) := h.same (HNF.out.exc.bel.size |> fun _ => by rw [← hW0, Below.heap_alloc _ _ _ (by simp; omega), Below.heap_alloc _ _ _ hlt])
  have HE := Lib.hid hE
  have HW0 := Lib.hid hW0
  clear hW0 h hE
  by_cases h2 : l.length < 2
  · have HN : RowKit.Hid (fldE tag l = none) := by unfold RowKit.Hid fldE; rw [if_pos (.inl h2)]
    have cN := Lib.hid (next_bad b l 2 W0 HR0.out h2)
    clear h2 hz
    go_enter Tryd.func72, Tryd.ntmps72
    go_wp2_with fail
    rw [HW0.out]
    refine cN.out.mono ?_
    rintro e w1 ⟨rfl, hw1⟩
    rw [hw1]
    clear hw1
    go_wp2
    exact ⟨rfl, HQ.out _ _ ⟨HNF.out.exc, .inl ⟨HN.out, rfl⟩⟩⟩
  have cN := Lib.hid (next_ok b l 2 W0 HR0.out (by omega))
  obtain ⟨W1, hW1⟩ : ∃ W1, W0.setCell ⟨b, 0, none⟩ (.string (S (l.drop 2))) = W1 := ⟨_, rfl⟩
  have hNF1 := HNF.out.setB (.string (S (l.drop 2)))
  have hR1 := HR0.out.set (l.drop 2)
  rw [hW1] at hNF1 hR1 cN
  obtain ⟨⟨a0, a1, a2, a3⟩, ⟨f0, f1, f2, f3⟩, -, -⟩ := hNF1.cells
  obtain ⟨W2, hW2⟩ : ∃ W2, W1.setCell ⟨w.heap.size + 1, 1, none⟩ (.string (S (l.take 2))) = W2 := ⟨_, rfl⟩
  have hNF2 := hNF1.setInd (S (l.take 2))
  have hR2 := hR1.same (w' := W2) (by rw [← hW2]; exact heap_set_ne _ _ _ _ (by show b ≠ w.heap.size + 1; omega))
  rw [hW2] at hNF2
  have HNF2 := Lib.hid hNF2
  have HR2 := Lib.hid hR2
  have HW2 := Lib.hid hW2
  clear hNF1 hR1 hNF2 hR2 HNF HR0 hW1 hW2
  cases h4 : numOk (l.drop 2) 4
  · have HN : RowKit.Hid (fldE tag l = none) := by unfold RowKit.Hid fldE; rw [if_pos (.inr h4)]
    have cM := Lib.hid (number_bad b (l.drop 2) 4 W2 HR2.out (by decide) h4)
    clear h2 hz h4
    go_enter Tryd.func72, Tryd.ntmps72
    go_wp2_with fail
    rw [HW0.out]
    refine cN.out.mono ?_
    rintro e w1 ⟨rfl, hw1⟩
    rw [hw1]
    clear hw1
    go_wp2_with fail
    rw [HW2.out]
    refine cM.out.mono ?_
    rintro e w1 ⟨rfl, hw1⟩
    have HX : RowKit.Hid (Exc b w.heap.size w w1) := by
      rcases hw1 with rfl | rfl
      · exact HNF2.out.exc
      · exact (HNF2.out.setB _).exc
    clear hw1
    go_wp2
    exact ⟨rfl, HQ.out _ _ ⟨HX.out, .inl ⟨HN.out, rfl⟩⟩⟩
  have cM := Lib.hid (number_ok b (l.drop 2) 4 W2 HR2.out (by decide) h4)
  rw [List.drop_drop, show 2 + 4 = 6 from rfl] at cM
  obtain ⟨au, hau⟩ : ∃ au, numOf (l.drop 2) 4 = au := ⟨_, rfl⟩
  rw [hau] at cM
  obtain ⟨P, hP⟩ : ∃ P, splitX 31 (Lib.trimSuffix (l.drop 6) [30]) = P := ⟨_, rfl⟩
  have HF : RowKit.Hid (fldE tag l = (subE10 P.tail).map fun L => ⟨tag, l.take 2, L, (au : Int)⟩) := by
    unfold RowKit.Hid fldE
    rw [if_neg (by
      rw [h4]
      intro g
      rcases g with g | g
      · exact h2 g
      · cases g), hP, ← hau]
    rfl
  obtain ⟨W3, hW3⟩ : ∃ W3, W2.setCell ⟨b, 0, none⟩ (.string (S (l.drop 6))) = W3 := ⟨_, rfl⟩
  have hNF3 := HNF2.out.setB (.string (S (l.drop 6)))
  have hR3 := HR2.out.set (l.drop 6)
  rw [hW3] at hNF3 hR3 cM
  obtain ⟨⟨c0, c1, c2, c3⟩, ⟨p0, p1, p2, p3⟩, -, -⟩ := hNF3.cells
  obtain ⟨W4, hW4⟩ : ∃ W4, W3.setCell ⟨w.heap.size + 1, 3, none⟩ (.int .i64 (au : Int)) = W4 := ⟨_, rfl⟩
  have hNF4 := hNF3.setAuth (au : Int)
  have hR4 := hR3.same (w' := W4) (by rw [← hW4]; exact heap_set_ne _ _ _ _ (by show b ≠ w.heap.size + 1; omega))
  rw [hW4] at hNF4
  obtain ⟨rb0, -⟩ := hR4.cell
  have hz6 : (l.drop 6).length ≤ 100000 := by rw [List.length_drop]; omega
  have htz := trim_le (l.drop 6) [30]
  have cT := Lib.hid (fun W => cTrim (l.drop 6) [30] (by omega) W)
  have cS := Lib.hid (cSplit (Lib.trimSuffix (l.drop 6) [30]) 31 (by omega) W4 (HE.out _ hNF4.exc.bel))
  rw [hP] at cS
  have hPn : 1 ≤ P.length := by rw [← hP, splitX_len]; omega
  have hPz : P.length ≤ 100001 := by rw [← hP]; have := split_le 31 (Lib.trimSuffix (l.drop 6) [30]); omega
  have HNF4 := Lib.hid hNF4
  have HW4 := Lib.hid hW4
  have rb4 : (W3.setCell ⟨w.heap.size + 1, 3, none⟩ (.int .i64 (au : Int))).cell? ⟨b, 0, none⟩ = some (.string (S (l.drop 6))) := by rw [HW4.out]; exact rb0
  obtain ⟨rb3, -⟩ := hR3.cell
  have hbn : b ≠ w.heap.size + 1 := by omega
  clear hNF3 hR3 hNF4 hR4 HNF2 HR2 hW3 hW4 hP hau h4 h2 htz hz6
  go_enter Tryd.func72, Tryd.ntmps72
  go_wp2_with fail
  rw [HW0.out]
  refine cN.out.mono ?_
  rintro e w1 ⟨rfl, hw1⟩
  rw [hw1]
  clear hw1
  go_wp2_with fail
  rw [HW2.out]
  refine cM.out.mono ?_
  rintro e w1 ⟨rfl, hw1⟩
  rw [hw1]
  clear hw1 a0 a1 a2 a3 f0 f1 f2 f3
  go_wp2_with fail
  rw [HW4.out]
  refine (cT.out _).mono ?_
  rintro e w1 ⟨rfl, hw1⟩
  rw [hw1]
  clear hw1 c0 c1 c2 c3 p0 p1 p2 p3 rb3 rb4 hbn
  go_wp2_with fail
  refine cS.out.mono ?_
  rintro e w1 ⟨rfl, hw1⟩
  rw [hw1]
  clear hw1 rb0
  have hNF5 := (HNF4.out.alloc (.cells (P.map strB).toArray 9)).restart
  have hBL5 := strs_bl W4 P (by unfold maxLen; omega)
  obtain ⟨g, hg⟩ : ∃ g, W4.heap.size = g := ⟨_, rfl⟩
  have hg2 : w.heap.size + 2 ≤ g := by rw [← hg]; exact Nat.le_trans HNF4.out.two HNF4.out.size
  rw [hg] at hBL5
  obtain ⟨W5, hW5⟩ : ∃ W5, W4.alloc (.cells (P.map strB).toArray 9) = W5 := ⟨_, rfl⟩
  rw [hW5] at hNF5 hBL5
  rw [hg, hW5]
  have HBL5 := Lib.hid hBL5
  have HNF5 := Lib.hid hNF5
  clear hW5 hg hNF5 hBL5 HNF4 HW4 HW0 HW2 cT cS cN cM
  obtain ⟨m, hm⟩ : ∃ m, P.length = m + 1 := ⟨P.length - 1, by omega⟩
  have hR : P.tail.length = m := by rw [List.length_tail, hm, Nat.add_sub_cancel]
  have HP := Lib.hid hm
  rw [hm] at hPz HBL5 ⊢
  clear hm hPn
  obtain ⟨R, hRR⟩ : ∃ R, P.tail = R := ⟨_, rfl⟩
  have HRR := Lib.hid hRR
  rw [hRR] at HF hR
  have HR := Lib.hid hR
  clear hRR hR
  have hm1 : (1 : Int) ≤ ((m : Int) + 1) := by omega
  go_upto_region 5 with fail
  go_cut [26, 27, 28] from 25 to 28 (fun s n i wx => n = .int .i64 (m : Int) ∧ i = .int .i64 0 ∧ (∃ a c, s = .slice a m c ∧ RowKit.Hid (New (w.heap.size + 2) (BL (.slice a m c) R) W5)) ∧ wx = W5)
  case first =>
    by_cases h0 : m = 0
    · subst h0
      have HB2 : RowKit.Hid (New (w.heap.size + 2) (BL (.slice (some ⟨g, 0, none⟩) 0 0) R) W5) := by
        intro w' hs hb
        have hR0 : R = [] := List.eq_nil_of_length_eq_zero HR.out
        subst hR0
        exact ⟨_, _, rfl, Nat.le_refl _, Nat.zero_le _, (fun h => by cases h), fun i hi => by cases hi⟩
      go_wp2
      go_meet
      exact ⟨rfl, rfl, ⟨_, _, rfl, HB2⟩, rfl⟩
    · have HB2 : RowKit.Hid (New (w.heap.size + 2) (BL (.slice (some ⟨g, 1, none⟩) m m) R) W5) := by
        intro w' hs hb
        have h1 := HBL5.out w' hs (fun i hi => hb i (by omega))
        rw [← HP.out] at h1
        have h2 := bl_tail h1 HP.out
        rw [HRR.out] at h2
        exact h2
      go_wp2
      go_meet
      exact ⟨rfl, rfl, ⟨_, _, rfl, HB2⟩, rfl⟩
  case rest =>
    obtain ⟨rfl, rfl, ⟨a, c, rfl, HBL⟩, hwc⟩ := hcut
    rw [hwc]
    clear hwc hm1 HBL5 HP HRR
    have hN5 := HNF5.out.two
    have hlt5 := HNF5.out.lt
    go_wp2
    go_loopw [28] (fun i wr => ∃ (k : Nat) (ao : Option Addr) (cp : Nat), i = .int .i64 (k : Int) ∧ k ≤ m ∧ RowKit.Hid (∀ j, j < k → R.getD j [] ≠ []) ∧ RowKit.Hid (NF w b W5 (S tag) (S (l.take 2)) (.slice ao k cp) (au : Int) (pcs (R.take k)) wr)) (fun i _ => m - (intOf i).toNat)
    case atStart => exact ⟨0, none, 0, rfl, Nat.zero_le _, (fun j hj => by omega), by rw [List.take_zero]; exact HNF5.out⟩
    case round =>
      obtain ⟨k, ao, cp, rfl, hk, HJ, HN⟩ := hrel
      by_cases hkm : k < m
      · have i1 : (0 : Int) ≤ (k : Int) := by omega
        have i2 : (k : Int) < (m : Int) := by omega
        obtain ⟨a', c', he, hc', hmx, hn', hcell⟩ := HBL.out wr HN.out.size (fun i h1 h2 => HN.out.mid i h1 h2)
        rw [HR.out] at he
        obtain ⟨ha, -, hcp⟩ := Value.slice.inj he
        subst ha hcp
        clear he
        obtain ⟨g', o', rfl, hg', hcl⟩ := hcell k (by rw [HR.out]; exact hkm)
        obtain ⟨p, hp⟩ : ∃ p, R.getD k [] = p := ⟨_, rfl⟩
        rw [hp] at hcl
        unfold strB at hcl
        have HPk := Lib.hid hp
        have hRD : RD wr.heap.size p (wr.alloc (.cells #[.string (S p)] 72)) := heap_alloc_new wr _
        have HNa := Lib.hid (HN.out.alloc (.cells #[.string (S p)] 72))
        have HNe : RowKit.Hid ((Value.slice ao k cp).ownBlock ≠ some wr.heap.size) := by
          intro h
          have := (HN.out.own.lt _ h).2
          omega
        have hsz := HN.out.size
        clear hp hcell hc' hn' hmx
        cases p with
        | nil =>
          have HNone : RowKit.Hid (fldE tag l = none) := by
            unfold RowKit.Hid
            rw [HF.out, subE10_none R k (by rw [HR.out]; exact hkm) HPk.out]
            rfl
          have cN := Lib.hid (next_bad wr.heap.size [] 1 _ hRD (by decide))
          clear hRD
          go_wp2_with fail
          refine cN.out.mono ?_
          rintro e w1 ⟨rfl, hw1⟩
          rw [hw1]
          clear hw1
          go_wp2
          exact ⟨rfl, HQ.out _ _ ⟨HNa.out.exc, .inl ⟨HNone.out, rfl⟩⟩⟩
        | cons x v =>
          have cN := Lib.hid (next_ok wr.heap.size (x :: v) 1 _ hRD (by simp))
          have hRD6 := hRD.set v
          have hN6 := HNa.out.setOther ⟨wr.heap.size, 0, none⟩ (.string (S v)) hsz HNe.out
          rw [show (x :: v).take 1 = [x] from rfl, show (x :: v).drop 1 = v from rfl] at cN
          obtain ⟨xb, hxb⟩ : ∃ xb, wr.heap.size = xb := ⟨_, rfl⟩
          obtain ⟨W6, hW6⟩ : ∃ W6, (wr.alloc (.cells #[.string (S (x :: v))] 72)).setCell ⟨wr.heap.size, 0, none⟩ (.string (S v)) = W6 := ⟨_, rfl⟩
          rw [hW6] at hRD6 hN6 cN
          have hlt6 : xb < W6.heap.size := by rw [← hxb]; exact hRD6.lt
          obtain ⟨rb6, -⟩ := hRD6.cell
          have HJ2 : RowKit.Hid (∀ j, j < k + 1 → R.getD j [] ≠ []) := by
            intro j hj
            rcases Nat.lt_or_ge j k with h | h
            · exact HJ.out j h
            · rw [show j = k by omega, HPk.out]
              intro h
              cases h
          have HSn : RowKit.Hid (pcs (R.take (k + 1)) = pcs (R.take k) ++ [(x, v)]) := by
            unfold RowKit.Hid
            rw [pcs_snoc R k (by rw [HR.out]; exact hkm), HPk.out]
            rfl
          have hpl : (pcs (R.take k)).length = k := by rw [pcs_len, List.length_take, HR.out]; omega
          have bD : Below W6.heap.size W6 W6.drew := ⟨rfl, rfl, rfl, Nat.le_refl _, fun _ _ => rfl⟩
          have hND := hN6.drew
          obtain ⟨⟨f0, f1, f2, f3⟩, ⟨z0, z1, z2, z3⟩, -, -⟩ := hN6.cells
          have hbx : bt (S [x]) 0 = (x.toNat : Int) := by rw [bt_S]; rfl
          have hbs1 : (S [x]).size = 1 := rfl
          have hbt := get_bt (S [x])
          obtain ⟨sx, hsx⟩ : ∃ sx, S [x] = sx := ⟨_, rfl⟩
          rw [hsx] at hbx hbs1 hbt cN
          have f2a : (W6.alloc (.cells #[.int .u8 (bt sx 0), .string (S v)] 46)).cell? ⟨w.heap.size + 1, 2, none⟩ = some (.slice ao k cp) := (World.cell?_alloc_lt W6 _ ⟨w.heap.size + 1, 2, none⟩ (show w.heap.size + 1 < W6.heap.size by have := hN6.two; have := hN6.size; omega)).trans f2
          have hrow := hND.own.alloc (.cells #[.int .u8 (bt sx 0), .string (S v)] 46)
          rw [hpl] at hrow
          have hcl2 := cells_two10 W6.drew (.int .u8 (bt sx 0)) (.string (S v)) 46
          have hbs : W5.heap.size ≤ (W6.drew.alloc (.cells #[.int .u8 (bt sx 0), .string (S v)] 46)).heap.size := by
            have := (hND.alloc (.cells #[.int .u8 (bt sx 0), .string (S v)] 46)).size
            exact this
          have HApp := Lib.hid (fun w3 hg => hND.app (w3 := w3) (.cells #[.int .u8 (bt sx 0), .string (S v)] 46) hg)
          have HSto := Lib.hid (fun w3 v' h1 h2 h3 h4 h5 => NF.store (w := w) (b := b) (W5 := W5) (tg := S tag) (ix := S (l.take 2)) (sv := .slice ao k cp) (au := (au : Int)) (L := pcs (R.take k)) (sv' := v') (w3 := w3) (x := (x, v)) hlt5 hN5 h1 h2 h3 h4 h5)
          rw [hpl] at HSto
          unfold encS at HSto
          simp only at HSto
          rw [← hbx] at HSto
          have HW6 := Lib.hid hW6
          have HXB := Lib.hid hxb
          clear hW6 hRD hRD6 hN6 hND bD HN HNa HNe HJ HPk hpl hbx hsx hlt6 hsz HNF5
          generalize S v = sv6 at *
          rw [hxb] at HW6 cN rb6
          go_wp2_with fail
          refine cN.out.mono ?_
          rintro e w1 ⟨rfl, hw1⟩
          rw [hw1]
          clear hw1 hxb cN HW6 HXB
          go_upto_region 10 with fail
          go_region_law (first
            | (refine step_append_sub _ (by rfl) _ _ (by rfl) W5.heap.size _ k (pcs (R.take k)) (by rfl) hrow (.int .u8 (bt sx 0)) (.string sv6) rfl rfl ⟨W6.heap.size, 0, none⟩ (by rfl) hcl2 (by omega) hbs ?_; intro g3 cap3 w3 hown3 hgrow3; have hA3 := HApp.out w3 hgrow3; have y2 : w3.cell? ⟨w.heap.size + 1, 2, none⟩ = some (.slice ao k cp) := (by rw [Lib.cell_of_heap hA3.1]; rfl); have y3 := Lib.frozen_of_heap hA3.1 2; have HA3 := Lib.hid hA3; have HO3 := Lib.hid hown3; clear hA3 hown3 hgrow3))
          all_goals
            have HO4 := Lib.hid (HSto.out w3 _ HA3.out.1 HA3.out.2.1 HA3.out.2.2.1 HA3.out.2.2.2 HO3.out)
            rw [← HSn.out] at HO4
            clear HA3 HO3 HSto HApp hrow hcl2 hbs f0 f1 f2 f3 f2a z0 z1 z2 z3 rb6
            go_wp2
            go_roundw
            case rel => exact ⟨k + 1, _, _, by go_num, by omega, HJ2, HO4⟩
            case measure => simp [intOf]; omega
      · obtain rfl : k = m := by omega
        have HSome : RowKit.Hid (fldE tag l = some ⟨tag, l.take 2, pcs R, (au : Int)⟩) := by
          unfold RowKit.Hid
          rw [HF.out, subE10_some R (fun j hj => HJ.out j (by rw [HR.out] at hj; exact hj))]
          rfl
        have hNk := HN.out
        rw [show R.take k = R by rw [← HR.out, List.take_length]] at hNk
        obtain ⟨⟨f0, f1, f2, f3⟩, -, ⟨r0, r1, r2, r3⟩, ⟨z0, z1, z2, z3⟩⟩ := hNk.cells
        obtain ⟨hfin, hnew, hexc⟩ := hNk.ret
        clear HN hNk HNF5 HJ
        go_wp2
        refine bodyPost_ret (results_cell_row rfl _ _ w.heap.size _ _ _ _ rfl hfin.out Tryd.underlying49 rfl (by kernel_rfl)) rfl ?_
        exact HQ.out _ _ ⟨hexc.out, .inr ⟨_, _, HSome.out, rfl, hnew.out⟩⟩
end

section
open Go.RowKit
theorem append_block {P : Program} (w : World) (base : Nat) (t ty e : TypeId) (i : TypeInfo) (z : Value) (size bytes : Nat) (ht : P.underlying t = some (.slice e)) (hi : P.info? e = some i) (hz : i.zero = some z)
    (hsize : i.size = size) (hby : i.bytes = bytes) (v : Value) (n : Nat) (xs : List Value) (hown : w.ownsRow base e size v n xs)
    (a : Addr) (m c : Nat) (news : List Value) (hl : news.length = m * size) (hnews : ∀ j u, news[j]? = some u → w.cell? (a.add j) = some u) (h1 : ∀ u ∈ news, u.oneCell' = true) (hm : 0 < m)
    (h63 : n + m ≤ maxLen) (hbytes : (n + m) * bytes ≤ 140737488355328) (v' : Value) (w' : World) (hr : (Builtin.append_ #[t, t] ty #[v, .slice (some a) m c]).run P w = .ok v' w') :
    v'.ownBlock = v.ownBlock ∨ v'.ownBlock = some w.heap.size := by
  subst hsize
  subst hby
  have hsmall : n + m ≤ 9223372036854775807 := by simp only [maxLen] at h63; omega
  rcases hown.2 with ⟨rfl, rfl⟩ | ⟨g, cap, cur, rfl, hbg, hg, hnc, hcm, hcs, htake⟩
  · have h2 := run_append_nil (P := P) w t ty e i z ht hi hz a m c news hl hnews hm (by omega) (by have hb := hbytes; simp only [Nat.zero_add] at hb; omega)
    rw [hr] at h2
    injection h2 with h3 h4
    rw [h3]
    exact .inr rfl
  · by_cases hroom : n + m ≤ cap
    · have hfit : n * i.size + news.length ≤ cur.size := by rw [hl, hcs, ← Nat.add_mul]; exact Nat.mul_le_mul_right _ hroom
      have h2 := run_append_room (P := P) w t ty e i ht hi g n cap cur hg a m c news hl hnews h1 hroom hfit
      rw [hr] at h2
      injection h2 with h3 h4
      rw [h3]
      exact .inl rfl
    · have h2 := run_append_grow (P := P) w t ty e i z ht hi hz ⟨g, 0, none⟩ n cap xs hown.1 (hown.cells (g := g) rfl) a m c news hl hnews (by omega) (by omega) (growslice_fits (by omega) hbytes)
      rw [hr] at h2
      injection h2 with h3 h4
      rw [h3]
      exact .inr rfl

theorem wpList_append_two {P : Program} (w : World) {ops : Array Oper} {rest : List Oper} {o : Oper} {a : Act} {Q : Exit → Act → World → Prop} (hgd : o.guard = none) (s x : Operand) (t : TypeId)
    (ho : o.op = .call { callee := .builtin .append, args := #[s, x], argTypes := #[t, t] })
    (base : Nat) (e : TypeId) (i : TypeInfo) (z : Value) (size bytes : Nat) (ht : P.underlying t = some (.slice e)) (hi : P.info? e = some i) (hz : i.zero = some z)
    (hsize : i.size = size) (hby : i.bytes = bytes) (hzs : z.cells.size = size) (hsz : 0 < size)
    (v : Value) (n : Nat) (xs : List Value) (hs : a.eval s = v) (hown : w.ownsRow base e size v n xs)
    (ad : Addr) (m c : Nat) (news : List Value) (hx : a.eval x = .slice (some ad) m c) (hl : news.length = m * size) (hnews : ∀ j u, news[j]? = some u → w.cell? (ad.add j) = some u) (h1 : ∀ u ∈ news, u.oneCell' = true) (hm : 0 < m)
    (h63 : n + m ≤ maxLen) (hbytes : (n + m) * bytes ≤ 140737488355328) (hbase : base ≤ w.heap.size)
    (h : ∀ v' w', w'.ownsRow base e size v' (n + m) (xs ++ news) → w.grownBy w' v.ownBlock → v' ≠ .slice none 0 0 → (v'.ownBlock = v.ownBlock ∨ v'.ownBlock = some w.heap.size) → wpList P ops Q rest (a.put o.dst v') w') : wpList P ops Q (o :: rest) a w :=
  wpList_plain hgd fun K hK => by
    obtain ⟨v', w', hr, h2, h3, h4⟩ := run_append_own (P := P) w base t o.type e i z size bytes ht hi hz hsize hby hzs hsz v n xs hown ad m c news hl hnews h1 h63 hbytes hbase
    have h5 := append_block w base t o.type e i z size bytes ht hi hz hsize hby v n xs hown ad m c news hl hnews h1 hm h63 hbytes v' w' hr
    have h6 : K (a.put o.dst v') w' := hK _ _ (h v' w' h2 h3 (fun he => by have := (h4.1 he).2; omega) h5)
    unfold Oper.wp execOp
    simp only [ho, resolve, invoke, builtin, Sem.run_bind, Sem.run_pure, Result.andThen_ok, List.map_toArray, List.map_cons, List.map_nil, hs, hx, hr]
    exact h6

/-- Another row stays where it is, and apart. -/
theorem own_apart {w w' : World} {base2 e2 size2 n2 : Nat} {v v' u : Value} {ys : List Value} (hu : w.ownsRow base2 e2 size2 u n2 ys) (hg : w.grownBy w' v.ownBlock)
    (hne : u.ownBlock = none ∨ u.ownBlock ≠ v.ownBlock) (hb : v'.ownBlock = v.ownBlock ∨ v'.ownBlock = some w.heap.size) :
    w'.ownsRow base2 e2 size2 u n2 ys ∧ (u.ownBlock = none ∨ u.ownBlock ≠ v'.ownBlock) := by
  refine ⟨hu.kept hg hne, ?_⟩
  rcases hne with h | h
  · exact .inl h
  · rcases hb with h2 | h2
    · exact .inr (by rw [h2]; exact h)
    · refine .inr fun h3 => ?_
      have := (hu.lt _ (h3.trans h2)).2
      omega
end

end Go.Proofs.YtiledacfdaenbaaDoor
