/- The statements FieldPrints of layer 7 over this translation: it returns true. -/
import Derived.Test.YtjajihemcaihmaaDoorAlive07
namespace Go.Proofs.YtjajihemcaihmaaDoor
open Go.RowKit Go.PlainAid

/-- A field in its box. -/
structure FB (b : Nat) (f : Fld) (u : Value) (W : World) : Prop where
  bx : W.heap[b]? = some (.cells #[.string (S f.tag), .string (S f.ind), u, .int .i64 f.auth] 24 (0, 0))
  q : QL u f.subs W
  e : Env W
theorem FB.lt {b : Nat} {f : Fld} {u : Value} {W : World} (h : FB b f u W) : b < W.heap.size := (Array.getElem?_eq_some_iff.1 h.bx).1
theorem FB.after {b : Nat} {f : Fld} {u : Value} {W W' : World} (h : FB b f u W) (hb : Below W.heap.size W W') : FB b f u W' := ⟨(hb.block _ h.lt).trans h.bx, h.q.after hb, h.e.after hb⟩
theorem FB.new {f : Fld} {u : Value} {w : World} (hE : Env w) (h : QL u f.subs w) : FB w.heap.size f u (w.alloc (.cells #[.string (S f.tag), .string (S f.ind), u, .int .i64 f.auth] 24)) :=
  ⟨heap_alloc_new w _, h.after ((Below.refl w.heap.size w).alloc (Nat.le_refl _) _), hE.after ((Below.refl w.heap.size w).alloc (Nat.le_refl _) _)⟩
theorem FB.cells {b : Nat} {f : Fld} {u : Value} {W : World} (h : FB b f u W) : W.cell? ⟨b, 0, none⟩ = some (.string (S f.tag)) ∧ W.cell? ⟨b, 1, none⟩ = some (.string (S f.ind)) ∧ W.cell? ⟨b, 2, none⟩ = some u ∧ W.cell? ⟨b, 3, none⟩ = some (.int .i64 f.auth) := (field_cells h.bx).1
theorem small_le (f : Fld) (h : smallB f = true) : ∀ i, i < f.subs.length → (f.subs.getD i sub0).2.length ≤ 1000 := fun i hi => by
  have := (small_of f h).2.2.2 i hi
  omega

set_option maxHeartbeats 16000000 in
set_option maxRecDepth 100000 in
theorem lawPrints_any (f : Fld) (u : Value) (w : World) (hE : Env w) (hu : QL u f.subs w) :
    Calls Tryd.prog 6 #[FV f u] w fun e w' => e = .returned (.bool true) ∧ Below w.heap.size w w' := by
  have c0 := Lib.hid (fun W hE => alive_any W hE)
  have hB0 := FB.new hE hu
  have b0 : Below w.heap.size w (w.alloc (.cells #[.string (S f.tag), .string (S f.ind), u, .int .i64 f.auth] 24)) := (Below.refl w.heap.size w).alloc (Nat.le_refl _) _
  obtain ⟨a, cap, rfl, _, _⟩ := hu.length
  unfold FV
  generalize f.subs.length = n at *
  clear hu hE
  cases hs : smallB f
  · have c1 := Lib.hid (fun W (h : FB w.heap.size f (.slice a n cap) W) => small_any f _ W h.q false hs)
    unfold FV at c1
    go_enter Tryd.func6, Tryd.ntmps6
    go_wp2_with fail
    refine (c0.out _ hB0.e).mono ?_
    rintro e w1 ⟨rfl, c⟩
    have b1 := b0.trans (c.mono b0.size)
    have hB1 := hB0.after c
    clear c b0 hB0
    obtain ⟨k0, k1, k2, k3⟩ := hB1.cells
    go_wp2_with fail
    refine (c1.out _ hB1).mono ?_
    rintro e w2 ⟨rfl, c⟩
    have b2 := b1.trans (c.mono b1.size)
    clear c b1 k0 k1 k2 k3
    go_wp2
    go_ret
    exact ⟨rfl, b2⟩
  · have c1 := Lib.hid (fun W (h : FB w.heap.size f (.slice a n cap) W) => small_any f _ W h.q true hs)
    obtain ⟨⟨r, er⟩, hpr⟩ : ∃ p, printR f = p := ⟨_, rfl⟩
    have hle := small_le f hs
    have c2 := Lib.hid (fun W (h : FB w.heap.size f (.slice a n cap) W) => pPrint f _ W h.e h.q hle r er hpr)
    have c3 := Lib.hid (fun W (h : FB w.heap.size f (.slice a n cap) W) => refPrint_any f _ W h.q (fun i hi => by have := hle i hi; omega) r er hpr)
    unfold FV at c1 c2 c3
    clear hle hs hpr
    generalize S r = sr at *
    go_enter Tryd.func6, Tryd.ntmps6
    go_wp2_with fail
    refine (c0.out _ hB0.e).mono ?_
    rintro e w1 ⟨rfl, c⟩
    have b1 := b0.trans (c.mono b0.size)
    have hB1 := hB0.after c
    clear c b0 hB0
    obtain ⟨k0, k1, k2, k3⟩ := hB1.cells
    go_wp2_with fail
    refine (c1.out _ hB1).mono ?_
    rintro e w2 ⟨rfl, c⟩
    have b2 := b1.trans (c.mono b1.size)
    have hB2 := hB1.after c
    clear c b1 k0 k1 k2 k3 hB1
    obtain ⟨k0, k1, k2, k3⟩ := hB2.cells
    go_wp2_with fail
    refine (c2.out _ hB2).mono ?_
    rintro e w3 ⟨rfl, c⟩
    have b3 := b2.trans (c.mono b2.size)
    have hB3 := hB2.after c
    clear c b2 k0 k1 k2 k3 hB2
    obtain ⟨k0, k1, k2, k3⟩ := hB3.cells
    go_wp2_with fail
    refine (c3.out _ hB3).mono ?_
    rintro e w4 ⟨rfl, c⟩
    have b4 := b3.trans (c.mono b3.size)
    clear c b3 k0 k1 k2 k3 hB3
    go_wp2
    go_ret
    exact ⟨rfl, b4⟩

end Go.Proofs.YtjajihemcaihmaaDoor
