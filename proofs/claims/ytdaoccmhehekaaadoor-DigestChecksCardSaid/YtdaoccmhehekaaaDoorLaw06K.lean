/- The statement DigestChecks of layer 6 over this translation: it returns true. -/
import Derived.Test.YtdaoccmhehekaaaDoorLaw06
import Derived.Deep.RegionHeld3
namespace Go.Proofs.YtdaoccmhehekaaaDoor
open Go.RowKit Go.PlainAid

/-- All that lay in w lies still. -/
def Sees (w w' : World) : Prop := Below w.heap.size w w'
theorem Sees.self (w : World) : Sees w w := Below.refl _ _
theorem Sees.after {w w1 w2 : World} (h : Sees w w1) (hb : Below w1.heap.size w1 w2) : Sees w w2 := Below.trans h (hb.mono h.size)
theorem Sees_drew (w w' : World) : Sees w w'.drew ↔ Sees w w' :=
  ⟨fun h => ⟨h.os, h.tape, h.output, h.size, h.block⟩, fun h => ⟨h.os, h.tape, h.output, h.size, h.block⟩⟩
/-- The fields of a claim in its box. -/
def Box (b : Nat) (root leaf : ByteArray) (i n : Int) (v : Value) (w : World) : Prop :=
  b < w.heap.size ∧ w.cell? ⟨b, 0, none⟩ = some (.string root) ∧ w.cell? ⟨b, 1, none⟩ = some (.string leaf) ∧ w.cell? ⟨b, 2, none⟩ = some (.int .i64 i) ∧ w.cell? ⟨b, 3, none⟩ = some (.int .i64 n) ∧ w.cell? ⟨b, 4, none⟩ = some v
theorem Box.after {b : Nat} {root leaf : ByteArray} {i n : Int} {v : Value} {w w' : World} (h : Box b root leaf i n v w) (hb : Below w.heap.size w w') : Box b root leaf i n v w' := by
  obtain ⟨h0, h1, h2, h3, h4, h5⟩ := h
  exact ⟨Nat.lt_of_lt_of_le h0 hb.size, (hb.cell (p := ⟨b, 0, none⟩) h0).trans h1, (hb.cell (p := ⟨b, 1, none⟩) h0).trans h2, (hb.cell (p := ⟨b, 2, none⟩) h0).trans h3, (hb.cell (p := ⟨b, 3, none⟩) h0).trans h4, (hb.cell (p := ⟨b, 4, none⟩) h0).trans h5⟩

set_option maxHeartbeats 16000000 in
theorem lawChecks_any (root leaf : ByteArray) (i n : Int) (v : Value) (L : List (List UInt8)) (w : World) (hv : BL v L w) :
    Calls Tryd.prog 7 #[.agg #[.string root, .string leaf, .int .i64 i, .int .i64 n, v]] w fun e w' => e = .returned (.bool true) ∧ Below w.heap.size w w' := by
  have c0 := Lib.hid (fun W (hW : Below w.heap.size w W) => alive_any W)
  have b0 := (Below.refl w.heap.size w).alloc (Nat.le_refl _) (.cells #[.string root, .string leaf, .int .i64 i, .int .i64 n, v] 36)
  have hv0 := hv.after b0
  obtain ⟨a, cap, rfl, _, _⟩ := hv.length
  have hB0 : Box w.heap.size root leaf i n (.slice a L.length cap) (w.alloc (.cells #[.string root, .string leaf, .int .i64 i, .int .i64 n, .slice a L.length cap] 36)) := by
    refine ⟨by simp, ?_, ?_, ?_, ?_, ?_⟩ <;> simp
  clear hv
  cases hs : smallB L
  · have c1 := Lib.hid (fun W (hW : BL (.slice a L.length cap) L W) => small_call L _ W hW false hs)
    clear hs
    generalize L.length = m at *
    go_enter Tryd.func7, Tryd.ntmps7
    go_wp2_with fail
    refine (c0.out _ b0).mono ?_
    rintro e w1 ⟨rfl, c⟩
    have b1 := b0.trans (c.mono b0.size)
    have hv1 := hv0.after c
    obtain ⟨hlt, k0, k1, k2, k3, k4⟩ := hB0.after c
    clear c b0 hv0 hB0
    go_wp2_with fail
    refine (c1.out _ hv1).mono ?_
    rintro e w2 ⟨rfl, c⟩
    have b2 := b1.trans (c.mono b1.size)
    clear c b1 hv1 k0 k1 k2 k3 k4
    go_wp2
    go_ret
    exact ⟨rfl, b2⟩
  · obtain ⟨h60, h1000⟩ := small_of L hs
    have c1 := Lib.hid (fun W (hW : BL (.slice a L.length cap) L W) => small_call L _ W hW true hs)
    obtain ⟨rt, rfl⟩ : ∃ l, S l = root := ⟨root.data.toList, rfl⟩
    obtain ⟨lf, rfl⟩ : ∃ l, S l = leaf := ⟨leaf.data.toList, rfl⟩
    have zl := S_size lf
    by_cases hlf : 1000 < lf.length
    · have d1 : decide ((1000 : Int) < (lf.length : Int)) = true := by simp; omega
      clear hs h1000
      generalize L.length = m at *
      generalize lf.length = q at *
      generalize S lf = leaf at *
      generalize S rt = root at *
      go_enter Tryd.func7, Tryd.ntmps7
      go_wp2_with fail
      refine (c0.out _ b0).mono ?_
      rintro e w1 ⟨rfl, c⟩
      have b1 := b0.trans (c.mono b0.size)
      have hv1 := hv0.after c
      have hB1 := hB0.after c
      obtain ⟨hlt, k0, k1, k2, k3, k4⟩ := hB1
      clear c b0 hv0 hB0
      go_wp2_with fail
      refine (c1.out _ hv1).mono ?_
      rintro e w2 ⟨rfl, c⟩
      have b2 := b1.trans (c.mono b1.size)
      obtain ⟨hlt2, j0, j1, j2, j3, j4⟩ := Box.after ⟨hlt, k0, k1, k2, k3, k4⟩ c
      clear c b1 hv1 k0 k1 k2 k3 k4
      go_wp2
      go_ret
      exact ⟨rfl, b2⟩
    · have d1 : decide ((1000 : Int) < (lf.length : Int)) = false := by simp; omega
      obtain ⟨bb, hbb⟩ : ∃ x, checkB rt lf i n L = x := ⟨_, rfl⟩
      have c2 := Lib.hid (fun W (hW : BL (.slice a L.length cap) L W) => pCheck rt lf (by omega) i n L (by omega) h1000 _ W hW bb hbb)
      have c3 := Lib.hid (fun W (hW : BL (.slice a L.length cap) L W) => refCheck_any rt lf (by omega) i n L (by omega) (fun i hi => by have := h1000 i hi; omega) _ W hW bb hbb)
      clear hs h1000 hbb
      generalize L.length = m at *
      generalize lf.length = q at *
      generalize S lf = leaf at *
      generalize S rt = root at *
      go_enter Tryd.func7, Tryd.ntmps7
      go_wp2_with fail
      refine (c0.out _ b0).mono ?_
      rintro e w1 ⟨rfl, c⟩
      have b1 := b0.trans (c.mono b0.size)
      have hv1 := hv0.after c
      obtain ⟨hlt, k0, k1, k2, k3, k4⟩ := hB0.after c
      clear c b0 hv0 hB0
      go_wp2_with fail
      refine (c1.out _ hv1).mono ?_
      rintro e w2 ⟨rfl, c⟩
      have b2 := b1.trans (c.mono b1.size)
      have hv2 := hv1.after c
      have hB2 := Box.after ⟨hlt, k0, k1, k2, k3, k4⟩ c
      have HB2 := Lib.hid hB2
      obtain ⟨hlt2, j0, j1, j2, j3, j4⟩ := hB2
      clear c b1 hv1 k0 k1 k2 k3 k4 hlt
      have hse := Sees.self w2
      have hkeep : ∀ W W', Sees w2 W → Below W.heap.size W W' → W'.cell? ⟨w.heap.size, 0, none⟩ = some (.string root) ∧ W'.cell? ⟨w.heap.size, 1, none⟩ = some (.string leaf) ∧ W'.cell? ⟨w.heap.size, 2, none⟩ = some (.int .i64 i) ∧ W'.cell? ⟨w.heap.size, 3, none⟩ = some (.int .i64 n) ∧ W'.cell? ⟨w.heap.size, 4, none⟩ = some (.slice a m cap) ∧ Sees w2 W' := by
        intro W W' hs hW
        have h := HB2.out.after (hs.after hW)
        exact ⟨h.2.1, h.2.2.1, h.2.2.2.1, h.2.2.2.2.1, h.2.2.2.2.2, hs.after hW⟩
      have C2 := Lib.hid (fun W (h : Sees w2 W) => (c2.out W (hv2.after h)).mono fun e w' hh => And.intro hh.1 (hkeep W w' h hh.2))
      have C3 := Lib.hid (fun W (h : Sees w2 W) => (c3.out W (hv2.after h)).mono fun e w' hh => And.intro hh.1 (hkeep W w' h hh.2))
      have Fin := Lib.hid (fun W (h : Sees w2 W) => b2.trans (Below.mono h b2.size))
      clear hkeep b2 hv2
      go_wp2
      generalize hbe : w.heap.size = b at *
      have HBE := Lib.hid hbe
      clear hbe
      go_region_held3 (fun w' => w'.cell? ⟨b, 0, none⟩ = some (.string root) ∧ w'.cell? ⟨b, 1, none⟩ = some (.string leaf) ∧ w'.cell? ⟨b, 2, none⟩ = some (.int .i64 i) ∧ w'.cell? ⟨b, 3, none⟩ = some (.int .i64 n) ∧ w'.cell? ⟨b, 4, none⟩ = some (.slice a m cap) ∧ Sees w2 w') (simp [*, Sees_drew])
        (first
          | (go_at_call 23; refine (C2.out _ ?_).mono ?_; (first | assumption | (rw [Sees_drew]; assumption)); rintro e w' ⟨rfl, g0, g1, g2, g3, g4, hse2⟩)
          | (go_at_call 24; refine (C3.out _ ?_).mono ?_; (first | assumption | (rw [Sees_drew]; assumption)); rintro e w' ⟨rfl, g0, g1, g2, g3, g4, hse2⟩))
      all_goals
        go_wp2
        go_ret
        first
          | exact ⟨rfl, by rw [HBE.out]; exact Fin.out _ hse2⟩
          | exact ⟨rfl, by rw [HBE.out]; exact Fin.out _ ((Sees_drew _ _).1 hse2)⟩
          | exact ⟨rfl, by rw [HBE.out]; exact Fin.out _ ((Sees_drew _ _).2 hse2)⟩
end Go.Proofs.YtdaoccmhehekaaaDoor
