/- The statements DigestSums, DigestRight, DigestRoots, DigestProofs of layer 6 over this translation: they return true. -/
import Derived.Test.YtdaoccmhehekaaaDoorAlive06
namespace Go.Proofs.YtdaoccmhehekaaaDoor
open Go.RowKit Go.PlainAid

set_option maxHeartbeats 8000000 in
theorem lawSums_any (s t : ByteArray) (w : World) :
    Calls Tryd.prog 3 #[.string s, .string t] w fun e w' => e = .returned (.bool true) ∧ Below w.heap.size w w' := by
  obtain ⟨a, rfl⟩ : ∃ l, S l = s := ⟨s.data.toList, rfl⟩
  obtain ⟨b, rfl⟩ : ∃ l, S l = t := ⟨t.data.toList, rfl⟩
  have c0 := Lib.hid (fun W (hW : Below w.heap.size w W) => alive_any W)
  have b0 := Below.refl w.heap.size w
  have za := S_size a
  have zb := S_size b
  by_cases h1 : 2000 < a.length
  · have d1 : decide ((2000 : Int) < (a.length : Int)) = true := by simp; omega
    generalize S a = s at *
    generalize S b = t at *
    generalize a.length = n at *
    generalize b.length = m at *
    go_enter Tryd.func3, Tryd.ntmps3
    go_wp2_with fail
    refine (c0.out _ (by assumption)).mono ?_
    rintro e w1 ⟨rfl, c⟩
    have b1 := b0.trans (c.mono b0.size)
    clear c b0
    go_wp2
    go_ret
    exact ⟨rfl, b1⟩
  have d1 : decide ((2000 : Int) < (a.length : Int)) = false := by simp; omega
  by_cases h2 : 2000 < b.length
  · have d2 : decide ((2000 : Int) < (b.length : Int)) = true := by simp; omega
    generalize S a = s at *
    generalize S b = t at *
    generalize a.length = n at *
    generalize b.length = m at *
    go_enter Tryd.func3, Tryd.ntmps3
    go_wp2_with fail
    refine (c0.out _ (by assumption)).mono ?_
    rintro e w1 ⟨rfl, c⟩
    have b1 := b0.trans (c.mono b0.size)
    clear c b0
    go_wp2
    go_ret
    exact ⟨rfl, b1⟩
  have d2 : decide ((2000 : Int) < (b.length : Int)) = false := by simp; omega
  have c1 := Lib.hid (fun W (hW : Below w.heap.size w W) => pSum a (by omega) W)
  have c2 := Lib.hid (fun W (hW : Below w.heap.size w W) => pJoin a b (by omega) (by omega) W)
  have c3 := Lib.hid (fun W (hW : Below w.heap.size w W) => refSum_any a (by omega) W)
  have c4 := Lib.hid (fun W (hW : Below w.heap.size w W) => refJoin_any a b (by omega) (by omega) W)
  have c5 := Lib.hid (fun W (hW : Below w.heap.size w W) => pRight (sumL a) true (sumL_right a) W)
  have c6 := Lib.hid (fun W (hW : Below w.heap.size w W) => pRight (joinL a b) true (sumL_right _) W)
  generalize S (sumL a) = x at *
  generalize S (joinL a b) = y at *
  generalize S a = s at *
  generalize S b = t at *
  generalize a.length = n at *
  generalize b.length = m at *
  go_enter Tryd.func3, Tryd.ntmps3
  go_wp2_with fail
  refine (c0.out _ (by assumption)).mono ?_
  rintro e w1 ⟨rfl, c⟩
  have b1 := b0.trans (c.mono b0.size)
  clear c b0
  go_wp2_with fail
  refine (c1.out _ (by assumption)).mono ?_
  rintro e w2 ⟨rfl, c⟩
  have b2 := b1.trans (c.mono b1.size)
  clear c b1
  go_wp2_with fail
  refine (c2.out _ (by assumption)).mono ?_
  rintro e w3 ⟨rfl, c⟩
  have b3 := b2.trans (c.mono b2.size)
  clear c b2
  go_wp2_with fail
  refine (c3.out _ (by assumption)).mono ?_
  rintro e w4 ⟨rfl, c⟩
  have b4 := b3.trans (c.mono b3.size)
  clear c b3
  go_wp2_with fail
  refine (c4.out _ (by assumption)).mono ?_
  rintro e w5 ⟨rfl, c⟩
  have b5 := b4.trans (c.mono b4.size)
  clear c b4
  go_wp2_with fail
  refine (c5.out _ (by assumption)).mono ?_
  rintro e w6 ⟨rfl, c⟩
  have b6 := b5.trans (c.mono b5.size)
  clear c b5
  go_wp2_with fail
  refine (c6.out _ (by assumption)).mono ?_
  rintro e w7 ⟨rfl, c⟩
  have b7 := b6.trans (c.mono b6.size)
  clear c b6
  go_wp2
  go_ret
  exact ⟨rfl, b7⟩

set_option maxHeartbeats 8000000 in
theorem lawRight_any (d : ByteArray) (w : World) :
    Calls Tryd.prog 4 #[.string d] w fun e w' => e = .returned (.bool true) ∧ Below w.heap.size w w' := by
  obtain ⟨a, rfl⟩ : ∃ l, S l = d := ⟨d.data.toList, rfl⟩
  have c0 := Lib.hid (fun W (hW : Below w.heap.size w W) => alive_any W)
  have b0 := Below.refl w.heap.size w
  have c1 := Lib.hid (fun W (hW : Below w.heap.size w W) => pRight a _ rfl W)
  have c2 := Lib.hid (fun W (hW : Below w.heap.size w W) => (refRight_any a _ rfl W).mono fun e w' hh => (⟨hh.1, by rw [hh.2]; exact Below.refl _ _⟩ : e = _ ∧ Below W.heap.size W w'))
  generalize rightB a = b at *
  generalize S a = s at *
  go_enter Tryd.func4, Tryd.ntmps4
  go_wp2_with fail
  refine (c0.out _ (by assumption)).mono ?_
  rintro e w1 ⟨rfl, c⟩
  have b1 := b0.trans (c.mono b0.size)
  clear c b0
  go_wp2_with fail
  refine (c1.out _ (by assumption)).mono ?_
  rintro e w2 ⟨rfl, c⟩
  have b2 := b1.trans (c.mono b1.size)
  clear c b1
  go_wp2_with fail
  refine (c2.out _ (by assumption)).mono ?_
  rintro e w3 ⟨rfl, c⟩
  have b3 := b2.trans (c.mono b2.size)
  clear c b2
  go_wp2
  go_ret
  exact ⟨rfl, b3⟩

/-- Small, with the world as it was. -/
theorem small_call (L : List (List UInt8)) (v : Value) (w : World) (hv : BL v L w) (b : Bool) (hb : smallB L = b) :
    Calls Tryd.prog 17 #[v] w fun e w' => e = .returned (.bool b) ∧ Below w.heap.size w w' :=
  (refSmall_any L v w hv b hb).mono fun e w' hh => ⟨hh.1, by rw [hh.2]; exact Below.refl _ _⟩

set_option maxHeartbeats 8000000 in
theorem lawRoots_any (v : Value) (L : List (List UInt8)) (w : World) (hv : BL v L w) :
    Calls Tryd.prog 5 #[v] w fun e w' => e = .returned (.bool true) ∧ Below w.heap.size w w' := by
  have c0 := Lib.hid (fun W (hW : Below w.heap.size w W) => alive_any W)
  have b0 := Below.refl w.heap.size w
  cases hs : smallB L
  · have c1 := Lib.hid (fun W (hW : BL v L W) => small_call L v W hW false hs)
    clear hs
    go_enter Tryd.func5, Tryd.ntmps5
    go_wp2_with fail
    refine (c0.out _ (by assumption)).mono ?_
    rintro e w1 ⟨rfl, c⟩
    have b1 := b0.trans (c.mono b0.size)
    replace hv := hv.after c
    clear c b0
    go_wp2_with fail
    refine (c1.out _ hv).mono ?_
    rintro e w2 ⟨rfl, c⟩
    have b2 := b1.trans (c.mono b1.size)
    clear c b1
    go_wp2
    go_ret
    exact ⟨rfl, b2⟩
  · obtain ⟨h60, h1000⟩ := small_of L hs
    have c1 := Lib.hid (fun W (hW : BL v L W) => small_call L v W hW true hs)
    have c2 := Lib.hid (fun W (hW : BL v L W) => pRoot L h60 h1000 v W hW)
    have c3 := Lib.hid (fun W (hW : BL v L W) => refRoot_any L (by omega) (fun i hi => by have := h1000 i hi; omega) v W hW)
    clear hs h1000
    generalize S (rootL L) = x at *
    go_enter Tryd.func5, Tryd.ntmps5
    go_wp2_with fail
    refine (c0.out _ (by assumption)).mono ?_
    rintro e w1 ⟨rfl, c⟩
    have b1 := b0.trans (c.mono b0.size)
    replace hv := hv.after c
    clear c b0
    go_wp2_with fail
    refine (c1.out _ hv).mono ?_
    rintro e w2 ⟨rfl, c⟩
    have b2 := b1.trans (c.mono b1.size)
    replace hv := hv.after c
    clear c b1
    go_wp2_with fail
    refine (c2.out _ hv).mono ?_
    rintro e w3 ⟨rfl, c⟩
    have b3 := b2.trans (c.mono b2.size)
    replace hv := hv.after c
    clear c b2
    go_wp2_with fail
    refine (c3.out _ hv).mono ?_
    rintro e w4 ⟨rfl, c⟩
    have b4 := b3.trans (c.mono b3.size)
    clear c b3
    go_wp2
    go_ret
    exact ⟨rfl, b4⟩

set_option maxHeartbeats 8000000 in
theorem lawProofs_any (v : Value) (L : List (List UInt8)) (i : Int) (w : World) (hv : BL v L w) :
    Calls Tryd.prog 6 #[v, .int .i64 i] w fun e w' => e = .returned (.bool true) ∧ Below w.heap.size w w' := by
  have c0 := Lib.hid (fun W (hW : Below w.heap.size w W) => alive_any W)
  have b0 := Below.refl w.heap.size w
  cases hs : smallB L
  · have c1 := Lib.hid (fun W (hW : BL v L W) => small_call L v W hW false hs)
    clear hs
    go_enter Tryd.func6, Tryd.ntmps6
    go_wp2_with fail
    refine (c0.out _ (by assumption)).mono ?_
    rintro e w1 ⟨rfl, c⟩
    have b1 := b0.trans (c.mono b0.size)
    replace hv := hv.after c
    clear c b0
    go_wp2_with fail
    refine (c1.out _ hv).mono ?_
    rintro e w2 ⟨rfl, c⟩
    have b2 := b1.trans (c.mono b1.size)
    clear c b1
    go_wp2
    go_ret
    exact ⟨rfl, b2⟩
  · obtain ⟨h60, h1000⟩ := small_of L hs
    have c1 := Lib.hid (fun W (hW : BL v L W) => small_call L v W hW true hs)
    obtain ⟨⟨r, er⟩, h⟩ : ∃ x, proofI L i = x := ⟨_, rfl⟩
    have c2 := Lib.hid (fun W (hW : BL v L W) => pProof L h60 h1000 i v W hW r er h)
    have c3 := Lib.hid (fun W (hW : BL v L W) => refProof_any L (by omega) (fun i hi => by have := h1000 i hi; omega) i v W hW r er h)
    have c4 := Lib.hid (fun va vb W (hA : BL va r W) (hB : BL vb r W) => refSame_any r r va vb W hA hB true (decide_eq_true rfl))
    clear hs h1000 h
    go_enter Tryd.func6, Tryd.ntmps6
    go_wp2_with fail
    refine (c0.out _ (by assumption)).mono ?_
    rintro e w1 ⟨rfl, c⟩
    have b1 := b0.trans (c.mono b0.size)
    replace hv := hv.after c
    clear c b0
    go_wp2_with fail
    refine (c1.out _ hv).mono ?_
    rintro e w2 ⟨rfl, c⟩
    have b2 := b1.trans (c.mono b1.size)
    replace hv := hv.after c
    clear c b1
    go_wp2_with fail
    refine (c2.out _ hv).mono ?_
    rintro e w3 ⟨v2, rfl, h2, c⟩
    have b3 := b2.trans (c.mono b2.size)
    replace hv := hv.after c
    clear c b2
    go_wp2_with fail
    refine (c3.out _ hv).mono ?_
    rintro e w4 ⟨v3, rfl, h3, c⟩
    have b4 := b3.trans (c.mono b3.size)
    replace h2 := h2.after c
    clear c b3
    go_wp2_with fail
    refine (c4.out _ _ _ h2 h3).mono ?_
    rintro e w5 ⟨rfl, c⟩
    have b5 := b4.trans (c.mono b4.size)
    clear c b4
    go_wp2
    go_ret
    exact ⟨rfl, b5⟩
end Go.Proofs.YtdaoccmhehekaaaDoor
