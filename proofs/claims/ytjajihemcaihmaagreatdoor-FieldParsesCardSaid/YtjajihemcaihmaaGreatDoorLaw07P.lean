/- The statement FieldParses of layer 7 over this translation: it returns true. -/
import Derived.Test.YtjajihemcaihmaaGreatDoorLA07
import Derived.Test.YtjajihemcaihmaaGreatDoorR07P
namespace Go.Proofs.YtjajihemcaihmaaGreatDoor
open Go.RowKit Go.PlainAid

set_option maxHeartbeats 16000000 in
set_option maxRecDepth 100000 in
theorem lawParses_any (st : ByteArray) (w : World) (hE : Env w) :
    Calls Tryz.prog 3 #[.string st] w fun e w' => e = .returned (.bool true) ∧ Below w.heap.size w w' := by
  have c0 := Lib.hid (fun W hE => alive_any W hE)
  have b0 := Below.refl w.heap.size w
  obtain ⟨l, rfl⟩ : ∃ l, S l = st := ⟨st.data.toList, rfl⟩
  have hsz := S_size l
  by_cases h1 : 1000 < l.length
  · have d1 : decide ((1000 : Int) < (l.length : Int)) = true := decide_eq_true (by omega)
    generalize l.length = n at *
    generalize S l = st at *
    go_enter Tryz.func3, Tryz.ntmps3
    go_wp2_with fail
    refine (c0.out _ hE).mono ?_
    rintro e w1 ⟨rfl, c⟩
    have b1 := b0.trans (c.mono b0.size)
    clear c b0
    go_wp2
    go_ret
    exact ⟨rfl, b1⟩
  · have d1 : decide ((1000 : Int) < (l.length : Int)) = false := decide_eq_false (by omega)
    obtain ⟨⟨f, er⟩, hp⟩ : ∃ p, parseR l = p := ⟨_, rfl⟩
    have c2 := Lib.hid (fun W hE => pParse l (by omega) W hE f er hp)
    have c3 := Lib.hid (fun W => refParse_any l (by omega) W f er hp)
    have c4 := Lib.hid (fun u v W (h : QL u f.subs W) (h' : QL v f.subs W) => refSame_any f f u v W h h' true (by simp [sameB]))
    unfold FV at c2 c3 c4
    clear hp h1
    generalize l.length = n at *
    generalize S l = st at *
    go_enter Tryz.func3, Tryz.ntmps3
    go_wp2_with fail
    refine (c0.out _ hE).mono ?_
    rintro e w1 ⟨rfl, c⟩
    have b1 := b0.trans (c.mono b0.size)
    clear c b0
    go_wp2_with fail
    refine (c2.out _ (hE.after b1)).mono ?_
    rintro e w2 ⟨u, rfl, hu, c⟩
    have b2 := b1.trans (c.mono b1.size)
    clear c b1
    have hB2 := FB.new (hE.after b2) hu
    have ca := b2.alloc b2.size (.cells #[.string (S f.tag), .string (S f.ind), u, .int .i64 f.auth] 25)
    obtain ⟨a, cap, rfl, _, _⟩ := hu.length
    obtain ⟨b, hb⟩ : ∃ b, w2.heap.size = b := ⟨_, rfl⟩
    rw [hb] at hB2
    obtain ⟨w3, hw3⟩ : ∃ w3, w2.alloc (.cells #[.string (S f.tag), .string (S f.ind), .slice a f.subs.length cap, .int .i64 f.auth] 25) = w3 := ⟨_, rfl⟩
    rw [hw3] at hB2 ca
    have HW3 := Lib.hid hw3
    clear hu b2 hw3
    go_wp2_with fail
    clear hb
    rw [HW3.out]
    refine (c3.out _).mono ?_
    rintro e w4 ⟨v, rfl, hv, c⟩
    have b4 := ca.trans (c.mono ca.size)
    have hB4 := hB2.after c
    clear c ca hB2
    have cv := (Below.refl w4.heap.size w4).alloc (Nat.le_refl _) (.cells #[.string (S f.tag), .string (S f.ind), v, .int .i64 f.auth] 25)
    have hV5 := FB.new (hE.after b4) hv
    have hB5 := hB4.after cv
    have b5 := b4.trans (cv.mono b4.size)
    obtain ⟨a', cap', rfl, _, _⟩ := hv.length
    obtain ⟨k0, k1, k2, k3⟩ := hB5.cells
    clear cv b4 hB4 hv
    go_wp2_with fail
    refine (c4.out _ _ _ hB5.q hV5.q).mono ?_
    rintro e w6 ⟨rfl, c⟩
    have b6 := b5.trans (c.mono b5.size)
    clear c b5 k0 k1 k2 k3 hB5 hV5
    go_wp2
    go_ret
    exact ⟨rfl, b6⟩
end Go.Proofs.YtjajihemcaihmaaGreatDoor
