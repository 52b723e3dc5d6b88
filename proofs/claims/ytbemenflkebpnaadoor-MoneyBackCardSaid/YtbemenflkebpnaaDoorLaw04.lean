/- The statements MoneyAdds, MoneyShares, MoneyTexts of layer 4 over this translation: they return true. -/
import Derived.Test.YtbemenflkebpnaaDoorAlive04
namespace Go.Proofs.YtbemenflkebpnaaDoor
open Go.RowKit Go.PlainAid

set_option maxHeartbeats 8000000 in
theorem lawAdds_any (a b : Int) (w : World) (hT : Tab w) :
    Calls Tryd.prog 3 #[.int .i64 a, .int .i64 b] w fun e w' => e = .returned (.bool true) ∧ Below w.heap.size w w' := by
  obtain ⟨⟨n, er⟩, ho⟩ : ∃ v, addI a b = v := ⟨_, rfl⟩
  obtain ⟨rt, hr⟩ : ∃ v, rightI a = v := ⟨_, rfl⟩
  obtain ⟨pm, hp⟩ : ∃ v, permI a b = v := ⟨_, rfl⟩
  have c0 := Lib.hid (fun W (hW : Below w.heap.size w W) => alive_any W (hT.on hW))
  have c1 := Lib.hid (fun W (hW : Below w.heap.size w W) => pAdd a b n er ho W)
  have c2 := Lib.hid (fun W => refAdd_any a b n er ho W)
  have c3 := Lib.hid (fun W (hW : Below w.heap.size w W) => pRight a rt hr W)
  have c4 := Lib.hid (fun W => refRight_any a rt hr W)
  have c5 := Lib.hid (fun W (hW : Below w.heap.size w W) => pPerm a b pm hp W)
  have c6 := Lib.hid (fun W => refPerm_any a b pm hp W)
  have b0 := Below.refl w.heap.size w
  clear ho hr hp
  go_enter Tryd.func3, Tryd.ntmps3
  go_wp2_with fail
  refine (c0.out _ (by assumption)).mono ?_
  rintro e w1 ⟨rfl, b1⟩
  clear b0
  go_wp2_with fail
  refine (c1.out _ (by assumption)).mono ?_
  rintro e w2 ⟨rfl, c⟩
  have b2 := b1.trans (c.mono b1.size)
  clear c b1
  go_wp2_with fail
  refine (c2.out _).mono ?_
  rintro e w3 ⟨rfl, rfl⟩
  go_wp2_with fail
  refine (c3.out _ (by assumption)).mono ?_
  rintro e w4 ⟨rfl, c⟩
  have b4 := b2.trans (c.mono b2.size)
  clear c b2
  go_wp2_with fail
  refine (c4.out _).mono ?_
  rintro e w5 ⟨rfl, rfl⟩
  cases rt
  all_goals
    go_wp2_with fail
    refine (c5.out _ (by assumption)).mono ?_
    rintro e w6 ⟨rfl, c⟩
    have b6 := b4.trans (c.mono b4.size)
    clear c b4
    go_wp2_with fail
    refine (c6.out _).mono ?_
    rintro e w7 ⟨rfl, rfl⟩
    go_wp2
    go_ret
    exact ⟨rfl, b6⟩

set_option maxHeartbeats 8000000 in
theorem lawShares_any (t : Int) (v : Value) (l : List Int) (w : World) (hT : Tab w) (hv : IL v l w) (hz : l.length ≤ 9223372036854775807) :
    Calls Tryd.prog 4 #[.int .i64 t, v] w fun e w' => e = .returned (.bool true) ∧ Below w.heap.size w w' := by
  have c0 := Lib.hid (fun W (hW : Below w.heap.size w W) => alive_any W (hT.on hW))
  have HV := Lib.hid (fun W (hW : Below w.heap.size w W) => hv.after hW)
  obtain ⟨a, cap, rfl, hc, _⟩ := hv
  have b0 := Below.refl w.heap.size w
  by_cases h40 : 40 < l.length
  · have d1 : decide ((40 : Int) < (l.length : Int)) = true := by simp; omega
    generalize l.length = n at *
    go_enter Tryd.func4, Tryd.ntmps4
    go_wp2_with fail
    refine (c0.out _ (by assumption)).mono ?_
    rintro e w1 ⟨rfl, b1⟩
    go_wp2
    go_ret
    exact ⟨rfl, b1⟩
  · have d1 : decide ((40 : Int) < (l.length : Int)) = false := by simp; omega
    have c1 := Lib.hid (fun v W (hW : Below w.heap.size w W) (hv : IL v l W) => pShare t v l (by omega) W hv)
    have c2 := Lib.hid (fun v W (hv : IL v l W) => refShare_any t v l W hv (by omega))
    have hrl : (shareR t l).length ≤ 1000000 := by
      unfold shareR
      split
      · rw [shareL_length]; omega
      · exact Nat.zero_le _
    have c3 := Lib.hid (fun v u W (hv : IL v (shareR t l) W) (hu : IL u (shareR t l) W) => refInts_any v u (shareR t l) (shareR t l) W hv hu hrl hrl true (decide_eq_true rfl))
    generalize shareE t l = er at *
    generalize shareR t l = sr at *
    clear hrl
    obtain ⟨n, hn⟩ : ∃ n, l.length = n := ⟨_, rfl⟩
    rw [hn] at hc h40 d1 HV hz ⊢
    have HN := Lib.hid hn
    clear hn
    go_enter Tryd.func4, Tryd.ntmps4
    go_wp2_with fail
    refine (c0.out _ (by assumption)).mono ?_
    rintro e w1 ⟨rfl, b1⟩
    clear b0
    go_wp2_with fail
    refine (c1.out _ _ (by assumption) (HV.out _ (by assumption))).mono ?_
    rintro e w2 ⟨v1, rfl, hv1, c⟩
    have b2 := b1.trans (c.mono b1.size)
    have HV1 := Lib.hid hv1
    clear c b1 hv1
    go_wp2_with fail
    refine (c2.out _ _ (HV.out _ (by assumption))).mono ?_
    rintro e w3 ⟨v2, rfl, hv2, c⟩
    have b3 := b2.trans (c.mono b2.size)
    have HV3 := Lib.hid (HV1.out.after c)
    have HV2 := Lib.hid hv2
    clear c b2 hv2
    obtain ⟨a1, p1, rfl, _, _⟩ := id HV3.out
    obtain ⟨a2, p2, rfl, _, _⟩ := id HV2.out
    go_wp2_with fail
    refine (c3.out _ _ _ HV3.out HV2.out).mono ?_
    rintro e w4 ⟨rfl, c⟩
    have b4 := b3.trans (c.mono b3.size)
    clear c b3
    go_wp2
    go_ret
    exact ⟨rfl, b4⟩

set_option maxHeartbeats 8000000 in
theorem lawTexts_any (n : Int) (s : ByteArray) (w : World) (hT : Tab w) (hs : s.size ≤ 9223372036854775807) :
    Calls Tryd.prog 5 #[.int .i64 n, .string s] w fun e w' => e = .returned (.bool true) ∧ Below w.heap.size w w' := by
  have c0 := Lib.hid (fun W (hW : Below w.heap.size w W) => alive_any W (hT.on hW))
  have b0 := Below.refl w.heap.size w
  by_cases h300 : 300 < s.size
  · have d1 : decide ((300 : Int) < (s.size : Int)) = true := by simp; omega
    go_enter Tryd.func5, Tryd.ntmps5
    go_wp2_with fail
    refine (c0.out _ (by assumption)).mono ?_
    rintro e w1 ⟨rfl, b1⟩
    go_wp2
    go_ret
    exact ⟨rfl, b1⟩
  · have d1 : decide ((300 : Int) < (s.size : Int)) = false := by simp; omega
    obtain ⟨⟨x, er⟩, hp⟩ : ∃ v, parM s = v := ⟨_, rfl⟩
    obtain ⟨f, hf⟩ : ∃ v, fmtI n = v := ⟨_, rfl⟩
    have c1 := Lib.hid (fun W (hW : Below w.heap.size w W) => pParse s (by omega) x er hp W)
    have c2 := Lib.hid (fun W => refParse_any s (by omega) x er hp W)
    have c3 := Lib.hid (fun W (hW : Below w.heap.size w W) => pFormat n f hf W (hT.on hW))
    have c4 := Lib.hid (fun W => refFormat_any n f hf W)
    clear hp hf
    go_enter Tryd.func5, Tryd.ntmps5
    go_wp2_with fail
    refine (c0.out _ (by assumption)).mono ?_
    rintro e w1 ⟨rfl, b1⟩
    clear b0
    go_wp2_with fail
    refine (c1.out _ (by assumption)).mono ?_
    rintro e w2 ⟨rfl, c⟩
    have b2 := b1.trans (c.mono b1.size)
    clear c b1
    go_wp2_with fail
    refine (c2.out _).mono ?_
    rintro e w3 ⟨rfl, rfl⟩
    go_wp2_with fail
    refine (c3.out _ (by assumption)).mono ?_
    rintro e w4 ⟨rfl, c⟩
    have b4 := b2.trans (c.mono b2.size)
    clear c b2
    go_wp2_with fail
    refine (c4.out _).mono ?_
    rintro e w5 ⟨rfl, rfl⟩
    go_wp2
    go_ret
    exact ⟨rfl, b4⟩
end Go.Proofs.YtbemenflkebpnaaDoor
