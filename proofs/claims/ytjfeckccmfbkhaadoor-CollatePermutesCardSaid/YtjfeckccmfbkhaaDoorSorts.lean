/- The statement CollateSorts of layer 2 over this translation: it returns true, wherever the program's table and the list lie. -/
import Derived.Test.YtjfeckccmfbkhaaDoorLaw02
import Derived.Test.YtjfeckccmfbkhaaDoorR02Sort
import Derived.Test.YtjfeckccmfbkhaaDoorSame02
namespace Go.Proofs.YtjfeckccmfbkhaaDoor
open Go.RowKit

theorem texts_small : ∀ l : List ByteArray, (l.all smallS = true) → ∃ L : List (List Nat), l = L.map T ∧ ∀ x ∈ L, OKs x ∧ x.length ≤ 300
  | [], _ => ⟨[], rfl, fun x hx => by cases hx⟩
  | s :: l, h => by
    rw [List.all_cons, Bool.and_eq_true] at h
    obtain ⟨cs, hc, hs, hl, _⟩ := smallS_text h.1
    obtain ⟨L, hL, hx⟩ := texts_small l h.2
    refine ⟨cs :: L, by rw [List.map_cons, ← hs, ← hL], fun x hm => ?_⟩
    rcases List.mem_cons.1 hm with rfl | hm
    · exact ⟨hc, hl⟩
    · exact hx x hm

set_option maxHeartbeats 8000000 in
theorem sorts_any (lang : ByteArray) (v : Value) (l : List ByteArray) (w : World) (hv : SL v l w) (hE : Acc w) :
    Calls Tryd.prog 6 #[.string lang, v] w fun e w' => e = .returned (.bool true) ∧ Below w.heap.size w w' := by
  have HE := Lib.hid hE
  have CA := Lib.hid (fun W hE => alive_any W hE)
  clear hE
  cases hb : smallB l
  · have cS := Lib.hid (small_any v l w hv false hb)
    clear hb hv
    go_enter Tryd.func6, Tryd.ntmps6
    go_wp2_with fail
    refine cS.out.mono ?_
    rintro e w1 ⟨rfl, b1⟩
    go_wp2_with fail
    refine (CA.out _ (HE.out.after b1)).mono ?_
    rintro e w2 ⟨rfl, b2'⟩
    have b2 := b1.trans (b2'.mono b1.size)
    clear b2' b1
    go_wp2
    go_ret
    exact ⟨rfl, b2⟩
  · have cS := Lib.hid (small_any v l w hv true hb)
    unfold smallB at hb
    rw [Bool.and_eq_true] at hb
    obtain ⟨hn, ha⟩ := hb
    have hn40 : l.length ≤ 40 := by simpa using hn
    obtain ⟨L, rfl, hL⟩ := texts_small l ha
    rw [List.length_map] at hn40
    have hM : ((srt (L.map (ent lang))).map Prod.snd).length ≤ 1000 := by rw [List.length_map, srt_len, List.length_map]; omega
    have c1 := Lib.hid (fun u W hv hE => csort_any lang L (fun x hx => ⟨(hL x hx).1, Nat.le_trans (hL x hx).2 (by omega)⟩) (by omega) u W hv hE)
    have c2 := Lib.hid (fun u W hv => refSort_any lang L (fun x hx => ⟨(hL x hx).1, Nat.le_trans (hL x hx).2 (by omega)⟩) (by omega) u W hv)
    have HV := Lib.hid hv
    clear hn ha hL hv hn40
    generalize (srt (L.map (ent lang))).map Prod.snd = M at c1 c2 hM
    generalize L.map T = l at c1 c2 HV
    go_enter Tryd.func6, Tryd.ntmps6
    go_wp2_with fail
    refine cS.out.mono ?_
    rintro e w1 ⟨rfl, b1⟩
    have HV1 := Lib.hid (HV.out.after b1)
    have HE1 := Lib.hid (HE.out.after b1)
    go_wp2_with fail
    refine (c1.out _ _ HV1.out HE1.out).mono ?_
    rintro e w2 ⟨v1, rfl, hS1, b2'⟩
    have HV2 := Lib.hid (HV1.out.after b2')
    have b2 := b1.trans (b2'.mono b1.size)
    have HS1 := Lib.hid hS1
    clear b2' b1 hS1 HV HV1 HE1
    go_wp2_with fail
    refine (c2.out _ _ HV2.out).mono ?_
    rintro e w3 ⟨v2, rfl, hS2, b3'⟩
    have HS1' := Lib.hid (HS1.out.after b3')
    have HS2 := Lib.hid hS2
    have b3 := b2.trans (b3'.mono b2.size)
    clear b3' b2 hS2 HS1 HV2
    go_wp2_with fail
    refine (same_any v1 v2 M hM _ HS1'.out HS2.out).mono ?_
    rintro e w4 ⟨rfl, b4'⟩
    have b4 := b3.trans (b4'.mono b3.size)
    clear b4' b3
    go_wp2_with fail
    refine (CA.out _ (HE.out.after b4)).mono ?_
    rintro e w5 ⟨rfl, b5'⟩
    have b5 := b4.trans (b5'.mono b4.size)
    clear b5' b4
    go_wp2
    go_ret
    exact ⟨rfl, b5⟩
end Go.Proofs.YtjfeckccmfbkhaaDoor
