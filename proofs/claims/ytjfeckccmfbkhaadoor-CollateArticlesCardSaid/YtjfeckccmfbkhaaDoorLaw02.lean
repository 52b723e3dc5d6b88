/- Four statements of layer 2 over this translation: CollateKeys, CollateCompares, CollateSkips, CollateSeparates return true, wherever the program's table lies. -/
import Derived.Test.YtjfeckccmfbkhaaDoorKeyLaws
import Derived.Test.YtjfeckccmfbkhaaDoorAlive02
import Derived.Test.YtjfeckccmfbkhaaDoorR02Small
import Derived.Test.YtjfeckccmfbkhaaDoorR02Cmp
import Derived.Test.YtjfeckccmfbkhaaDoorR02Skip
namespace Go.Proofs.YtjfeckccmfbkhaaDoor
open Go.RowKit

theorem small_one (s : ByteArray) : smallB [s] = smallS s := by unfold smallB; simp
theorem small_two (s t : ByteArray) : smallB [s, t] = (smallS s && smallS t) := by unfold smallB; simp
theorem below_new {w w1 : World} (o : Obj) (b : Below (w.alloc o).heap.size (w.alloc o) w1) : Below w.heap.size w w1 :=
  ((Below.refl _ w).alloc (Nat.le_refl _) o).trans (b.mono (by simp))

set_option maxHeartbeats 8000000 in
theorem keys_any (lang s : ByteArray) (w : World) (hE : Acc w) :
    Calls Tryd.prog 4 #[.string lang, .string s] w fun e w' => e = .returned (.bool true) ∧ Below w.heap.size w w' := by
  have HE := Lib.hid hE
  have CA := Lib.hid (fun W hE => alive_any W hE)
  clear hE
  cases hb : smallS s
  · have cS := Lib.hid (small_any _ [s] _ (SL_one w s) false (by rw [small_one]; exact hb))
    clear hb
    go_enter Tryd.func4, Tryd.ntmps4
    go_wp2_with fail
    refine cS.out.mono ?_
    rintro e w1 ⟨rfl, b1'⟩
    have b1 := below_new _ b1'
    clear b1'
    go_wp2_with fail
    refine (CA.out _ (HE.out.after b1)).mono ?_
    rintro e w2 ⟨rfl, b2'⟩
    have b2 := b1.trans (b2'.mono b1.size)
    clear b2' b1
    go_wp2
    go_ret
    exact ⟨rfl, b2⟩
  · have cS := Lib.hid (small_any _ [s] _ (SL_one w s) true (by rw [small_one]; exact hb))
    obtain ⟨cs, hc, hs, hl, _⟩ := smallS_text hb
    have c1 := Lib.hid (fun W hE => ckey_any lang cs hc s (T (keyL lang cs)) hs (by omega) rfl W hE)
    have c2 := Lib.hid (fun W => refKey_any lang cs hc s (T (keyL lang cs)) hs (by omega) rfl W)
    clear hb hc hl hs
    generalize T (keyL lang cs) = t at c1 c2
    go_enter Tryd.func4, Tryd.ntmps4
    go_wp2_with fail
    refine cS.out.mono ?_
    rintro e w1 ⟨rfl, b1'⟩
    have b1 := below_new _ b1'
    clear b1'
    go_wp2_with fail
    refine (c1.out _ (HE.out.after b1)).mono ?_
    rintro e w2 ⟨rfl, b2'⟩
    have b2 := b1.trans (b2'.mono b1.size)
    clear b2' b1
    go_wp2_with fail
    refine (c2.out _).mono ?_
    rintro e w3 ⟨rfl, b3'⟩
    have b3 := b2.trans (b3'.mono b2.size)
    clear b3' b2
    go_wp2_with fail
    refine (CA.out _ (HE.out.after b3)).mono ?_
    rintro e w4 ⟨rfl, b4'⟩
    have b4 := b3.trans (b4'.mono b3.size)
    clear b4' b3
    go_wp2
    go_ret
    exact ⟨rfl, b4⟩

set_option maxHeartbeats 8000000 in
theorem compares_any (lang a b : ByteArray) (w : World) (hE : Acc w) :
    Calls Tryd.prog 5 #[.string lang, .string a, .string b] w fun e w' => e = .returned (.bool true) ∧ Below w.heap.size w w' := by
  have HE := Lib.hid hE
  have CA := Lib.hid (fun W hE => alive_any W hE)
  clear hE
  cases hb : (smallS a && smallS b)
  · have cS := Lib.hid (small_any _ [a, b] _ (SL_two w a b) false (by rw [small_two]; exact hb))
    clear hb
    go_enter Tryd.func5, Tryd.ntmps5
    go_wp2_with fail
    refine cS.out.mono ?_
    rintro e w1 ⟨rfl, b1'⟩
    have b1 := below_new _ b1'
    clear b1'
    go_wp2_with fail
    refine (CA.out _ (HE.out.after b1)).mono ?_
    rintro e w2 ⟨rfl, b2'⟩
    have b2 := b1.trans (b2'.mono b1.size)
    clear b2' b1
    go_wp2
    go_ret
    exact ⟨rfl, b2⟩
  · have cS := Lib.hid (small_any _ [a, b] _ (SL_two w a b) true (by rw [small_two]; exact hb))
    rw [Bool.and_eq_true] at hb
    obtain ⟨ca, hca, ha, hla, _⟩ := smallS_text hb.1
    obtain ⟨cb, hcb, hb', hlb, _⟩ := smallS_text hb.2
    have c1 := Lib.hid (fun W hE => ccompare_any lang ca cb hca hcb (by omega) (by omega) a b ha hb' _ rfl W hE)
    have c2 := Lib.hid (fun W => refCompare_any lang ca cb hca hcb (by omega) (by omega) a b ha hb' W)
    rw [cmpT_cmpE] at c2
    clear hb hca hcb hla hlb ha hb'
    generalize cmpE (ent lang ca) (ent lang cb) = r at c1 c2
    go_enter Tryd.func5, Tryd.ntmps5
    go_wp2_with fail
    refine cS.out.mono ?_
    rintro e w1 ⟨rfl, b1'⟩
    have b1 := below_new _ b1'
    clear b1'
    go_wp2_with fail
    refine (c1.out _ (HE.out.after b1)).mono ?_
    rintro e w2 ⟨rfl, b2'⟩
    have b2 := b1.trans (b2'.mono b1.size)
    clear b2' b1
    go_wp2_with fail
    refine (c2.out _).mono ?_
    rintro e w3 ⟨rfl, b3'⟩
    have b3 := b2.trans (b3'.mono b2.size)
    clear b3' b2
    go_wp2_with fail
    refine (CA.out _ (HE.out.after b3)).mono ?_
    rintro e w4 ⟨rfl, b4'⟩
    have b4 := b3.trans (b4'.mono b3.size)
    clear b4' b3
    go_wp2
    go_ret
    exact ⟨rfl, b4⟩

set_option maxHeartbeats 8000000 in
theorem skips_any (lang s : ByteArray) (w : World) (hE : Acc w) :
    Calls Tryd.prog 3 #[.string lang, .string s] w fun e w' => e = .returned (.bool true) ∧ Below w.heap.size w w' := by
  have HE := Lib.hid hE
  have CA := Lib.hid (fun W hE => alive_any W hE)
  clear hE
  cases hb : smallS s
  · have cS := Lib.hid (small_any _ [s] _ (SL_one w s) false (by rw [small_one]; exact hb))
    clear hb
    go_enter Tryd.func3, Tryd.ntmps3
    go_wp2_with fail
    refine cS.out.mono ?_
    rintro e w1 ⟨rfl, b1'⟩
    have b1 := below_new _ b1'
    clear b1'
    go_wp2_with fail
    refine (CA.out _ (HE.out.after b1)).mono ?_
    rintro e w2 ⟨rfl, b2'⟩
    have b2 := b1.trans (b2'.mono b1.size)
    clear b2' b1
    go_wp2
    go_ret
    exact ⟨rfl, b2⟩
  · have cS := Lib.hid (small_any _ [s] _ (SL_one w s) true (by rw [small_one]; exact hb))
    obtain ⟨cs, hc, hs, hl, _⟩ := smallS_text hb
    have k1 := Lib.hid (fun W => known_any lang _ rfl W)
    have k2 := Lib.hid (fun W => refKnown_any lang _ rfl W)
    have c1 := Lib.hid (fun W hE => cskip_any lang cs hc s (T (skipL lang cs)) hs (by omega) rfl W hE)
    have c2 := Lib.hid (fun W => refSkip_any lang cs hc s (T (skipL lang cs)) hs (by omega) rfl W)
    clear hb hc hl hs
    generalize T (skipL lang cs) = t at c1 c2
    generalize knownL lang = kb at k1 k2
    go_enter Tryd.func3, Tryd.ntmps3
    go_wp2_with fail
    refine cS.out.mono ?_
    rintro e w1 ⟨rfl, b1'⟩
    have b1 := below_new _ b1'
    clear b1'
    go_wp2_with fail
    refine (k1.out _).mono ?_
    rintro e w2 ⟨rfl, rfl⟩
    go_wp2_with fail
    refine (k2.out _).mono ?_
    rintro e w2 ⟨rfl, rfl⟩
    go_wp2_with fail
    refine (c1.out _ (HE.out.after b1)).mono ?_
    rintro e w2 ⟨rfl, b2'⟩
    have b2 := b1.trans (b2'.mono b1.size)
    clear b2' b1
    go_wp2_with fail
    refine (c2.out _).mono ?_
    rintro e w3 ⟨rfl, b3'⟩
    have b3 := b2.trans (b3'.mono b2.size)
    clear b3' b2
    go_wp2_with fail
    refine (CA.out _ (HE.out.after b3)).mono ?_
    rintro e w4 ⟨rfl, b4'⟩
    have b4 := b3.trans (b4'.mono b3.size)
    clear b4' b3
    go_wp2
    go_ret
    exact ⟨rfl, b4⟩
end Go.Proofs.YtjfeckccmfbkhaaDoor
