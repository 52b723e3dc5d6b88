/- The statement CollateArticles of layer 2 over this translation: it returns true, wherever the program's table lies. -/
import Derived.Test.YtjfeckccmfbkhaaDoorLaw02
import Derived.Test.YtjfeckccmfbkhaaDoorR02Sort
import Derived.Test.YtjfeckccmfbkhaaDoorCSkipAll
import Derived.Deep.QuietTactic
import Derived.Deep.RegionHeld3
import Derived.Deep.CutBlock
import Derived.Deep.DeepCutAuto
import Derived.PlainAid
namespace Go.Proofs.YtjfeckccmfbkhaaDoor
open Go.RowKit Go.PlainAid

def lat : ByteArray := ⟨#[108, 97, 116]⟩
/-- The articles that the statement tries: language, written form. -/
def tabA : List (ByteArray × List Nat) := [(eng, [84, 104, 101]), (eng, [97]), (eng, [65, 78]), (ger, [100, 101, 114]), (ger, [68, 105, 101]), (ger, [68, 65, 83]), (ger, [101, 105, 110]), (ger, [101, 105, 110, 101]), (swe, [69, 110]), (swe, [101, 116, 116]), (swe, [100, 101, 110]), (swe, [100, 101, 116]), (swe, [100, 101]), (spa, [69, 76]), (spa, [108, 97]), (spa, [108, 111, 115]), (spa, [108, 97, 115]), (spa, [117, 110]), (spa, [85, 110, 97])]
theorem tab_art : ∀ r : Fin 19, isArt tabA[r.val].1 (T (foldL tabA[r.val].2)) = true ∧ 32 ∉ tabA[r.val].2 ∧ tabA[r.val].2.length ≤ 4 := by decide +kernel
theorem tab_ok : ∀ r : Fin 19, OKs tabA[r.val].2 := by unfold OKs; decide +kernel
theorem lat_art (x : ByteArray) : isArt lat x = false := by
  have : arts lat = [] := by unfold arts; rw [if_neg (by decide), if_neg (by decide), if_neg (by decide), if_neg (by decide)]
  unfold isArt
  rw [this]
  rfl
theorem wordEnd_front (wc cs : List Nat) (h : 32 ∉ wc) : wordEnd (wc ++ 32 :: cs) = wc.length := by
  induction wc with
  | nil => rw [List.nil_append, wordEnd_cons, if_pos rfl]; rfl
  | cons c wc ih =>
    have h1 : c ≠ 32 := fun e => h (by rw [e]; exact List.mem_cons_self ..)
    rw [List.cons_append, wordEnd_cons, if_neg h1, ih (fun hm => h (List.mem_cons_of_mem _ hm))]
    rfl
theorem skip_front (lang : ByteArray) (wc cs : List Nat) (h : 32 ∉ wc) (ha : isArt lang (T (foldL wc)) = true) (hne : cs ≠ []) (h0 : cs[0]? ≠ some 32) : skipL lang (wc ++ 32 :: cs) = cs := by
  have hw := wordEnd_front wc cs h
  have hb : blanksEnd (wc ++ 32 :: cs) = wc.length + 1 := by
    unfold blanksEnd
    rw [hw, List.drop_left' rfl]
    have : ((32 :: cs).takeWhile (· == 32)) = [32] := by
      cases cs with
      | nil => exact absurd rfl hne
      | cons c cs =>
        have hc : c ≠ 32 := fun e => h0 (by rw [e]; rfl)
        simp [hc]
    rw [this]
    rfl
  unfold skipL
  rw [hw, hb, List.take_left' rfl, if_pos]
  · have : wc ++ 32 :: cs = (wc ++ [32]) ++ cs := by simp
    rw [this, List.drop_left' (by simp)]
  · refine ⟨ha, ?_⟩
    rw [List.length_append, List.length_cons]
    have : 0 < cs.length := by
      cases cs with
      | nil => exact absurd rfl hne
      | cons c cs => simp
    omega
theorem skip_lat (cs : List Nat) : skipL lat cs = cs := by
  unfold skipL
  rw [if_neg]
  rw [lat_art]
  intro h
  cases h.1
theorem front_T (wc cs : List Nat) : T wc ++ ⟨#[32]⟩ ++ T cs = T (wc ++ 32 :: cs) := by
  have : wc ++ 32 :: cs = (wc ++ [32]) ++ cs := by simp
  rw [this, ← T_append, ← T_append]
  rfl

/-- What every world in the middle shows: the table. -/
def Table (g : Nat) (w : World) : Prop := g < w.heap.size ∧ ∀ r (h : r < 19), w.cell? ⟨g, r * 2, none⟩ = some (.string tabA[r].1) ∧ w.cell? ⟨g, r * 2 + 1, none⟩ = some (.string (T tabA[r].2))

set_option maxHeartbeats 16000000 in
set_option maxRecDepth 100000 in
theorem artlaw_any (x : Int) (s : ByteArray) (w : World) (hx0 : 0 ≤ x) (hx1 : x ≤ 255) (hE : Acc w) :
    Calls Tryd.prog 10 #[.int .u8 x, .string s] w fun e w' => e = .returned (.bool true) ∧ Below w.heap.size w w' := by
  have HE := Lib.hid hE
  have CA := Lib.hid (fun W hE => alive_any W hE)
  have hget := get_bt s
  clear hE
  by_cases h0 : s.size = 0
  · have b0 : ((s.size : Int) == 0) = true := by simp [h0]
    go_enter Tryd.func10, Tryd.ntmps10
    go_wp2_with fail
    refine (CA.out _ HE.out).mono ?_
    rintro e w1 ⟨rfl, b1⟩
    go_wp2
    go_ret
    exact ⟨rfl, b1⟩
  have b0 : ((s.size : Int) == 0) = false := by simp [h0]
  by_cases h2 : 200 < s.size
  · have d1 : decide ((200 : Int) < (s.size : Int)) = true := by simp; omega
    go_enter Tryd.func10, Tryd.ntmps10
    go_wp2_with fail
    refine (CA.out _ HE.out).mono ?_
    rintro e w1 ⟨rfl, b1⟩
    go_wp2
    go_ret
    exact ⟨rfl, b1⟩
  have d1 : decide ((200 : Int) < (s.size : Int)) = false := by simp; omega
  have i0 : 0 < s.size := by omega
  have i1 : (0 : Int) < (s.size : Int) := by omega
  by_cases h3 : bt s 0 = 32
  · have e1 : (bt s 0 == 32) = true := by rw [h3]; rfl
    clear h3
    go_enter Tryd.func10, Tryd.ntmps10
    go_wp2_with fail
    refine (CA.out _ HE.out).mono ?_
    rintro e w1 ⟨rfl, b1⟩
    go_wp2
    go_ret
    exact ⟨rfl, b1⟩
  have e1 : (bt s 0 == 32) = false := by simpa using h3
  cases hb : smallS s
  · have cS := Lib.hid (small_any _ [s] _ (SL_one w s) false (by rw [small_one]; exact hb))
    clear hb h3
    go_enter Tryd.func10, Tryd.ntmps10
    go_wp2_with fail
    refine cS.out.mono ?_
    rintro e w1 ⟨rfl, b1'⟩
    have b1 := below_new _ b1'
    clear b1'
    go_wp2_with fail
    refine (CA.out _ (HE.out.after b1)).mono ?_
    rintro e w2 ⟨rfl, b2'⟩
    have b2 := b1.trans (b2'.mono b1.size)
    clear b2' b1
    go_wp2
    go_ret
    exact ⟨rfl, b2⟩
  · have cS := Lib.hid (small_any _ [s] _ (SL_one w s) true (by rw [small_one]; exact hb))
    obtain ⟨cs, hc, rfl, hl, _⟩ := smallS_text hb
    have hne : cs ≠ [] := by
      intro h
      rw [h] at h0
      exact h0 rfl
    have hcl : 0 < cs.length := by
      cases cs with
      | nil => exact absurd rfl hne
      | cons c cs => simp
    have h32 : cs[0]? ≠ some 32 := by
      intro h
      have h4 := (bt_at cs hc 0 hcl).2 (by rw [List.getElem?_eq_getElem hcl] at h; exact Option.some.inj h)
      rw [off_zero] at h4
      exact h3 h4
    obtain ⟨kn, rfl⟩ : ∃ kn : Nat, x = (kn : Int) := ⟨x.toNat, by omega⟩
    have hr : kn % 19 < 19 := Nat.mod_lt _ (by decide)
    obtain ⟨ha, hn32, hwl⟩ := tab_art ⟨kn % 19, hr⟩
    have hok := tab_ok ⟨kn % 19, hr⟩
    simp only at ha hn32 hwl hok
    have hO : OKs (tabA[kn % 19].2 ++ 32 :: cs) := by
      have : tabA[kn % 19].2 ++ 32 :: cs = (tabA[kn % 19].2 ++ [32]) ++ cs := by simp
      rw [this]
      exact OKs_append.2 ⟨OKs_append.2 ⟨hok, by unfold OKs; decide⟩, hc⟩
    have hlen : (tabA[kn % 19].2 ++ 32 :: cs).length ≤ 10000 := by rw [List.length_append, List.length_cons]; omega
    have k1 : ∀ W, Acc W → Calls Tryd.prog 15 #[.string tabA[kn % 19].1, .string (T tabA[kn % 19].2 ++ ⟨#[32]⟩ ++ T cs)] W fun e w' => e = .returned (.string (T cs)) ∧ Below W.heap.size W w' :=
      fun W hE => cskip_any _ _ hO _ _ (front_T _ _) hlen (congrArg T (skip_front _ _ _ hn32 ha hne h32)) W hE
    have k2 : ∀ W, Acc W → Calls Tryd.prog 15 #[.string ⟨#[108, 97, 116]⟩, .string (T tabA[kn % 19].2 ++ ⟨#[32]⟩ ++ T cs)] W fun e w' => e = .returned (.string (T tabA[kn % 19].2 ++ ⟨#[32]⟩ ++ T cs)) ∧ Below W.heap.size W w' :=
      fun W hE => cskip_any lat _ hO _ _ (front_T _ _) hlen (by rw [skip_lat, front_T]) W hE
    have hwz : (T tabA[kn % 19].2).size ≤ 16 := by have := T_bound tabA[kn % 19].2; omega
    have K1 := Lib.hid k1
    have K2 := Lib.hid k2
    clear k1 k2 hO hlen ha hn32 hok hne h32 hcl hc hl h3 hwl hb
    generalize T cs = s at *
    go_enter Tryd.func10, Tryd.ntmps10
    go_wp2_with fail
    refine cS.out.mono ?_
    rintro e w1 ⟨rfl, b1'⟩
    have b1 := below_new _ b1'
    clear b1' cS
    go_upto_region 3 with fail
    go_cut [5] from 27 to 46 (fun s5 wx => ∃ g, s5 = .slice (some ⟨g, 0, none⟩) 19 19 ∧ Table g wx ∧ Below w.heap.size w wx)
    case first =>
      go_wp2_with fail
      go_meet
      refine ⟨w1.heap.size, rfl, ⟨by simp, fun r h => ?_⟩, b1.alloc b1.size _⟩
      rw [Lib.cell_of_heap (heap_alloc_new _ _), Lib.cell_of_heap (heap_alloc_new _ _)]
      match r, h with
      | 0, _ => exact ⟨rfl, rfl⟩
      | 1, _ => exact ⟨rfl, rfl⟩
      | 2, _ => exact ⟨rfl, rfl⟩
      | 3, _ => exact ⟨rfl, rfl⟩
      | 4, _ => exact ⟨rfl, rfl⟩
      | 5, _ => exact ⟨rfl, rfl⟩
      | 6, _ => exact ⟨rfl, rfl⟩
      | 7, _ => exact ⟨rfl, rfl⟩
      | 8, _ => exact ⟨rfl, rfl⟩
      | 9, _ => exact ⟨rfl, rfl⟩
      | 10, _ => exact ⟨rfl, rfl⟩
      | 11, _ => exact ⟨rfl, rfl⟩
      | 12, _ => exact ⟨rfl, rfl⟩
      | 13, _ => exact ⟨rfl, rfl⟩
      | 14, _ => exact ⟨rfl, rfl⟩
      | 15, _ => exact ⟨rfl, rfl⟩
      | 16, _ => exact ⟨rfl, rfl⟩
      | 17, _ => exact ⟨rfl, rfl⟩
      | 18, _ => exact ⟨rfl, rfl⟩
      | n + 19, h => exact absurd h (by omega)
    case rest =>
      obtain ⟨g, rfl, ⟨hg, hTab⟩, hb⟩ := hcut
      obtain ⟨c0, c1⟩ := hTab (kn % 19) hr
      have m1 : Int.tmod (kn : Int) 19 = ((kn % 19 : Nat) : Int) := by rw [Int.tmod_eq_emod_of_nonneg (by omega)]; omega
      have m2 : (kn : Int) % 19 = ((kn % 19 : Nat) : Int) := by omega
      generalize tabA[kn % 19].1 = L at K1 c0
      generalize T tabA[kn % 19].2 = wd at K1 K2 c1 hwz
      generalize kn % 19 = r at c0 c1 hr m1 m2
      have j1 : (0 : Int) ≤ (r : Int) := by omega
      have j2 : (r : Int) < 19 := by omega
      clear hTab
      go_upto_region 5 with fail
      have q0 : (wc.alloc (.cells #[.string L, .string wd] 36)).cell? ⟨wc.heap.size, 0, none⟩ = some (.string L) := by simp
      have q1 : (wc.alloc (.cells #[.string L, .string wd] 36)).cell? ⟨wc.heap.size, 1, none⟩ = some (.string wd) := by simp
      have q2 : wc.heap.size < (wc.alloc (.cells #[.string L, .string wd] 36)).heap.size := by simp
      have hb2 : Below w.heap.size w (wc.alloc (.cells #[.string L, .string wd] 36)) := hb.alloc hb.size _
      generalize wc.alloc (.cells #[.string L, .string wd] 36) = W0 at *
      generalize wc.heap.size = b at *
      have hA0 : Acc W0 := HE.out.after hb2
      have hs0 := Sees.self W0
      have keep : ∀ W W', Sees W0 W → Below W.heap.size W W' → W'.cell? ⟨b, 0, none⟩ = some (.string L) ∧ W'.cell? ⟨b, 1, none⟩ = some (.string wd) ∧ Sees W0 W' := by
        intro W W' hs hW
        exact ⟨(Below.cell (hs.after hW) (p := ⟨b, 0, none⟩) q2).trans q0, (Below.cell (hs.after hW) (p := ⟨b, 1, none⟩) q2).trans q1, hs.after hW⟩
      have s1 : ∀ W, Sees W0 W → Calls Tryd.prog 15 #[.string L, .string (wd ++ ⟨#[32]⟩ ++ s)] W fun e w' => e = .returned (.string s) ∧ w'.cell? ⟨b, 0, none⟩ = some (.string L) ∧ w'.cell? ⟨b, 1, none⟩ = some (.string wd) ∧ Sees W0 w' :=
        fun W hs => (K1.out W (hA0.after hs)).mono fun e w' ⟨he, hW⟩ => ⟨he, keep W w' hs hW⟩
      have s2 : ∀ W, Sees W0 W → Calls Tryd.prog 15 #[.string ⟨#[108, 97, 116]⟩, .string (wd ++ ⟨#[32]⟩ ++ s)] W fun e w' => e = .returned (.string (wd ++ ⟨#[32]⟩ ++ s)) ∧ w'.cell? ⟨b, 0, none⟩ = some (.string L) ∧ w'.cell? ⟨b, 1, none⟩ = some (.string wd) ∧ Sees W0 w' :=
        fun W hs => (K2.out W (hA0.after hs)).mono fun e w' ⟨he, hW⟩ => ⟨he, keep W w' hs hW⟩
      have s3 : ∀ W, Sees W0 W → Calls Tryd.prog 12 #[] W fun e w' => e = .returned (.bool true) ∧ w'.cell? ⟨b, 0, none⟩ = some (.string L) ∧ w'.cell? ⟨b, 1, none⟩ = some (.string wd) ∧ Sees W0 w' :=
        fun W hs => (CA.out W (hA0.after hs)).mono fun e w' ⟨he, hW⟩ => ⟨he, keep W w' hs hW⟩
      have S1 := Lib.hid s1
      have S2 := Lib.hid s2
      have S3 := Lib.hid s3
      have hfin : ∀ W, Sees W0 W → Below w.heap.size w W := fun W h => hb2.trans (Below.mono h hb2.size)
      have Fin := Lib.hid hfin
      clear hfin
      clear s1 s2 s3 keep hb2 hA0 K1 K2 CA HE c0 c1 hg hb b1 hget m1 m2
      have n1 : ¬ (9223372036854775807 < wd.size + 1) := by omega
      have n2 : ¬ (9223372036854775807 < wd.size + 1 + s.size) := by omega
      have n3 : wd.size + 1 ≤ 9223372036854775807 := by omega
      have n4 : wd.size + 1 + s.size ≤ 9223372036854775807 := by omega
      go_region_held3 (fun w' => w'.cell? ⟨b, 0, none⟩ = some (.string L) ∧ w'.cell? ⟨b, 1, none⟩ = some (.string wd) ∧ Sees W0 w') (simp [*, Sees_drew])
        (first
          | (go_at_call_of 15 L; refine (S1.out _ ?_).mono ?_; (first | assumption | (rw [Sees_drew]; assumption)); rintro e w' ⟨rfl, k1, k2, hse⟩)
          | (go_at_call 15; refine (S2.out _ ?_).mono ?_; (first | assumption | (rw [Sees_drew]; assumption)); rintro e w' ⟨rfl, k1, k2, hse⟩)
          | (go_at_call 12; refine (S3.out _ ?_).mono ?_; (first | assumption | (rw [Sees_drew]; assumption)); rintro e w' ⟨rfl, k1, k2, hse⟩))
      all_goals
        go_wp2
        go_ret
        first
          | exact ⟨rfl, Fin.out _ hse⟩
          | exact ⟨rfl, Fin.out _ ((Sees_drew _ _).2 hse)⟩
end Go.Proofs.YtjfeckccmfbkhaaDoor
