/- The statement DigestLength of layer 6 over this translation: it returns true. -/
import Derived.Test.YtdaoccmhehekaaaDoorLaw06Q
import Derived.Test.YtdaoccmhehekaaaDoorLaw06K
import Derived.Test.YtdaoccmhehekaaaDoorLaw06P
import Derived.Laws.AppendOwnNone
import Derived.Lib.SmallJoins
namespace Go.Proofs.YtdaoccmhehekaaaDoor
open Go.RowKit Go.PlainAid

/-- The head of a slice. -/
theorem BL.head {a : Option Addr} {n cap : Nat} {P : List (List UInt8)} {w : World} (h : BL (.slice a n cap) P w) (m : Nat) (hm : m ≤ P.length) (hc : m ≤ cap) : BL (.slice a m cap) (P.take m) w := by
  obtain ⟨a2, cap2, e, _, h2, h3, h4⟩ := h
  simp only [Value.slice.injEq] at e
  obtain ⟨rfl, _, rfl⟩ := e
  have hl : (P.take m).length = m := by rw [List.length_take]; omega
  refine ⟨a, cap, by rw [hl], by rw [hl]; exact hc, h2, h3, fun i hi => ?_⟩
  rw [hl] at hi
  obtain ⟨g, o, e1, e2, e3⟩ := h4 i (by omega)
  refine ⟨g, o, e1, e2, ?_⟩
  rw [e3, List.getD_eq_getElem?_getD, List.getD_eq_getElem?_getD, List.getElem?_take_of_lt hi]

set_option maxHeartbeats 16000000 in
set_option maxRecDepth 100000 in
theorem lawLength_any (v : Value) (L : List (List UInt8)) (i : Int) (d : ByteArray) (w : World) (hv : BL v L w) :
    Calls Tryd.prog 9 #[v, .int .i64 i, .string d] w fun e w' => e = .returned (.bool true) ∧ Below w.heap.size w w' := by
  have c0 := Lib.hid (fun W (hW : Below w.heap.size w W) => alive_any W)
  have b0 := Below.refl w.heap.size w
  obtain ⟨x, rfl⟩ : ∃ l, S l = d := ⟨d.data.toList, rfl⟩
  have zx := S_size x
  obtain ⟨a, cap, rfl, hcap, hmax⟩ := hv.length
  cases hs : smallB L
  · have c1 := Lib.hid (fun W (hW : BL (.slice a L.length cap) L W) => small_call L _ W hW false hs)
    clear hs
    generalize L.length = n at *
    generalize x.length = q at *
    generalize S x = d at *
    go_enter Tryd.func9, Tryd.ntmps9
    go_wp2_with fail
    refine (c0.out _ (by assumption)).mono ?_
    rintro e w1 ⟨rfl, c⟩
    have b1 := b0.trans (c.mono b0.size)
    replace hv := hv.after c
    clear c b0
    go_wp2_with fail
    refine (c1.out _ hv).mono ?_
    rintro e w2 ⟨rfl, c⟩
    have b2 := b1.trans (c.mono b1.size)
    clear c b1
    go_wp2
    go_ret
    exact ⟨rfl, b2⟩
  obtain ⟨h60, h1000⟩ := small_of L hs
  have c1 := Lib.hid (fun W (hW : BL (.slice a L.length cap) L W) => small_call L _ W hW true hs)
  clear hs
  obtain ⟨n, hn⟩ : ∃ n, L.length = n := ⟨_, rfl⟩
  by_cases hx : 1000 < x.length
  · have d1 : decide ((1000 : Int) < (x.length : Int)) = true := by simp; omega
    rw [hn] at c1 hv hcap ⊢
    clear h1000 hn
    generalize x.length = q at *
    generalize S x = d at *
    go_enter Tryd.func9, Tryd.ntmps9
    go_wp2_with fail
    refine (c0.out _ (by assumption)).mono ?_
    rintro e w1 ⟨rfl, c⟩
    have b1 := b0.trans (c.mono b0.size)
    replace hv := hv.after c
    clear c b0
    go_wp2_with fail
    refine (c1.out _ hv).mono ?_
    rintro e w2 ⟨rfl, c⟩
    have b2 := b1.trans (c.mono b1.size)
    clear c b1
    go_wp2
    go_ret
    exact ⟨rfl, b2⟩
  have d1 : decide ((1000 : Int) < (x.length : Int)) = false := by simp; omega
  by_cases hi0 : i < 0
  · have d2 : decide (i < 0) = true := decide_eq_true hi0
    rw [hn] at c1 hv hcap ⊢
    clear h1000 hn
    generalize x.length = q at *
    generalize S x = d at *
    go_enter Tryd.func9, Tryd.ntmps9
    go_wp2_with fail
    refine (c0.out _ (by assumption)).mono ?_
    rintro e w1 ⟨rfl, c⟩
    have b1 := b0.trans (c.mono b0.size)
    replace hv := hv.after c
    clear c b0
    go_wp2_with fail
    refine (c1.out _ hv).mono ?_
    rintro e w2 ⟨rfl, c⟩
    have b2 := b1.trans (c.mono b1.size)
    clear c b1
    go_wp2
    go_ret
    exact ⟨rfl, b2⟩
  have d2 : decide (i < 0) = false := decide_eq_false hi0
  by_cases hin : (n : Int) ≤ i
  · have d3 : decide ((n : Int) ≤ i) = true := decide_eq_true hin
    rw [hn] at c1 hv hcap ⊢
    clear h1000 hn
    generalize x.length = q at *
    generalize S x = d at *
    go_enter Tryd.func9, Tryd.ntmps9
    go_wp2_with fail
    refine (c0.out _ (by assumption)).mono ?_
    rintro e w1 ⟨rfl, c⟩
    have b1 := b0.trans (c.mono b0.size)
    replace hv := hv.after c
    clear c b0
    go_wp2_with fail
    refine (c1.out _ hv).mono ?_
    rintro e w2 ⟨rfl, c⟩
    have b2 := b1.trans (c.mono b1.size)
    clear c b1
    go_wp2
    go_ret
    exact ⟨rfl, b2⟩
  have d3 : decide ((n : Int) ≤ i) = false := decide_eq_false hin
  obtain ⟨k, rfl⟩ : ∃ k : Nat, i = (k : Int) := ⟨i.toNat, by omega⟩
  have hk : k < L.length := by omega
  obtain ⟨h16, hpl⟩ := proofL_texts L k hk
  have hmore : ∀ j, j < (proofL L k ++ [x]).length → ((proofL L k ++ [x]).getD j []).length ≤ 1000 := by
    intro j hj
    rw [List.length_append] at hj
    by_cases h : j < (proofL L k).length
    · rw [List.getD_eq_getElem?_getD, List.getElem?_append_left h, ← List.getD_eq_getElem?_getD, h16 j h]
      decide
    · have e : j = (proofL L k).length := by simp at hj; omega
      rw [List.getD_eq_getElem?_getD, e, List.getElem?_append_right (Nat.le_refl _), Nat.sub_self]
      show x.length ≤ 1000
      omega
  have htake : ∀ m j, j < ((proofL L k).take m).length → (((proofL L k).take m).getD j []).length ≤ 1000 := by
    intro m j hj
    rw [List.length_take] at hj
    rw [List.getD_eq_getElem?_getD, List.getElem?_take_of_lt (by omega), ← List.getD_eq_getElem?_getD, h16 j (by omega)]
    decide
  have h16b : ∀ j, j < (proofL L k).length → ((proofL L k).getD j []).length ≤ 1000 := fun j hj => by rw [h16 j hj]; decide
  have hlk := h1000 k hk
  replace hpl : (proofL L k).length ≤ 60 := by omega
  have c2 := Lib.hid (fun W (hW : BL (.slice a L.length cap) L W) => pRoot L h60 h1000 _ W hW)
  have c3 := Lib.hid (fun W (hW : BL (.slice a L.length cap) L W) => pProof L h60 h1000 (k : Int) _ W hW _ _ (proofI_in L k hk))
  have c4 := Lib.hid (fun u W (hW : BL u (proofL L k ++ [x]) W) => pCheck (rootL L) (L.getD k []) hlk (k : Int) (L.length : Int) (proofL L k ++ [x]) (by simp; omega) hmore u W hW false (check_length L (by omega) k hk _ _ _ (by simp)))
  have c5 := Lib.hid (fun u W (hW : BL u (proofL L k) W) => pCheck (rootL L) (L.getD k []) hlk (L.length : Int) (L.length : Int) (proofL L k) (by omega) h16b u W hW false (check_place _ _ _ _ (by omega) _))
  have c6 := Lib.hid (fun u W (hW : BL u (proofL L k) W) => pCheck (rootL L) (L.getD k []) hlk (-1) (L.length : Int) (proofL L k) (by omega) h16b u W hW false (check_place _ _ _ _ (by omega) _))
  have c7 := Lib.hid (fun u W m (hm : m < (proofL L k).length) (hW : BL u ((proofL L k).take m) W) => pCheck (rootL L) (L.getD k []) hlk (k : Int) (L.length : Int) ((proofL L k).take m) (by rw [List.length_take]; omega) (htake m) u W hW false (check_length L (by omega) k hk _ _ _ (by rw [List.length_take]; omega)))
  have HX := Lib.hid (fun W (hW : BL (.slice a L.length cap) L W) => hW.cell (by omega))
  clear h16 hmore htake h16b hlk
  obtain ⟨P, hP⟩ : ∃ P, proofL L k = P := ⟨_, rfl⟩
  rw [hP] at c3 c4 c5 c6 c7 hpl
  clear hP
  generalize S (rootL L) = r1 at *
  obtain ⟨lk, hlk⟩ : ∃ y, S (L.getD k []) = y := ⟨_, rfl⟩
  rw [hlk] at c4 c5 c6 c7
  have HLk := Lib.hid hlk
  clear hlk
  have B1s : RowKit.Hid (∀ W : World, BL (.slice (some ⟨W.heap.size, 0, none⟩) 1 1) [x] (W.alloc (.cells #[.string (S x)] 9))) := fun W => BL.one W x
  have i1 : (0 : Int) ≤ (k : Int) := by omega
  have i2 : (k : Int) < (n : Int) := by omega
  have HN := Lib.hid hn
  rw [hn] at c1 c2 c3 c4 c5 c6 c7 HX hv hcap ⊢
  clear h1000 hn
  generalize x.length = q at *
  generalize S x = d at *
  go_enter Tryd.func9, Tryd.ntmps9
  go_wp2_with fail
  refine (c0.out _ (by assumption)).mono ?_
  rintro e w1 ⟨rfl, c⟩
  have b1 := b0.trans (c.mono b0.size)
  replace hv := hv.after c
  clear c b0
  go_wp2_with fail
  refine (c1.out _ hv).mono ?_
  rintro e w2 ⟨rfl, c⟩
  have b2 := b1.trans (c.mono b1.size)
  replace hv := hv.after c
  clear c b1
  go_wp2_with fail
  refine (c2.out _ hv).mono ?_
  rintro e w3 ⟨rfl, c⟩
  have b3 := b2.trans (c.mono b2.size)
  replace hv := hv.after c
  clear c b2
  go_wp2_with fail
  refine (c3.out _ hv).mono ?_
  rintro e w4 ⟨vp, rfl, hp, c⟩
  have b4 := b3.trans (c.mono b3.size)
  replace hv := hv.after c
  clear c b3
  have ca := (Below.refl w4.heap.size w4).alloc (Nat.le_refl _) (.cells #[] 9)
  have hpa := hp.after ca
  go_wp2_with (at_builtin; refine wpList_append_bl _ rfl _ _ rfl w4.heap.size (.slice (some ⟨w4.heap.size, 0, none⟩) 0 0) [] rfl (SR.empty w4) vp P rfl hpa (by simp; omega) (by simp) ?_)
  intro v5 w5 hs5 hgrow5
  have c5b : Below w4.heap.size w4 w5 := ca.grown hgrow5 (by simp) (fun j hj => by simp [Value.ownBlock] at hj; omega)
  obtain ⟨g5, hg5, hB5, hl5⟩ := hs5.block
  have hs5a := hs5.after ((Below.refl w5.heap.size w5).alloc (Nat.le_refl _) (.cells #[.string d] 9))
  have hsz5 := c5b.size
  go_wp2_with (at_builtin; refine wpList_append_bl _ rfl _ _ rfl w4.heap.size v5 P rfl hs5a (.slice (some ⟨w5.heap.size, 0, none⟩) 1 1) [x] rfl (B1s.out w5) (by simp; omega) (by simp; omega) ?_)
  intro v6 w6 hs6 hgrow6
  have c6b : Below w4.heap.size w4 w6 := (c5b.alloc hsz5 (.cells #[.string d] 9)).grown hgrow6 (by simp; omega) (fun j hj => by first | (rw [hg5] at hj; injection hj with hj; omega) | (injection hj with hj; omega))
  have hv6 := hv.after c6b
  have hp6 := hp.after c6b
  have hm6 := hs6.bl
  have b6 := b4.trans (c6b.mono b4.size)
  clear c5b c6b hpa hv hp ca b4 hs5 hs5a hs6 hgrow5 hgrow6 hg5 hB5 hl5 hsz5
  have i3 : k < n := by omega
  obtain ⟨g, o, cp, he, hg, hcell⟩ := HX.out _ hv6
  obtain ⟨ra, rfl⟩ : ∃ y, a = some y := ⟨⟨g, o, none⟩, by simp only [Value.slice.injEq] at he; exact he.1⟩
  obtain rfl : ra = ⟨g, o, none⟩ := by simp only [Value.slice.injEq, Option.some.injEq] at he; exact he.1
  have hck := hcell k i3
  clear hcell he
  rw [HLk.out] at hck
  go_wp2_with fail
  refine (c4.out _ _ hm6).mono ?_
  rintro e w7 ⟨rfl, c⟩
  have b7 := b6.trans (c.mono b6.size)
  replace hp6 := hp6.after c
  replace hck := (c.cell (p := ⟨g, o + k, none⟩) hg).trans hck
  replace hg := Nat.lt_of_lt_of_le hg c.size
  clear c b6 hm6
  go_wp2_with fail
  refine (c5.out _ _ hp6).mono ?_
  rintro e w8 ⟨rfl, c⟩
  have b8 := b7.trans (c.mono b7.size)
  replace hp6 := hp6.after c
  replace hck := (c.cell (p := ⟨g, o + k, none⟩) hg).trans hck
  replace hg := Nat.lt_of_lt_of_le hg c.size
  clear c b7
  go_wp2_with fail
  refine (c6.out _ _ hp6).mono ?_
  rintro e w9 ⟨rfl, c⟩
  have b9 := b8.trans (c.mono b8.size)
  replace hp6 := hp6.after c
  replace hck := (c.cell (p := ⟨g, o + k, none⟩) hg).trans hck
  replace hg := Nat.lt_of_lt_of_le hg c.size
  clear c b8
  rcases hp6.none_or with ⟨rfl, hPn⟩ | ⟨ad2, cap2, rfl, hc2, hm2, _⟩
  · go_wp2
    go_region
    all_goals
      go_wp2
      go_ret
      first | exact ⟨rfl, b9⟩ | exact ⟨rfl, b9.drew⟩
  unfold maxLen at hm2
  obtain ⟨m, hm⟩ : ∃ m, P.length = m := ⟨_, rfl⟩
  have HM := Lib.hid hm
  have hbt := hp6
  rw [hm] at hc2 hp6 hpl hbt ⊢
  clear hm
  by_cases hm0 : m = 0
  · have t1 : ((m : Int) == 0) = true := by rw [hm0]; rfl
    clear hm0
    go_wp2
    go_region
    all_goals
      go_wp2
      go_ret
      first | exact ⟨rfl, b9⟩ | exact ⟨rfl, b9.drew⟩
  · have t1 : ((m : Int) == 0) = false := by simp; omega
    obtain ⟨m1, hm1⟩ : ∃ m1, m = m1 + 1 := ⟨m - 1, by omega⟩
    have hlt : m1 < P.length := by rw [HM.out]; omega
    have C7 := Lib.hid (fun W (h : Sees w9 W) => (c7.out (.slice (some ad2) m1 cap2) W m1 hlt (BL.head (hp6.after h) m1 (by rw [HM.out]; omega) (by omega))).mono fun e w' hh => And.intro hh.1 (And.intro ((Below.cell (h.after hh.2) (p := ⟨g, o + k, none⟩) hg).trans hck) (h.after hh.2)))
    have Fin := Lib.hid (fun W (h : Sees w9 W) => b9.trans (Below.mono h b9.size))
    have hse := Sees.self w9
    have hw : IntKind.i64.wrap ((m : Int) - 1) = (m1 : Int) := by rw [IntKind.wrap_i64]; omega
    have j1 : (0 : Int) ≤ (m1 : Int) := by omega
    have j2 : (m1 : Int) ≤ (cap2 : Int) := by omega
    have HM1 := Lib.hid hm1
    clear hm1 hp6 hbt b9
    go_wp2
    go_region_held3 (fun w' => w'.cell? ⟨g, o + k, none⟩ = some (.string lk) ∧ Sees w9 w') (simp [*, Sees_drew])
      (first
        | (go_at_call 23; refine (C7.out _ ?_).mono ?_; (first | assumption | (rw [Sees_drew]; assumption)); rintro e w' ⟨rfl, g0, hse2⟩))
    all_goals
      go_wp2
      go_ret
      first
        | exact ⟨rfl, Fin.out _ hse2⟩
        | exact ⟨rfl, Fin.out _ ((Sees_drew _ _).1 hse2)⟩
        | exact ⟨rfl, Fin.out _ ((Sees_drew _ _).2 hse2)⟩
end Go.Proofs.YtdaoccmhehekaaaDoor
