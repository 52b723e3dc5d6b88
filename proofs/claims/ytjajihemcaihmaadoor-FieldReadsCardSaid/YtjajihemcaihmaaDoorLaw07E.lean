/- The statement FieldReads of layer 7 over this translation: it returns true. -/
import Derived.Test.YtjajihemcaihmaaDoorLaw07F
namespace Go.Proofs.YtjajihemcaihmaaDoor
open Go.RowKit Go.PlainAid

theorem allL_le (L : List Sub) (codes : List UInt8) (h : ∀ i, i < L.length → (L.getD i sub0).2.length ≤ 300) : ∀ i, ((allL L codes).getD i []).length ≤ 1000 := by
  intro i
  by_cases hi : i < (allL L codes).length
  · have hm : (allL L codes).getD i [] ∈ allL L codes := by
      rw [List.getD_eq_getElem?_getD, List.getElem?_eq_getElem hi]
      exact List.getElem_mem hi
    generalize (allL L codes).getD i [] = x at hm
    unfold allL at hm
    rw [List.mem_map] at hm
    obtain ⟨s, hs, rfl⟩ := hm
    obtain ⟨j, hj, rfl⟩ := List.getElem_of_mem (List.mem_filter.1 hs).1
    have := h j hj
    rw [List.getD_eq_getElem?_getD, List.getElem?_eq_getElem hj] at this
    simp only [Option.getD_some] at this
    omega
  · rw [List.getD_eq_getElem?_getD, List.getElem?_eq_none (by omega)]
    exact Nat.zero_le _

set_option maxHeartbeats 16000000 in
set_option maxRecDepth 100000 in
theorem lawReads_any (f : Fld) (u : Value) (code : UInt8) (cds : ByteArray) (w : World) (hE : Env w) (hu : QL u f.subs w) :
    Calls Tryd.prog 4 #[FV f u, .int .u8 (code.toNat : Int), .string cds] w fun e w' => e = .returned (.bool true) ∧ Below w.heap.size w w' := by
  have c0 := Lib.hid (fun W hE => alive_any W hE)
  have hB0 := FB.new hE hu
  have b0 : Below w.heap.size w (w.alloc (.cells #[.string (S f.tag), .string (S f.ind), u, .int .i64 f.auth] 24)) := (Below.refl w.heap.size w).alloc (Nat.le_refl _) _
  obtain ⟨a, cap, rfl, _, _⟩ := hu.length
  obtain ⟨l, rfl⟩ : ∃ l, S l = cds := ⟨cds.data.toList, rfl⟩
  have hvz := S_size l
  unfold FV
  generalize f.subs.length = n at *
  clear hu hE
  cases hs : smallB f
  · have c1 := Lib.hid (fun W (h : FB w.heap.size f (.slice a n cap) W) => small_any f _ W h.q false hs)
    unfold FV at c1
    generalize S l = val at *
    generalize l.length = m at *
    go_enter Tryd.func4, Tryd.ntmps4
    go_wp2_with fail
    refine (c0.out _ hB0.e).mono ?_
    rintro e w1 ⟨rfl, c⟩
    have b1 := b0.trans (c.mono b0.size)
    have hB1 := hB0.after c
    clear c b0 hB0
    obtain ⟨k0, k1, k2, k3⟩ := hB1.cells
    go_wp2_with fail
    refine (c1.out _ hB1).mono ?_
    rintro e w2 ⟨rfl, c⟩
    have b2 := b1.trans (c.mono b1.size)
    clear c b1 k0 k1 k2 k3
    go_wp2
    go_ret
    exact ⟨rfl, b2⟩
  have c1 := Lib.hid (fun W (h : FB w.heap.size f (.slice a n cap) W) => small_any f _ W h.q true hs)
  by_cases hl : 300 < l.length
  · have d1 : decide ((300 : Int) < (l.length : Int)) = true := decide_eq_true (by omega)
    unfold FV at c1
    clear hl
    generalize S l = val at *
    generalize l.length = m at *
    go_enter Tryd.func4, Tryd.ntmps4
    go_wp2_with fail
    refine (c0.out _ hB0.e).mono ?_
    rintro e w1 ⟨rfl, c⟩
    have b1 := b0.trans (c.mono b0.size)
    have hB1 := hB0.after c
    clear c b0 hB0
    obtain ⟨k0, k1, k2, k3⟩ := hB1.cells
    go_wp2_with fail
    refine (c1.out _ hB1).mono ?_
    rintro e w2 ⟨rfl, c⟩
    have b2 := b1.trans (c.mono b1.size)
    clear c b1 k0 k1 k2 k3
    go_wp2
    go_ret
    exact ⟨rfl, b2⟩
  have d1 : decide ((300 : Int) < (l.length : Int)) = false := decide_eq_false (by omega)
  have h30 := (small_of f hs).1
  have hal := allL_le f.subs l (small_of f hs).2.2.2
  obtain ⟨⟨r, b⟩, hget⟩ : ∃ p, getL f.subs code = p := ⟨_, rfl⟩
  have c2 := Lib.hid (fun W (h : FB w.heap.size f (.slice a n cap) W) => pGet f _ W h.q code r b hget)
  have c3 := Lib.hid (fun W (h : FB w.heap.size f (.slice a n cap) W) => refGet_any f _ W h.q code r b hget)
  have c4 := Lib.hid (fun W (h : FB w.heap.size f (.slice a n cap) W) => pAll f _ W h.q l (by omega))
  have c5 := Lib.hid (fun W (h : FB w.heap.size f (.slice a n cap) W) => refAll_any f _ W h.q l (by omega) (by omega))
  have c7 := Lib.hid (fun W (h : FB w.heap.size f (.slice a n cap) W) => pPlain f _ W h.q l (by omega) hal)
  have c8 := Lib.hid (fun W (h : FB w.heap.size f (.slice a n cap) W) => refPlain_any f _ W h.q l (by omega) (by omega) (fun i => by have := hal i; omega))
  have c6 := Lib.hid (fun L u v W (h : BL u L W) (h' : BL v L W) => refTexts_any L L u v W h h' true (decide_eq_true rfl))
  obtain ⟨AL, hAL⟩ : ∃ x, allL f.subs l = x := ⟨_, rfl⟩
  rw [hAL] at c4 c5
  obtain ⟨pl, hpl⟩ : ∃ x, S (plainL f.subs l) = x := ⟨_, rfl⟩
  rw [hpl] at c7 c8
  obtain ⟨sr, hsr⟩ : ∃ x, S r = x := ⟨_, rfl⟩
  rw [hsr] at c2 c3
  unfold FV at c1 c2 c3 c4 c5 c7 c8
  clear hl hs h30 hget hal hAL hpl hsr
  generalize S l = so at *
  generalize l.length = m at *
  generalize ((code.toNat : Nat) : Int) = ci at *
  go_enter Tryd.func4, Tryd.ntmps4
  go_wp2_with fail
  refine (c0.out _ hB0.e).mono ?_
  rintro e w1 ⟨rfl, c⟩
  have b1 := b0.trans (c.mono b0.size)
  have hB1 := hB0.after c
  clear c b0 hB0
  obtain ⟨k0, k1, k2, k3⟩ := hB1.cells
  go_wp2_with fail
  refine (c1.out _ hB1).mono ?_
  rintro e w2 ⟨rfl, c⟩
  have b2 := b1.trans (c.mono b1.size)
  have hB2 := hB1.after c
  clear c b1 k0 k1 k2 k3 hB1
  obtain ⟨k0, k1, k2, k3⟩ := hB2.cells
  go_wp2_with fail
  refine (c2.out _ hB2).mono ?_
  rintro e w3 ⟨rfl, c⟩
  have b3 := b2.trans (c.mono b2.size)
  have hB3 := hB2.after c
  clear c b2 k0 k1 k2 k3 hB2
  obtain ⟨k0, k1, k2, k3⟩ := hB3.cells
  go_wp2_with fail
  refine (c3.out _ hB3).mono ?_
  rintro e w4 ⟨rfl, c⟩
  have b4 := b3.trans (c.mono b3.size)
  have hB4 := hB3.after c
  clear c b3 k0 k1 k2 k3 hB3
  have HF := Lib.hid (fun W (h : Below w4.heap.size w4 W) => hB4.after h)
  have HFc := Lib.hid (fun W (h : Below w4.heap.size w4 W) => (hB4.after h).cells)
  obtain ⟨tf, htf⟩ : ∃ x, S f.tag = x := ⟨_, rfl⟩
  obtain ⟨xf, hxf⟩ : ∃ x, S f.ind = x := ⟨_, rfl⟩
  obtain ⟨af, haf⟩ : ∃ x, f.auth = x := ⟨_, rfl⟩
  rw [htf, hxf, haf] at HFc c4 c5 c7 c8 ⊢
  clear hB4 htf hxf haf c0 c1 c2 c3 hvz d1
  go_wp2
  apply wp_region_inv (V := [.eq (.string sr), .eq (.string sr), .eq (.bool true), .eq (.bool true), .eq (.bool b), .eq (.bool b), .eq (.bool true), .eq (.bool true), .eq (.bool true), .eq (.agg #[.string tf, .string xf, .slice a n cap, .int .i64 af]), .eq (.string so), .bl AL, .eq (.agg #[.string tf, .string xf, .slice a n cap, .int .i64 af]), .eq (.string so), .bl AL, .eq (.bool true), .eq (.bool true), .eq (.bool true), .eq (.agg #[.string tf, .string xf, .slice a n cap, .int .i64 af]), .eq (.string so), .eq (.string pl), .eq (.agg #[.string tf, .string xf, .slice a n cap, .int .i64 af]), .eq (.string so), .eq (.string pl), .eq (.bool true), .eq (.bool true), .eq (.bool true)])
  case hm => kernel_rfl
  case hd => kernel_rfl
  case hb => kernel_rfl
  case hA =>
    intro vs
    simp only [puts, Act.put, List.setIfInBounds_toArray, List.set_cons_zero, List.set_cons_succ]
    exact rfl
  case hob =>
    refine Obs.cons _ _ _ _ _ _ ?o0 (Obs.cons _ _ _ _ _ _ ?o1 (Obs.cons _ _ _ _ _ _ ?o2 (Obs.cons _ _ _ _ _ _ ?o3 (Obs.cons _ _ _ _ _ _ ?o4 (Obs.cons _ _ _ _ _ _ ?o5 (Obs.cons _ _ _ _ _ _ ?o6 (Obs.cons _ _ _ _ _ _ ?o7 (Obs.cons _ _ _ _ _ _ ?o8 (Obs.cons _ _ _ _ _ _ ?o9 (Obs.cons _ _ _ _ _ _ ?o10 (Obs.cons _ _ _ _ _ _ ?o11 (Obs.cons _ _ _ _ _ _ ?o12 (Obs.cons _ _ _ _ _ _ ?o13 (Obs.cons _ _ _ _ _ _ ?o14 (Obs.cons _ _ _ _ _ _ ?o15 (Obs.cons _ _ _ _ _ _ ?o16 (Obs.cons _ _ _ _ _ _ ?o17 (Obs.cons _ _ _ _ _ _ ?o18 (Obs.cons _ _ _ _ _ _ ?o19 (Obs.cons _ _ _ _ _ _ ?o20 (Obs.cons _ _ _ _ _ _ ?o21 (Obs.cons _ _ _ _ _ _ ?o22 (Obs.cons _ _ _ _ _ _ ?o23 (Obs.cons _ _ _ _ _ _ ?o24 (Obs.cons _ _ _ _ _ _ ?o25 (Obs.cons _ _ _ _ _ _ ?o26 (Obs.nil _ _ _ _ _ _)))))))))))))))))))))))))))
    case o0 =>
      intro vs W hw hd K hK
      go_simp
      exact hK.out _ _ rfl (Below.refl _ _)
    case o1 =>
      intro vs W hw hd K hK
      go_simp
      exact hK.out _ _ rfl (Below.refl _ _)
    case o2 =>
      intro vs W hw hd K hK
      have h0 : vs 0 = .string sr := hd 0 (by kernel_rfl)
      have h1 : vs 1 = .string sr := hd 1 (by kernel_rfl)
      simp only [Nat.reduceAdd, h0, h1] at hK ⊢
      go_simp
      exact hK.out _ _ rfl (Below.refl _ _)
    case o3 =>
      intro vs W hw hd K hK
      have h2 : vs 2 = .bool true := hd 2 (by kernel_rfl)
      simp only [Nat.reduceAdd, h2] at hK ⊢
      go_simp
      exact hK.out _ _ rfl (Below.refl _ _)
    case o4 =>
      intro vs W hw hd K hK
      have h3 : vs 3 = .bool true := hd 3 (by kernel_rfl)
      simp only [Nat.reduceAdd, h3] at hK ⊢
      go_simp
      exact hK.out _ _ rfl (Below.refl _ _)
    case o5 =>
      intro vs W hw hd K hK
      have h3 : vs 3 = .bool true := hd 3 (by kernel_rfl)
      simp only [Nat.reduceAdd, h3] at hK ⊢
      go_simp
      exact hK.out _ _ rfl (Below.refl _ _)
    case o6 =>
      intro vs W hw hd K hK
      have h3 : vs 3 = .bool true := hd 3 (by kernel_rfl)
      have h4 : vs 4 = .bool b := hd 4 (by kernel_rfl)
      have h5 : vs 5 = .bool b := hd 5 (by kernel_rfl)
      simp only [Nat.reduceAdd, h3, h4, h5] at hK ⊢
      go_simp
      exact hK.out _ _ rfl (Below.refl _ _)
    case o7 =>
      intro vs W hw hd K hK
      have h3 : vs 3 = .bool true := hd 3 (by kernel_rfl)
      have h6 : vs 6 = .bool true := hd 6 (by kernel_rfl)
      simp only [Nat.reduceAdd, h3, h6] at hK ⊢
      go_simp
      exact hK.out _ _ rfl (Below.refl _ _)
    case o8 =>
      intro vs W hw hd K hK
      have h7 : vs 7 = .bool true := hd 7 (by kernel_rfl)
      simp only [Nat.reduceAdd, h7] at hK ⊢
      go_simp
      exact hK.out _ _ rfl (Below.refl _ _)
    case o9 =>
      intro vs W hw hd K hK
      have h8 : vs 8 = .bool true := hd 8 (by kernel_rfl)
      obtain ⟨k0, k1, k2, k3⟩ := HFc.out W hw
      simp only [Nat.reduceAdd, h8] at hK ⊢
      go_simp
      exact hK.out _ _ rfl (Below.refl _ _)
    case o10 =>
      intro vs W hw hd K hK
      have h8 : vs 8 = .bool true := hd 8 (by kernel_rfl)
      simp only [Nat.reduceAdd, h8] at hK ⊢
      go_simp
      exact hK.out _ _ rfl (Below.refl _ _)
    case o11 =>
      intro vs W hw hd K hK
      have h8 : vs 8 = .bool true := hd 8 (by kernel_rfl)
      have h9 : vs 9 = .agg #[.string tf, .string xf, .slice a n cap, .int .i64 af] := hd 9 (by kernel_rfl)
      have h10 : vs 10 = .string so := hd 10 (by kernel_rfl)
      simp only [Nat.reduceAdd, h8, h9, h10] at hK ⊢
      go_simp
      refine (c4.out W (HF.out W hw)).mono ?_
      rintro e W' ⟨v', rfl, hq', hb'⟩
      exact hK.out _ _ hq' hb'
    case o12 =>
      intro vs W hw hd K hK
      have h8 : vs 8 = .bool true := hd 8 (by kernel_rfl)
      obtain ⟨k0, k1, k2, k3⟩ := HFc.out W hw
      simp only [Nat.reduceAdd, h8] at hK ⊢
      go_simp
      exact hK.out _ _ rfl (Below.refl _ _)
    case o13 =>
      intro vs W hw hd K hK
      have h8 : vs 8 = .bool true := hd 8 (by kernel_rfl)
      simp only [Nat.reduceAdd, h8] at hK ⊢
      go_simp
      exact hK.out _ _ rfl (Below.refl _ _)
    case o14 =>
      intro vs W hw hd K hK
      have h8 : vs 8 = .bool true := hd 8 (by kernel_rfl)
      have h12 : vs 12 = .agg #[.string tf, .string xf, .slice a n cap, .int .i64 af] := hd 12 (by kernel_rfl)
      have h13 : vs 13 = .string so := hd 13 (by kernel_rfl)
      simp only [Nat.reduceAdd, h8, h12, h13] at hK ⊢
      go_simp
      refine (c5.out W (HF.out W hw)).mono ?_
      rintro e W' ⟨v', rfl, hq', hb'⟩
      exact hK.out _ _ hq' hb'
    case o15 =>
      intro vs W hw hd K hK
      have h8 : vs 8 = .bool true := hd 8 (by kernel_rfl)
      have q11 : BL (vs 11) AL W := hd 11 (by kernel_rfl)
      have q14 : BL (vs 14) AL W := hd 14 (by kernel_rfl)
      simp only [Nat.reduceAdd, h8] at hK ⊢
      go_simp
      refine (c6.out _ _ _ _ q11 q14).mono ?_
      rintro e W' ⟨rfl, hb'⟩
      exact hK.out _ _ rfl hb'
    case o16 =>
      intro vs W hw hd K hK
      have h8 : vs 8 = .bool true := hd 8 (by kernel_rfl)
      have h15 : vs 15 = .bool true := hd 15 (by kernel_rfl)
      simp only [Nat.reduceAdd, h8, h15] at hK ⊢
      go_simp
      exact hK.out _ _ rfl (Below.refl _ _)
    case o17 =>
      intro vs W hw hd K hK
      have h16 : vs 16 = .bool true := hd 16 (by kernel_rfl)
      simp only [Nat.reduceAdd, h16] at hK ⊢
      go_simp
      exact hK.out _ _ rfl (Below.refl _ _)
    case o18 =>
      intro vs W hw hd K hK
      have h17 : vs 17 = .bool true := hd 17 (by kernel_rfl)
      obtain ⟨k0, k1, k2, k3⟩ := HFc.out W hw
      simp only [Nat.reduceAdd, h17] at hK ⊢
      go_simp
      exact hK.out _ _ rfl (Below.refl _ _)
    case o19 =>
      intro vs W hw hd K hK
      have h17 : vs 17 = .bool true := hd 17 (by kernel_rfl)
      simp only [Nat.reduceAdd, h17] at hK ⊢
      go_simp
      exact hK.out _ _ rfl (Below.refl _ _)
    case o20 =>
      intro vs W hw hd K hK
      have h17 : vs 17 = .bool true := hd 17 (by kernel_rfl)
      have h18 : vs 18 = .agg #[.string tf, .string xf, .slice a n cap, .int .i64 af] := hd 18 (by kernel_rfl)
      have h19 : vs 19 = .string so := hd 19 (by kernel_rfl)
      simp only [Nat.reduceAdd, h17, h18, h19] at hK ⊢
      go_simp
      refine (c7.out W (HF.out W hw)).mono ?_
      rintro e W' ⟨rfl, hb'⟩
      exact hK.out _ _ rfl hb'
    case o21 =>
      intro vs W hw hd K hK
      have h17 : vs 17 = .bool true := hd 17 (by kernel_rfl)
      obtain ⟨k0, k1, k2, k3⟩ := HFc.out W hw
      simp only [Nat.reduceAdd, h17] at hK ⊢
      go_simp
      exact hK.out _ _ rfl (Below.refl _ _)
    case o22 =>
      intro vs W hw hd K hK
      have h17 : vs 17 = .bool true := hd 17 (by kernel_rfl)
      simp only [Nat.reduceAdd, h17] at hK ⊢
      go_simp
      exact hK.out _ _ rfl (Below.refl _ _)
    case o23 =>
      intro vs W hw hd K hK
      have h17 : vs 17 = .bool true := hd 17 (by kernel_rfl)
      have h21 : vs 21 = .agg #[.string tf, .string xf, .slice a n cap, .int .i64 af] := hd 21 (by kernel_rfl)
      have h22 : vs 22 = .string so := hd 22 (by kernel_rfl)
      simp only [Nat.reduceAdd, h17, h21, h22] at hK ⊢
      go_simp
      refine (c8.out W (HF.out W hw)).mono ?_
      rintro e W' ⟨rfl, hb'⟩
      exact hK.out _ _ rfl hb'
    case o24 =>
      intro vs W hw hd K hK
      have h17 : vs 17 = .bool true := hd 17 (by kernel_rfl)
      have h20 : vs 20 = .string pl := hd 20 (by kernel_rfl)
      have h23 : vs 23 = .string pl := hd 23 (by kernel_rfl)
      simp only [Nat.reduceAdd, h17, h20, h23] at hK ⊢
      go_simp
      exact hK.out _ _ rfl (Below.refl _ _)
    case o25 =>
      intro vs W hw hd K hK
      have h17 : vs 17 = .bool true := hd 17 (by kernel_rfl)
      have h24 : vs 24 = .bool true := hd 24 (by kernel_rfl)
      simp only [Nat.reduceAdd, h17, h24] at hK ⊢
      go_simp
      exact hK.out _ _ rfl (Below.refl _ _)
    case o26 =>
      intro vs W hw hd K hK
      have h25 : vs 25 = .bool true := hd 25 (by kernel_rfl)
      simp only [Nat.reduceAdd, h25] at hK ⊢
      go_simp
      exact hK.out _ _ rfl (Below.refl _ _)
  case hfin =>
    intro vs W hw hv'
    have h26 : vs 26 = .bool true := hv' 26 (by decide)
    simp only [Nat.reduceAdd, h26]
    have b5 := b4.trans (hw.mono b4.size)
    clear hv' HF HFc c4 c5 c6 c7 c8
    go_wp2
    go_ret
    exact ⟨rfl, b5⟩
end Go.Proofs.YtjajihemcaihmaaDoor
