/- The statement FieldChecks of layer 7 over this translation: it returns true. -/
import Derived.Test.YtjajihemcaihmaaDoorLA07
import Derived.Test.YtjajihemcaihmaaDoorRegInv
namespace Go.Proofs.YtjajihemcaihmaaDoor
open Go.RowKit Go.PlainAid

set_option maxHeartbeats 16000000 in
set_option maxRecDepth 100000 in
theorem lawChecks_any (f g : Fld) (u v : Value) (w : World) (hE : Env w) (hu : QL u f.subs w) (hv : QL v g.subs w) :
    Calls Tryd.prog 3 #[FV f u, FV g v] w fun e w' => e = .returned (.bool true) ∧ Below w.heap.size w w' := by
  have c0 := Lib.hid (fun W hE => alive_any W hE)
  have bf : Below w.heap.size w (w.alloc (.cells #[.string (S f.tag), .string (S f.ind), u, .int .i64 f.auth] 24)) := (Below.refl w.heap.size w).alloc (Nat.le_refl _) _
  have hF0 := FB.new hE hu
  have hG0 := FB.new (hE.after bf) (hv.after bf)
  have bg := (Below.refl (w.alloc (.cells #[.string (S f.tag), .string (S f.ind), u, .int .i64 f.auth] 24)).heap.size (w.alloc (.cells #[.string (S f.tag), .string (S f.ind), u, .int .i64 f.auth] 24))).alloc (Nat.le_refl _) (.cells #[.string (S g.tag), .string (S g.ind), v, .int .i64 g.auth] 24)
  replace hF0 := hF0.after bg
  have b0 := bf.trans (bg.mono bf.size)
  rw [show (w.alloc (.cells #[.string (S f.tag), .string (S f.ind), u, .int .i64 f.auth] 24)).heap.size = w.heap.size + 1 by simp] at hG0
  clear bf bg hE
  obtain ⟨a, cap, rfl, _, _⟩ := hu.length
  obtain ⟨a', cap', rfl, _, _⟩ := hv.length
  unfold FV
  clear hu hv
  generalize hun : (Value.slice a f.subs.length cap) = u at *
  generalize hvn : (Value.slice a' g.subs.length cap') = v at *
  cases hsf : smallB f
  · have c1 := Lib.hid (fun W (h : FB w.heap.size f u W) => small_any f _ W h.q false hsf)
    unfold FV at c1
    go_enter Tryd.func3, Tryd.ntmps3
    skip
    go_wp2_with fail
    refine (c0.out _ hF0.e).mono ?_
    rintro e w1 ⟨rfl, c⟩
    have b1 := b0.trans (c.mono b0.size)
    have hF1 := hF0.after c
    have hG1 := hG0.after c
    clear c b0 hF0 hG0
    obtain ⟨k0, k1, k2, k3⟩ := hF1.cells
    obtain ⟨m0, m1, m2, m3⟩ := hG1.cells
    go_wp2_with fail
    refine (c1.out _ hF1).mono ?_
    rintro e w2 ⟨rfl, c⟩
    have b2 := b1.trans (c.mono b1.size)
    have hF2 := hF1.after c
    have hG2 := hG1.after c
    clear c b1 hF1 hG1 k0 k1 k2 k3 m0 m1 m2 m3
    clear hF2 hG2
    go_wp2
    go_ret
    exact ⟨rfl, b2⟩
  have c1 := Lib.hid (fun W (h : FB w.heap.size f u W) => small_any f _ W h.q true hsf)
  cases hsg : smallB g
  · have c2 := Lib.hid (fun W (h : FB (w.heap.size + 1) g v W) => small_any g _ W h.q false hsg)
    unfold FV at c1 c2
    go_enter Tryd.func3, Tryd.ntmps3
    skip
    go_wp2_with fail
    refine (c0.out _ hF0.e).mono ?_
    rintro e w1 ⟨rfl, c⟩
    have b1 := b0.trans (c.mono b0.size)
    have hF1 := hF0.after c
    have hG1 := hG0.after c
    clear c b0 hF0 hG0
    obtain ⟨k0, k1, k2, k3⟩ := hF1.cells
    obtain ⟨m0, m1, m2, m3⟩ := hG1.cells
    go_wp2_with fail
    refine (c1.out _ hF1).mono ?_
    rintro e w2 ⟨rfl, c⟩
    have b2 := b1.trans (c.mono b1.size)
    have hF2 := hF1.after c
    have hG2 := hG1.after c
    clear c b1 hF1 hG1 k0 k1 k2 k3 m0 m1 m2 m3
    obtain ⟨k0, k1, k2, k3⟩ := hF2.cells
    obtain ⟨m0, m1, m2, m3⟩ := hG2.cells
    go_wp2_with fail
    refine (c2.out _ hG2).mono ?_
    rintro e w3 ⟨rfl, c⟩
    have b3 := b2.trans (c.mono b2.size)
    have hF3 := hF2.after c
    have hG3 := hG2.after c
    clear c b2 hF2 hG2 k0 k1 k2 k3 m0 m1 m2 m3
    clear hF3 hG3
    go_wp2
    go_ret
    exact ⟨rfl, b3⟩
  have c2 := Lib.hid (fun W (h : FB (w.heap.size + 1) g v W) => small_any g _ W h.q true hsg)
  obtain ⟨er, her⟩ : ∃ er, rightI f = er := ⟨_, rfl⟩
  obtain ⟨sb, hsb⟩ : ∃ sb, sameB f g = sb := ⟨_, rfl⟩
  have c3 := Lib.hid (fun W (h : FB w.heap.size f u W) => pRight f _ W h.e h.q (small_le f hsf) er her)
  have c4 := Lib.hid (fun W (h : FB w.heap.size f u W) => refRight_any f _ W h.q (fun i hi => by have := small_le f hsf i hi; omega) er her)
  have c5 := Lib.hid (fun W (h : FB w.heap.size f u W) (h' : FB (w.heap.size + 1) g v W) => pSame f g u v W h.q h'.q sb hsb)
  have c6 := Lib.hid (fun W (h : FB w.heap.size f u W) (h' : FB (w.heap.size + 1) g v W) => refSame_any f g u v W h.q h'.q sb hsb)
  have c7 := Lib.hid (fun W (h : FB w.heap.size f u W) => pSame f f u u W h.q h.q true (same_self f))
  unfold FV at c1 c2 c3 c4 c5 c6 c7
  clear hsb her hsf hsg
  go_enter Tryd.func3, Tryd.ntmps3
  skip
  go_wp2_with fail
  refine (c0.out _ hF0.e).mono ?_
  rintro e w1 ⟨rfl, c⟩
  have b1 := b0.trans (c.mono b0.size)
  have hF1 := hF0.after c
  have hG1 := hG0.after c
  clear c b0 hF0 hG0
  obtain ⟨k0, k1, k2, k3⟩ := hF1.cells
  obtain ⟨m0, m1, m2, m3⟩ := hG1.cells
  go_wp2_with fail
  refine (c1.out _ hF1).mono ?_
  rintro e w2 ⟨rfl, c⟩
  have b2 := b1.trans (c.mono b1.size)
  have hF2 := hF1.after c
  have hG2 := hG1.after c
  clear c b1 hF1 hG1 k0 k1 k2 k3 m0 m1 m2 m3
  obtain ⟨k0, k1, k2, k3⟩ := hF2.cells
  obtain ⟨m0, m1, m2, m3⟩ := hG2.cells
  go_wp2_with fail
  refine (c2.out _ hG2).mono ?_
  rintro e w3 ⟨rfl, c⟩
  have b3 := b2.trans (c.mono b2.size)
  have hF3 := hF2.after c
  have hG3 := hG2.after c
  clear c b2 hF2 hG2 k0 k1 k2 k3 m0 m1 m2 m3
  have HF := Lib.hid (fun W (h : Below w3.heap.size w3 W) => hF3.after h)
  have HG := Lib.hid (fun W (h : Below w3.heap.size w3 W) => hG3.after h)
  have HFc := Lib.hid (fun W (h : Below w3.heap.size w3 W) => (hF3.after h).cells)
  have HGc := Lib.hid (fun W (h : Below w3.heap.size w3 W) => (hG3.after h).cells)
  clear hF3 hG3
  obtain ⟨tf, htf⟩ : ∃ x, S f.tag = x := ⟨_, rfl⟩
  obtain ⟨xf, hxf⟩ : ∃ x, S f.ind = x := ⟨_, rfl⟩
  obtain ⟨tg, htg⟩ : ∃ x, S g.tag = x := ⟨_, rfl⟩
  obtain ⟨xg, hxg⟩ : ∃ x, S g.ind = x := ⟨_, rfl⟩
  obtain ⟨af, haf⟩ : ∃ x, f.auth = x := ⟨_, rfl⟩
  obtain ⟨ag, hag⟩ : ∃ x, g.auth = x := ⟨_, rfl⟩
  rw [htf, hxf, haf] at HFc c3 c4 c5 c6 c7 ⊢
  rw [htg, hxg, hag] at HGc c5 c6 ⊢
  clear htf hxf htg hxg haf hag c0 c1 c2 hun hvn
  go_wp2
  apply wp_region_inv (V := [.eq (.agg #[.string tf, .string xf, u, .int .i64 af]), .eq (.int .i64 er), .eq (.agg #[.string tf, .string xf, u, .int .i64 af]), .eq (.int .i64 er), .eq (.bool true), .eq (.bool true), .eq (.agg #[.string tf, .string xf, u, .int .i64 af]), .eq (.agg #[.string tg, .string xg, v, .int .i64 ag]), .eq (.bool sb), .eq (.agg #[.string tf, .string xf, u, .int .i64 af]), .eq (.agg #[.string tg, .string xg, v, .int .i64 ag]), .eq (.bool sb), .eq (.bool true), .eq (.bool true), .eq (.bool true), .eq (.agg #[.string tf, .string xf, u, .int .i64 af]), .eq (.agg #[.string tf, .string xf, u, .int .i64 af]), .eq (.bool true), .eq (.bool true), .eq (.bool true)])
  case hm => kernel_rfl
  case hd => kernel_rfl
  case hb => kernel_rfl
  case hA =>
    intro vs
    simp only [puts, Act.put, List.setIfInBounds_toArray, List.set_cons_zero, List.set_cons_succ]
    exact rfl
  case hob =>
    refine Obs.cons _ _ _ _ _ _ ?o0 (Obs.cons _ _ _ _ _ _ ?o1 (Obs.cons _ _ _ _ _ _ ?o2 (Obs.cons _ _ _ _ _ _ ?o3 (Obs.cons _ _ _ _ _ _ ?o4 (Obs.cons _ _ _ _ _ _ ?o5 (Obs.cons _ _ _ _ _ _ ?o6 (Obs.cons _ _ _ _ _ _ ?o7 (Obs.cons _ _ _ _ _ _ ?o8 (Obs.cons _ _ _ _ _ _ ?o9 (Obs.cons _ _ _ _ _ _ ?o10 (Obs.cons _ _ _ _ _ _ ?o11 (Obs.cons _ _ _ _ _ _ ?o12 (Obs.cons _ _ _ _ _ _ ?o13 (Obs.cons _ _ _ _ _ _ ?o14 (Obs.cons _ _ _ _ _ _ ?o15 (Obs.cons _ _ _ _ _ _ ?o16 (Obs.cons _ _ _ _ _ _ ?o17 (Obs.cons _ _ _ _ _ _ ?o18 (Obs.cons _ _ _ _ _ _ ?o19 (Obs.nil _ _ _ _ _ _))))))))))))))))))))
    case o0 =>
      intro vs W hw hd K hK
      obtain ⟨k0, k1, k2, k3⟩ := HFc.out W hw
      go_simp
      exact hK.out _ _ rfl (Below.refl _ _)
    case o1 =>
      intro vs W hw hd K hK
      have h0 : vs 0 = .agg #[.string tf, .string xf, u, .int .i64 af] := hd 0 (by kernel_rfl)
      simp only [Nat.reduceAdd, h0] at hK ⊢
      go_simp
      refine (c3.out W (HF.out W hw)).mono ?_
      rintro e W' ⟨rfl, hb'⟩
      exact hK.out _ _ rfl hb'
    case o2 =>
      intro vs W hw hd K hK
      obtain ⟨k0, k1, k2, k3⟩ := HFc.out W hw
      go_simp
      exact hK.out _ _ rfl (Below.refl _ _)
    case o3 =>
      intro vs W hw hd K hK
      have h2 : vs 2 = .agg #[.string tf, .string xf, u, .int .i64 af] := hd 2 (by kernel_rfl)
      simp only [Nat.reduceAdd, h2] at hK ⊢
      go_simp
      refine (c4.out W (HF.out W hw)).mono ?_
      rintro e W' ⟨rfl, hb'⟩
      exact hK.out _ _ rfl hb'
    case o4 =>
      intro vs W hw hd K hK
      have h1 : vs 1 = .int .i64 er := hd 1 (by kernel_rfl)
      have h3 : vs 3 = .int .i64 er := hd 3 (by kernel_rfl)
      simp only [Nat.reduceAdd, h1, h3] at hK ⊢
      go_simp
      exact hK.out _ _ rfl (Below.refl _ _)
    case o5 =>
      intro vs W hw hd K hK
      have h4 : vs 4 = .bool true := hd 4 (by kernel_rfl)
      simp only [Nat.reduceAdd, h4] at hK ⊢
      go_simp
      exact hK.out _ _ rfl (Below.refl _ _)
    case o6 =>
      intro vs W hw hd K hK
      have h5 : vs 5 = .bool true := hd 5 (by kernel_rfl)
      obtain ⟨k0, k1, k2, k3⟩ := HFc.out W hw
      simp only [Nat.reduceAdd, h5] at hK ⊢
      go_simp
      exact hK.out _ _ rfl (Below.refl _ _)
    case o7 =>
      intro vs W hw hd K hK
      have h5 : vs 5 = .bool true := hd 5 (by kernel_rfl)
      obtain ⟨m0, m1, m2, m3⟩ := HGc.out W hw
      simp only [Nat.reduceAdd, h5] at hK ⊢
      go_simp
      exact hK.out _ _ rfl (Below.refl _ _)
    case o8 =>
      intro vs W hw hd K hK
      have h5 : vs 5 = .bool true := hd 5 (by kernel_rfl)
      have h6 : vs 6 = .agg #[.string tf, .string xf, u, .int .i64 af] := hd 6 (by kernel_rfl)
      have h7 : vs 7 = .agg #[.string tg, .string xg, v, .int .i64 ag] := hd 7 (by kernel_rfl)
      simp only [Nat.reduceAdd, h5, h6, h7] at hK ⊢
      go_simp
      refine (c5.out W (HF.out W hw) (HG.out W hw)).mono ?_
      rintro e W' ⟨rfl, hb'⟩
      exact hK.out _ _ rfl hb'
    case o9 =>
      intro vs W hw hd K hK
      have h5 : vs 5 = .bool true := hd 5 (by kernel_rfl)
      obtain ⟨k0, k1, k2, k3⟩ := HFc.out W hw
      simp only [Nat.reduceAdd, h5] at hK ⊢
      go_simp
      exact hK.out _ _ rfl (Below.refl _ _)
    case o10 =>
      intro vs W hw hd K hK
      have h5 : vs 5 = .bool true := hd 5 (by kernel_rfl)
      obtain ⟨m0, m1, m2, m3⟩ := HGc.out W hw
      simp only [Nat.reduceAdd, h5] at hK ⊢
      go_simp
      exact hK.out _ _ rfl (Below.refl _ _)
    case o11 =>
      intro vs W hw hd K hK
      have h5 : vs 5 = .bool true := hd 5 (by kernel_rfl)
      have h9 : vs 9 = .agg #[.string tf, .string xf, u, .int .i64 af] := hd 9 (by kernel_rfl)
      have h10 : vs 10 = .agg #[.string tg, .string xg, v, .int .i64 ag] := hd 10 (by kernel_rfl)
      simp only [Nat.reduceAdd, h5, h9, h10] at hK ⊢
      go_simp
      refine (c6.out W (HF.out W hw) (HG.out W hw)).mono ?_
      rintro e W' ⟨rfl, hb'⟩
      exact hK.out _ _ rfl hb'
    case o12 =>
      intro vs W hw hd K hK
      have h5 : vs 5 = .bool true := hd 5 (by kernel_rfl)
      have h8 : vs 8 = .bool sb := hd 8 (by kernel_rfl)
      have h11 : vs 11 = .bool sb := hd 11 (by kernel_rfl)
      simp only [Nat.reduceAdd, h5, h8, h11] at hK ⊢
      go_simp
      exact hK.out _ _ rfl (Below.refl _ _)
    case o13 =>
      intro vs W hw hd K hK
      have h5 : vs 5 = .bool true := hd 5 (by kernel_rfl)
      have h12 : vs 12 = .bool true := hd 12 (by kernel_rfl)
      simp only [Nat.reduceAdd, h5, h12] at hK ⊢
      go_simp
      exact hK.out _ _ rfl (Below.refl _ _)
    case o14 =>
      intro vs W hw hd K hK
      have h13 : vs 13 = .bool true := hd 13 (by kernel_rfl)
      simp only [Nat.reduceAdd, h13] at hK ⊢
      go_simp
      exact hK.out _ _ rfl (Below.refl _ _)
    case o15 =>
      intro vs W hw hd K hK
      have h14 : vs 14 = .bool true := hd 14 (by kernel_rfl)
      obtain ⟨k0, k1, k2, k3⟩ := HFc.out W hw
      simp only [Nat.reduceAdd, h14] at hK ⊢
      go_simp
      exact hK.out _ _ rfl (Below.refl _ _)
    case o16 =>
      intro vs W hw hd K hK
      have h14 : vs 14 = .bool true := hd 14 (by kernel_rfl)
      obtain ⟨k0, k1, k2, k3⟩ := HFc.out W hw
      simp only [Nat.reduceAdd, h14] at hK ⊢
      go_simp
      exact hK.out _ _ rfl (Below.refl _ _)
    case o17 =>
      intro vs W hw hd K hK
      have h14 : vs 14 = .bool true := hd 14 (by kernel_rfl)
      have h15 : vs 15 = .agg #[.string tf, .string xf, u, .int .i64 af] := hd 15 (by kernel_rfl)
      have h16 : vs 16 = .agg #[.string tf, .string xf, u, .int .i64 af] := hd 16 (by kernel_rfl)
      simp only [Nat.reduceAdd, h14, h15, h16] at hK ⊢
      go_simp
      refine (c7.out W (HF.out W hw)).mono ?_
      rintro e W' ⟨rfl, hb'⟩
      exact hK.out _ _ rfl hb'
    case o18 =>
      intro vs W hw hd K hK
      have h14 : vs 14 = .bool true := hd 14 (by kernel_rfl)
      have h17 : vs 17 = .bool true := hd 17 (by kernel_rfl)
      simp only [Nat.reduceAdd, h14, h17] at hK ⊢
      go_simp
      exact hK.out _ _ rfl (Below.refl _ _)
    case o19 =>
      intro vs W hw hd K hK
      have h18 : vs 18 = .bool true := hd 18 (by kernel_rfl)
      simp only [Nat.reduceAdd, h18] at hK ⊢
      go_simp
      exact hK.out _ _ rfl (Below.refl _ _)
  case hfin =>
    intro vs W hw hv'
    have h19 : vs 19 = .bool true := hv' 19 (by decide)
    simp only [Nat.reduceAdd, h19]
    have b4 := b3.trans (hw.mono b3.size)
    clear hv' HF HG HFc HGc c3 c4 c5 c6 c7
    go_wp2
    go_ret
    exact ⟨rfl, b4⟩
end Go.Proofs.YtjajihemcaihmaaDoor
