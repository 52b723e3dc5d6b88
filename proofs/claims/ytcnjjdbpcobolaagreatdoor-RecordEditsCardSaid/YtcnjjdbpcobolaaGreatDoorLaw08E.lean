/- The statement RecordEdits of layer 8 over this translation: it returns true. -/
import Derived.Test.YtcnjjdbpcobolaaGreatDoorQ32
import Derived.Test.YtcnjjdbpcobolaaGreatDoorQ28
import Derived.Test.YtcnjjdbpcobolaaGreatDoorQ30
import Derived.Test.YtcnjjdbpcobolaaGreatDoorQ16
import Derived.Test.YtcnjjdbpcobolaaGreatDoorQ34
namespace Go.Proofs.YtcnjjdbpcobolaaGreatDoor
open Go.RowKit Go.PlainAid

/-- A field in its box. -/
structure FX (b : Nat) (f : Fld) (x : Value) (W : World) : Prop where
  bx : W.heap[b]? = some (.cells #[.string (S f.tag), .string (S f.ind), x, .int .i64 f.auth] 35 (0, 0))
  q : QL x f.subs W
theorem FX.lt {b : Nat} {f : Fld} {x : Value} {W : World} (h : FX b f x W) : b < W.heap.size := (Array.getElem?_eq_some_iff.1 h.bx).1
theorem FX.after {b : Nat} {f : Fld} {x : Value} {W W' : World} (h : FX b f x W) (hb : Below W.heap.size W W') : FX b f x W' := ⟨(hb.block _ h.lt).trans h.bx, h.q.after hb⟩
theorem FX.new {f : Fld} {x : Value} {w : World} (h : QL x f.subs w) : FX w.heap.size f x (w.alloc (.cells #[.string (S f.tag), .string (S f.ind), x, .int .i64 f.auth] 35)) :=
  ⟨heap_alloc_new w _, h.after ((Below.refl w.heap.size w).alloc (Nat.le_refl _) _)⟩
theorem FX.cells {b : Nat} {f : Fld} {x : Value} {W : World} (h : FX b f x W) : W.cell? ⟨b, 0, none⟩ = some (.string (S f.tag)) ∧ W.cell? ⟨b, 1, none⟩ = some (.string (S f.ind)) ∧ W.cell? ⟨b, 2, none⟩ = some x ∧ W.cell? ⟨b, 3, none⟩ = some (.int .i64 f.auth) := (fld_cells h.bx).1

set_option maxHeartbeats 16000000 in
set_option maxRecDepth 100000 in
theorem lawEdits_any (r : Rec) (u : Value) (i : Int) (f : Fld) (x : Value) (w : World) (hE : EnvR w) (hu : FL u r.fields w) (hx : QL x f.subs w) :
    Calls Tryz.prog 5 #[RV r u, .int .i64 i, FV f x] w fun e w' => e = .returned (.bool true) ∧ Below w.heap.size w w' := by
  have c0 := Lib.hid (fun W hE => alive_any W hE)
  have br := (Below.refl w.heap.size w).alloc (Nat.le_refl _) (.cells #[.int .i64 r.id, .int .i64 r.ver, .int .i64 r.kind, .string (S r.lang), u] 24)
  have hX := RB.new hu
  have hF := FX.new (hx.after br)
  have hE1 := hE.after br
  obtain ⟨W1, hW1⟩ : ∃ W1, w.alloc (.cells #[.int .i64 r.id, .int .i64 r.ver, .int .i64 r.kind, .string (S r.lang), u] 24) = W1 := ⟨_, rfl⟩
  rw [hW1] at br hX hF hE1
  have hs1 : W1.heap.size = w.heap.size + 1 := by rw [← hW1]; simp
  have bf := (Below.refl W1.heap.size W1).alloc (Nat.le_refl _) (.cells #[.string (S f.tag), .string (S f.ind), x, .int .i64 f.auth] 35)
  replace hX := hX.after bf
  have hE0 := hE1.after bf
  have b0 := br.trans (bf.mono br.size)
  rw [hs1] at hF
  obtain ⟨W0, hW0⟩ : ∃ W0, W1.alloc (.cells #[.string (S f.tag), .string (S f.ind), x, .int .i64 f.auth] 35) = W0 := ⟨_, rfl⟩
  rw [hW0] at b0 hX hF hE0
  rw [← hW1] at hW0
  have HW0 := Lib.hid hW0
  obtain ⟨vb, hvb⟩ : ∃ vb, (smallRB r && decide (rightRI r = 0)) = vb := ⟨_, rfl⟩
  obtain ⟨fb, hfb⟩ : ∃ fb, smallFB f = fb := ⟨_, rfl⟩
  have cV := Lib.hid (fun W h => lvalid_any r u W h vb hvb)
  have cF := Lib.hid (fun W h => refSmallField_any f x W h fb hfb)
  obtain ⟨a, cap, rfl, _, _⟩ := hu.length
  obtain ⟨ax, cx, rfl, _⟩ := id hx
  clear hW0 hE hu hx br bf hE1 hW1 hs1 W1
  unfold RV FV at *
  obtain ⟨n, hn⟩ : ∃ n, r.fields.length = n := ⟨_, rfl⟩
  obtain ⟨m, hm⟩ : ∃ m, f.subs.length = m := ⟨_, rfl⟩
  rw [hn] at HW0 cV hX
  rw [hm] at HW0 cF hF
  rw [hn, hm]
  obtain ⟨k0, k1, k2, k3, k4⟩ := hX.cells
  obtain ⟨m0, m1, m2, m3⟩ := hF.cells
  cases vb
  · clear hn hm hvb hfb
    go_enter Tryz.func5, Tryz.ntmps5
    go_upto_region 1 with fail
    rw [HW0.out]
    go_wp2_with fail
    refine (cV.out _ hX.q).mono ?_
    rintro e w1 ⟨rfl, c⟩
    have b1 := b0.trans (c.mono b0.size)
    have hE1 := hE0.after c
    clear c b0 k0 k1 k2 k3 k4 m0 m1 m2 m3
    go_wp2_with fail
    refine (c0.out _ hE1).mono ?_
    rintro e w2 ⟨rfl, c⟩
    have b2 := b1.trans (c.mono b1.size)
    clear c b1
    go_wp2
    go_ret
    exact ⟨rfl, b2⟩
  cases fb
  · clear hn hm hvb hfb
    go_enter Tryz.func5, Tryz.ntmps5
    go_upto_region 1 with fail
    rw [HW0.out]
    go_wp2_with fail
    refine (cV.out _ hX.q).mono ?_
    rintro e w1 ⟨rfl, c⟩
    have b1 := b0.trans (c.mono b0.size)
    have hE1 := hE0.after c
    have hF1 := hF.after c
    clear c b0 k0 k1 k2 k3 k4 m0 m1 m2 m3
    obtain ⟨m0, m1, m2, m3⟩ := hF1.cells
    go_wp2_with fail
    refine (cF.out _ hF1.q).mono ?_
    rintro e w2 ⟨rfl, c⟩
    have b2 := b1.trans (c.mono b1.size)
    have hE2 := hE1.after c
    clear c b1 m0 m1 m2 m3
    go_wp2_with fail
    refine (c0.out _ hE2).mono ?_
    rintro e w3 ⟨rfl, c⟩
    have b3 := b2.trans (c.mono b2.size)
    clear c b2
    go_wp2
    go_ret
    exact ⟨rfl, b3⟩
  have hsm : smallRB r = true := by
    cases h : smallRB r
    · rw [h] at hvb; cases hvb
    · rfl
  obtain ⟨hs1, hs2⟩ := smallR_le r hsm
  have hz : ∀ j, j < f.subs.length → (f.subs.getD j sub0).2.length ≤ 1000000 := fun j _ => Nat.le_trans ((smallF_le f hfb).2 j) (by decide)
  obtain ⟨⟨qi, ei⟩, hqi⟩ : ∃ p, insR r i f = p := ⟨_, rfl⟩
  obtain ⟨⟨qr, er⟩, hqr⟩ : ∃ p, remR r i = p := ⟨_, rfl⟩
  have c1 := Lib.hid (fun W hE (h : FL (.slice a r.fields.length cap) r.fields W) (h2 : QL (.slice ax f.subs.length cx) f.subs W) => pInsert_any r _ W hE h i f _ h2 hz (by omega) qi ei hqi)
  have c2 := Lib.hid (fun W (h : FL (.slice a r.fields.length cap) r.fields W) (h2 : QL (.slice ax f.subs.length cx) f.subs W) => refInsert_any r _ W h i f _ h2 hz (by omega) qi ei hqi)
  have c3 := Lib.hid (fun W (h : FL (.slice a r.fields.length cap) r.fields W) => pRemove_any r _ W h i (by omega) qr er hqr)
  have c4 := Lib.hid (fun W (h : FL (.slice a r.fields.length cap) r.fields W) => refRemove_any r _ W h i (by omega) qr er hqr)
  have cS := Lib.hid (fun (q : Rec) u v W hu hv => refSame08_any q q u v W hu hv true ((sameRB_iff q q).2 rfl))
  unfold RV FV at c1 c2
  unfold RV at c3 c4 cS
  rw [hn] at c1 c2 c3 c4
  rw [hm] at c1 c2
  clear hn hm hvb hfb hsm hs1 hs2 hz hqi hqr
  have de : decide (ei = ei) = true := decide_eq_true rfl
  go_enter Tryz.func5, Tryz.ntmps5
  go_upto_region 1 with fail
  rw [HW0.out]
  go_wp2_with fail
  refine (cV.out _ hX.q).mono ?_
  rintro e w1 ⟨rfl, c⟩
  have hb := b0.trans (c.mono b0.size)
  replace hE0 := hE0.after c
  replace hF := hF.after c
  replace hX := hX.after c
  clear c b0 k0 k1 k2 k3 k4 m0 m1 m2 m3
  obtain ⟨m0, m1, m2, m3⟩ := hF.cells
  go_wp2_with fail
  refine (cF.out _ hF.q).mono ?_
  rintro e w2 ⟨rfl, c⟩
  replace hb := hb.trans (c.mono hb.size)
  replace hE0 := hE0.after c
  replace hF := hF.after c
  replace hX := hX.after c
  clear c m0 m1 m2 m3
  obtain ⟨k0, k1, k2, k3, k4⟩ := hX.cells
  obtain ⟨m0, m1, m2, m3⟩ := hF.cells
  go_wp2_with fail
  refine (c1.out _ hE0.e hX.q hF.q).mono ?_
  rintro e w3 ⟨v3, rfl, hv3, c⟩
  obtain ⟨a3, p3, rfl, _, _⟩ := hv3.length
  have hR3 := RB.new hv3
  have hal := (Below.refl w3.heap.size w3).alloc (Nat.le_refl _) (.cells #[.int .i64 qi.id, .int .i64 qi.ver, .int .i64 qi.kind, .string (S qi.lang), .slice a3 qi.fields.length p3] 24)
  replace hb := (hb.trans (c.mono hb.size)).trans (hal.mono (hb.trans (c.mono hb.size)).size)
  replace hE0 := (hE0.after c).after hal
  replace hF := (hF.after c).after hal
  replace hX := (hX.after c).after hal
  obtain ⟨W3, hW3⟩ : ∃ W3, w3.alloc (.cells #[.int .i64 qi.id, .int .i64 qi.ver, .int .i64 qi.kind, .string (S qi.lang), .slice a3 qi.fields.length p3] 24) = W3 := ⟨_, rfl⟩
  rw [hW3] at hb hE0 hF hX hR3
  have HW3 := Lib.hid hW3
  clear c hal hW3 hv3 k0 k1 k2 k3 k4 m0 m1 m2 m3
  obtain ⟨b3, hb3⟩ : ∃ b3, w3.heap.size = b3 := ⟨_, rfl⟩
  rw [hb3] at hR3
  have HB3 := Lib.hid hb3
  clear hb3
  go_upto_region 4 with fail
  rw [HW3.out, HB3.out]
  obtain ⟨k0, k1, k2, k3, k4⟩ := hX.cells
  obtain ⟨m0, m1, m2, m3⟩ := hF.cells
  go_wp2_with fail
  refine (c2.out _ hX.q hF.q).mono ?_
  rintro e w4 ⟨v4, rfl, hv4, c⟩
  obtain ⟨a4, p4, rfl, _, _⟩ := hv4.length
  have hR4 := RB.new hv4
  have hal := (Below.refl w4.heap.size w4).alloc (Nat.le_refl _) (.cells #[.int .i64 qi.id, .int .i64 qi.ver, .int .i64 qi.kind, .string (S qi.lang), .slice a4 qi.fields.length p4] 24)
  replace hb := (hb.trans (c.mono hb.size)).trans (hal.mono (hb.trans (c.mono hb.size)).size)
  replace hE0 := (hE0.after c).after hal
  replace hF := (hF.after c).after hal
  replace hX := (hX.after c).after hal
  replace hR3 := (hR3.after c).after hal
  obtain ⟨W4, hW4⟩ : ∃ W4, w4.alloc (.cells #[.int .i64 qi.id, .int .i64 qi.ver, .int .i64 qi.kind, .string (S qi.lang), .slice a4 qi.fields.length p4] 24) = W4 := ⟨_, rfl⟩
  rw [hW4] at hb hE0 hF hX hR3 hR4
  have HW4 := Lib.hid hW4
  clear c hal hW4 hv4 k0 k1 k2 k3 k4 m0 m1 m2 m3
  obtain ⟨b4, hb4⟩ : ∃ b4, w4.heap.size = b4 := ⟨_, rfl⟩
  rw [hb4] at hR4
  have HB4 := Lib.hid hb4
  clear hb4
  go_upto_region 5 with fail
  rw [HW4.out, HB4.out]
  obtain ⟨k0, k1, k2, k3, k4⟩ := hX.cells
  obtain ⟨m0, m1, m2, m3⟩ := hF.cells
  go_wp2_with fail
  refine (c3.out _ hX.q).mono ?_
  rintro e w5 ⟨v5, rfl, hv5, c⟩
  obtain ⟨a5, p5, rfl, _, _⟩ := hv5.length
  have hR5 := RB.new hv5
  have hal := (Below.refl w5.heap.size w5).alloc (Nat.le_refl _) (.cells #[.int .i64 qr.id, .int .i64 qr.ver, .int .i64 qr.kind, .string (S qr.lang), .slice a5 qr.fields.length p5] 24)
  replace hb := (hb.trans (c.mono hb.size)).trans (hal.mono (hb.trans (c.mono hb.size)).size)
  replace hE0 := (hE0.after c).after hal
  replace hF := (hF.after c).after hal
  replace hX := (hX.after c).after hal
  replace hR3 := (hR3.after c).after hal
  replace hR4 := (hR4.after c).after hal
  obtain ⟨W5, hW5⟩ : ∃ W5, w5.alloc (.cells #[.int .i64 qr.id, .int .i64 qr.ver, .int .i64 qr.kind, .string (S qr.lang), .slice a5 qr.fields.length p5] 24) = W5 := ⟨_, rfl⟩
  rw [hW5] at hb hE0 hF hX hR3 hR4 hR5
  have HW5 := Lib.hid hW5
  clear c hal hW5 hv5 k0 k1 k2 k3 k4 m0 m1 m2 m3
  obtain ⟨b5, hb5⟩ : ∃ b5, w5.heap.size = b5 := ⟨_, rfl⟩
  rw [hb5] at hR5
  have HB5 := Lib.hid hb5
  clear hb5
  go_upto_region 6 with fail
  rw [HW5.out, HB5.out]
  obtain ⟨k0, k1, k2, k3, k4⟩ := hX.cells
  obtain ⟨m0, m1, m2, m3⟩ := hF.cells
  go_wp2_with fail
  refine (c4.out _ hX.q).mono ?_
  rintro e w6 ⟨v6, rfl, hv6, c⟩
  obtain ⟨a6, p6, rfl, _, _⟩ := hv6.length
  have hR6 := RB.new hv6
  have hal := (Below.refl w6.heap.size w6).alloc (Nat.le_refl _) (.cells #[.int .i64 qr.id, .int .i64 qr.ver, .int .i64 qr.kind, .string (S qr.lang), .slice a6 qr.fields.length p6] 24)
  replace hb := (hb.trans (c.mono hb.size)).trans (hal.mono (hb.trans (c.mono hb.size)).size)
  replace hE0 := (hE0.after c).after hal
  replace hF := (hF.after c).after hal
  replace hX := (hX.after c).after hal
  replace hR3 := (hR3.after c).after hal
  replace hR4 := (hR4.after c).after hal
  replace hR5 := (hR5.after c).after hal
  obtain ⟨W6, hW6⟩ : ∃ W6, w6.alloc (.cells #[.int .i64 qr.id, .int .i64 qr.ver, .int .i64 qr.kind, .string (S qr.lang), .slice a6 qr.fields.length p6] 24) = W6 := ⟨_, rfl⟩
  rw [hW6] at hb hE0 hF hX hR3 hR4 hR5 hR6
  have HW6 := Lib.hid hW6
  clear c hal hW6 hv6 k0 k1 k2 k3 k4 m0 m1 m2 m3
  obtain ⟨b6, hb6⟩ : ∃ b6, w6.heap.size = b6 := ⟨_, rfl⟩
  rw [hb6] at hR6
  have HB6 := Lib.hid hb6
  clear hb6
  go_upto_region 7 with fail
  rw [HW6.out, HB6.out]
  clear HW3 HW4 HW5 HW6 HB3 HB4 HB5 HB6 c1 c2 c3 c4 cV cF HW0
  obtain ⟨k0, k1, k2, k3, k4⟩ := hR3.cells
  obtain ⟨l0, l1, l2, l3, l4⟩ := hR4.cells
  go_wp2_with fail
  refine (cS.out qi _ _ _ hR3.q hR4.q).mono ?_
  rintro e w7 ⟨rfl, c⟩
  replace hb := hb.trans (c.mono hb.size)
  replace hE0 := hE0.after c
  replace hR5 := hR5.after c
  replace hR6 := hR6.after c
  clear c k0 k1 k2 k3 k4 l0 l1 l2 l3 l4
  obtain ⟨k0, k1, k2, k3, k4⟩ := hR5.cells
  obtain ⟨l0, l1, l2, l3, l4⟩ := hR6.cells
  go_wp2_with fail
  refine (cS.out qr _ _ _ hR5.q hR6.q).mono ?_
  rintro e w8 ⟨rfl, c⟩
  replace hb := hb.trans (c.mono hb.size)
  replace hE0 := hE0.after c
  clear c k0 k1 k2 k3 k4 l0 l1 l2 l3 l4
  go_wp2_with fail
  refine (c0.out _ hE0).mono ?_
  rintro e w9 ⟨rfl, c⟩
  replace hb := hb.trans (c.mono hb.size)
  clear c
  go_wp2
  go_ret
  exact ⟨rfl, hb⟩
end Go.Proofs.YtcnjjdbpcobolaaGreatDoor
