/- The statement FieldKeeps of layer 7 over this translation: it returns true. -/
import Derived.Test.YtjajihemcaihmaaDoorLA07
import Derived.Test.YtjajihemcaihmaaDoorRegInv
namespace Go.Proofs.YtjajihemcaihmaaDoor
open Go.RowKit Go.PlainAid

def SP.bl (L : List (List UInt8)) : SP := ⟨fun x w => BL x L w, fun _ _ _ h b => h.after b⟩

set_option maxHeartbeats 16000000 in
set_option maxRecDepth 100000 in
theorem lawKeeps_any (f : Fld) (u : Value) (code : UInt8) (val : ByteArray) (oth : UInt8) (w : World) (hE : Env w) (hu : QL u f.subs w) :
    Calls Tryd.prog 8 #[FV f u, .int .u8 (code.toNat : Int), .string val, .int .u8 (oth.toNat : Int)] w fun e w' => e = .returned (.bool true) ∧ Below w.heap.size w w' := by
  have c0 := Lib.hid (fun W hE => alive_any W hE)
  have hB0 := FB.new hE hu
  have b0 : Below w.heap.size w (w.alloc (.cells #[.string (S f.tag), .string (S f.ind), u, .int .i64 f.auth] 24)) := (Below.refl w.heap.size w).alloc (Nat.le_refl _) _
  obtain ⟨a, cap, rfl, _, _⟩ := hu.length
  obtain ⟨l, rfl⟩ : ∃ l, S l = val := ⟨val.data.toList, rfl⟩
  have hvz := S_size l
  unfold FV
  generalize f.subs.length = n at *
  clear hu hE
  cases hs : smallB f
  · have c1 := Lib.hid (fun W (h : FB w.heap.size f (.slice a n cap) W) => small_any f _ W h.q false hs)
    unfold FV at c1
    generalize S l = val at *
    generalize l.length = m at *
    go_enter Tryd.func8, Tryd.ntmps8
    go_wp2_with fail
    refine (c0.out _ hB0.e).mono ?_
    rintro e w1 ⟨rfl, c⟩
    have b1 := b0.trans (c.mono b0.size)
    have hB1 := hB0.after c
    clear c b0 hB0
    obtain ⟨k0, k1, k2, k3⟩ := hB1.cells
    go_wp2_with fail
    refine (c1.out _ hB1).mono ?_
    rintro e w2 ⟨rfl, c⟩
    have b2 := b1.trans (c.mono b1.size)
    clear c b1 k0 k1 k2 k3
    go_wp2
    go_ret
    exact ⟨rfl, b2⟩
  have c1 := Lib.hid (fun W (h : FB w.heap.size f (.slice a n cap) W) => small_any f _ W h.q true hs)
  by_cases hl : 300 < l.length
  · have d1 : decide ((300 : Int) < (l.length : Int)) = true := decide_eq_true (by omega)
    unfold FV at c1
    clear hl
    generalize S l = val at *
    generalize l.length = m at *
    go_enter Tryd.func8, Tryd.ntmps8
    go_wp2_with fail
    refine (c0.out _ hB0.e).mono ?_
    rintro e w1 ⟨rfl, c⟩
    have b1 := b0.trans (c.mono b0.size)
    have hB1 := hB0.after c
    clear c b0 hB0
    obtain ⟨k0, k1, k2, k3⟩ := hB1.cells
    go_wp2_with fail
    refine (c1.out _ hB1).mono ?_
    rintro e w2 ⟨rfl, c⟩
    have b2 := b1.trans (c.mono b1.size)
    clear c b1 k0 k1 k2 k3
    go_wp2
    go_ret
    exact ⟨rfl, b2⟩
  have d1 : decide ((300 : Int) < (l.length : Int)) = false := decide_eq_false (by omega)
  have h30 := (small_of f hs).1
  have c2 := Lib.hid (fun W (h : FB w.heap.size f (.slice a n cap) W) => pSet f _ W h.q code l (by omega))
  obtain ⟨R, hR⟩ : ∃ R, setR f.subs code l = R := ⟨_, rfl⟩
  have hget := setR_get f.subs code l
  have hRl := setR_length f.subs code l
  rw [hR] at c2 hget hRl
  have c3 := Lib.hid (fun b v W (h : FB b { f with subs := R } v W) => pGet { f with subs := R } v W h.q code _ _ hget)
  have hq := S_eq l []
  have hq0 : (S l).toList.isEmpty = decide (l = []) := by
    rw [ByteArray.toList_eq]
    show l.isEmpty = _
    cases l <;> rfl
  have HAll : RowKit.Hid (oth ≠ code → allL R [oth] = allL f.subs [oth]) := by
    intro ho
    rw [← hR]
    exact setR_all f.subs code l oth ho
  obtain ⟨em, hem⟩ : ∃ em, decide (l = []) = em := ⟨_, rfl⟩
  rw [hem] at hq hq0 c3
  have c4 := Lib.hid (fun W (h : FB w.heap.size f (.slice a n cap) W) => pAll f _ W h.q [oth] (by omega))
  have c5 := Lib.hid (fun b v W (h : FB b { f with subs := R } v W) => pAll { f with subs := R } v W h.q [oth] (by show R.length ≤ 100; omega))
  have c6 := Lib.hid (fun L u v W (h : BL u L W) (h' : BL v L W) => refTexts_any L L u v W h h' true (decide_eq_true rfl))
  unfold FV at c1 c2 c3 c4 c5
  clear hl hs hR h30 hget hRl hem
  generalize S l = val at *
  generalize l.length = m at *
  go_enter Tryd.func8, Tryd.ntmps8
  go_wp2_with fail
  refine (c0.out _ hB0.e).mono ?_
  rintro e w1 ⟨rfl, c⟩
  have b1 := b0.trans (c.mono b0.size)
  have hB1 := hB0.after c
  clear c b0 hB0
  obtain ⟨k0, k1, k2, k3⟩ := hB1.cells
  go_wp2_with fail
  refine (c1.out _ hB1).mono ?_
  rintro e w2 ⟨rfl, c⟩
  have b2 := b1.trans (c.mono b1.size)
  have hB2 := hB1.after c
  clear c b1 k0 k1 k2 k3 hB1
  obtain ⟨k0, k1, k2, k3⟩ := hB2.cells
  go_wp2_with fail
  refine (c2.out _ hB2).mono ?_
  rintro e w3 ⟨v, rfl, hv, c⟩
  have b3 := b2.trans (c.mono b2.size)
  have hB3 := hB2.after c
  clear c b2 k0 k1 k2 k3 hB2
  have hG4 := FB.new (f := { f with subs := R }) hB3.e hv
  have ca := (Below.refl w3.heap.size w3).alloc (Nat.le_refl _) (.cells #[.string (S f.tag), .string (S f.ind), v, .int .i64 f.auth] 24)
  have hB4 := hB3.after ca
  have b4 := b3.trans (ca.mono b3.size)
  obtain ⟨a2, cap2, rfl, _, _⟩ := hv.length
  obtain ⟨w4, hw4⟩ : ∃ w4, w3.alloc (.cells #[.string (S f.tag), .string (S f.ind), .slice a2 R.length cap2, .int .i64 f.auth] 24) = w4 := ⟨_, rfl⟩
  change FB w3.heap.size { f with subs := R } _ (w3.alloc (.cells #[.string (S f.tag), .string (S f.ind), .slice a2 R.length cap2, .int .i64 f.auth] 24)) at hG4
  rw [hw4] at hG4 hB4 b4
  have HW4 := Lib.hid hw4
  obtain ⟨bg, hbg⟩ : ∃ bg, w3.heap.size = bg := ⟨_, rfl⟩
  rw [hbg] at hG4
  clear ca hw4 b3 hB3 hv
  go_wp2_with fail
  clear hbg
  rw [HW4.out]
  refine (c3.out _ _ _ hG4).mono ?_
  rintro e w5 ⟨rfl, c⟩
  have b5 := b4.trans (c.mono b4.size)
  have hB5 := hB4.after c
  have hG5 := hG4.after c
  clear c b4 hB4 hG4
  have hcv := (Byt.one w5 oth).str
  change (convert 42 9 (.slice (some ⟨w5.heap.size, 0, none⟩) 1 1)).run Tryd.prog (w5.alloc (.cells #[.int .u8 ((oth.toNat : Nat) : Int)] 5)) = .ok (.string (S [oth])) (w5.alloc (.cells #[.int .u8 ((oth.toNat : Nat) : Int)] 5)) at hcv
  have hq1 : (val.toList == ([] : List UInt8)) = em := by
    have e0 : (S ([] : List UInt8)).toList = [] := by rw [ByteArray.toList_eq]; rfl
    rw [e0] at hq
    exact hq
  have hB6 := hB5.after ((Below.refl w5.heap.size w5).alloc (Nat.le_refl _) (.cells #[.int .u8 ((oth.toNat : Nat) : Int)] 5))
  have hG6 := hG5.after ((Below.refl w5.heap.size w5).alloc (Nat.le_refl _) (.cells #[.int .u8 ((oth.toNat : Nat) : Int)] 5))
  have b6 := b5.trans (((Below.refl w5.heap.size w5).alloc (Nat.le_refl _) (.cells #[.int .u8 ((oth.toNat : Nat) : Int)] 5)).mono b5.size)
  obtain ⟨w6, hw6⟩ : ∃ w6, w5.alloc (.cells #[.int .u8 ((oth.toNat : Nat) : Int)] 5) = w6 := ⟨_, rfl⟩
  rw [hw6] at hB6 hG6 b6
  have HW6 := Lib.hid hw6
  clear hw6 hB5 hG5 b5 hq
  have HF := Lib.hid (fun W (h : Below w6.heap.size w6 W) => hB6.after h)
  have HG := Lib.hid (fun W (h : Below w6.heap.size w6 W) => hG6.after h)
  have HFc := Lib.hid (fun W (h : Below w6.heap.size w6 W) => (hB6.after h).cells)
  have HGc := Lib.hid (fun W (h : Below w6.heap.size w6 W) => (hG6.after h).cells)
  clear hB6 hG6 c3 c0 c1 c2
  obtain ⟨tf, htf⟩ : ∃ x, S f.tag = x := ⟨_, rfl⟩
  obtain ⟨xf, hxf⟩ : ∃ x, S f.ind = x := ⟨_, rfl⟩
  obtain ⟨af, haf⟩ : ∃ x, f.auth = x := ⟨_, rfl⟩
  obtain ⟨so, hso⟩ : ∃ x, S [oth] = x := ⟨_, rfl⟩
  rw [htf, hxf, haf] at HFc HGc HW4 c4 c5 ⊢
  rw [haf] at HG
  rw [hso] at c4 c5 hcv
  clear htf hxf haf hso
  by_cases hoc : oth = code
  · have t : (((oth.toNat : Nat) : Int) == ((code.toNat : Nat) : Int)) = true := by rw [hoc]; simp
    obtain ⟨oi, hoi⟩ : ∃ x, ((oth.toNat : Nat) : Int) = x := ⟨_, rfl⟩
    obtain ⟨ci, hci⟩ : ∃ x, ((code.toNat : Nat) : Int) = x := ⟨_, rfl⟩
    rw [hoi] at HW6 hcv t ⊢
    rw [hci] at t ⊢
    clear hoc hoi hci HAll c4 c5 c6
    cases em
    all_goals
      go_upto_region 10 with fail
      rw [HW6.out]
      clear hcv hvz d1 hq0 hq1 HW4 HW6
      apply wp_region_inv (V := [.eq (.int .u8 oi), .eq (.int .u8 ci), .eq (.bool true), .eq (.bool true), .any, .any, .any, .any, .any, .any, .any, .eq (.bool true), .eq (.bool true)])
      case hm => kernel_rfl
      case hd => kernel_rfl
      case hb => kernel_rfl
      case hA =>
        intro vs
        simp only [puts, Act.put, List.setIfInBounds_toArray, List.set_cons_zero, List.set_cons_succ]
        exact rfl
      case hob =>
        refine Obs.cons _ _ _ _ _ _ ?o0 (Obs.cons _ _ _ _ _ _ ?o1 (Obs.cons _ _ _ _ _ _ ?o2 (Obs.cons _ _ _ _ _ _ ?o3 (Obs.cons _ _ _ _ _ _ ?o4 (Obs.cons _ _ _ _ _ _ ?o5 (Obs.cons _ _ _ _ _ _ ?o6 (Obs.cons _ _ _ _ _ _ ?o7 (Obs.cons _ _ _ _ _ _ ?o8 (Obs.cons _ _ _ _ _ _ ?o9 (Obs.cons _ _ _ _ _ _ ?o10 (Obs.cons _ _ _ _ _ _ ?o11 (Obs.cons _ _ _ _ _ _ ?o12 (Obs.nil _ _ _ _ _ _)))))))))))))
        case o0 =>
          intro vs W hw hd K hK
          go_simp
          exact hK.out _ _ rfl (Below.refl _ _)
        case o1 =>
          intro vs W hw hd K hK
          go_simp
          exact hK.out _ _ rfl (Below.refl _ _)
        case o2 =>
          intro vs W hw hd K hK
          have h0 : vs 0 = .int .u8 oi := hd 0 (by kernel_rfl)
          have h1 : vs 1 = .int .u8 ci := hd 1 (by kernel_rfl)
          simp only [Nat.reduceAdd, h0, h1] at hK ⊢
          go_simp
          exact hK.out _ _ rfl (Below.refl _ _)
        case o3 =>
          intro vs W hw hd K hK
          have h2 : vs 2 = .bool true := hd 2 (by kernel_rfl)
          simp only [Nat.reduceAdd, h2] at hK ⊢
          go_simp
          exact hK.out _ _ rfl (Below.refl _ _)
        case o4 =>
          intro vs W hw hd K hK
          have h3 : vs 3 = .bool true := hd 3 (by kernel_rfl)
          simp only [Nat.reduceAdd, h3] at hK ⊢
          go_simp
          exact hK.out _ _ trivial (Below.refl _ _)
        case o5 =>
          intro vs W hw hd K hK
          have h3 : vs 3 = .bool true := hd 3 (by kernel_rfl)
          simp only [Nat.reduceAdd, h3] at hK ⊢
          go_simp
          exact hK.out _ _ trivial (Below.refl _ _)
        case o6 =>
          intro vs W hw hd K hK
          have h3 : vs 3 = .bool true := hd 3 (by kernel_rfl)
          simp only [Nat.reduceAdd, h3] at hK ⊢
          go_simp
          exact hK.out _ _ trivial (Below.refl _ _)
        case o7 =>
          intro vs W hw hd K hK
          have h3 : vs 3 = .bool true := hd 3 (by kernel_rfl)
          simp only [Nat.reduceAdd, h3] at hK ⊢
          go_simp
          exact hK.out _ _ trivial (Below.refl _ _)
        case o8 =>
          intro vs W hw hd K hK
          have h3 : vs 3 = .bool true := hd 3 (by kernel_rfl)
          simp only [Nat.reduceAdd, h3] at hK ⊢
          go_simp
          exact hK.out _ _ trivial (Below.refl _ _)
        case o9 =>
          intro vs W hw hd K hK
          have h3 : vs 3 = .bool true := hd 3 (by kernel_rfl)
          simp only [Nat.reduceAdd, h3] at hK ⊢
          go_simp
          exact hK.out _ _ trivial (Below.refl _ _)
        case o10 =>
          intro vs W hw hd K hK
          have h3 : vs 3 = .bool true := hd 3 (by kernel_rfl)
          simp only [Nat.reduceAdd, h3] at hK ⊢
          go_simp
          exact hK.out _ _ trivial (Below.refl _ _)
        case o11 =>
          intro vs W hw hd K hK
          have h3 : vs 3 = .bool true := hd 3 (by kernel_rfl)
          simp only [Nat.reduceAdd, h3] at hK ⊢
          go_simp
          exact hK.out _ _ rfl (Below.refl _ _)
        case o12 =>
          intro vs W hw hd K hK
          have h11 : vs 11 = .bool true := hd 11 (by kernel_rfl)
          simp only [Nat.reduceAdd, h11] at hK ⊢
          go_simp
          exact hK.out _ _ rfl (Below.refl _ _)
      case hfin =>
        intro vs W hw hv'
        have h12 : vs 12 = .bool true := hv' 12 (by decide)
        simp only [Nat.reduceAdd, h12]
        have b7 := b6.trans (hw.mono b6.size)
        clear hv' HF HG HFc HGc
        go_wp2
        go_ret
        exact ⟨rfl, b7⟩
  · have t : (((oth.toNat : Nat) : Int) == ((code.toNat : Nat) : Int)) = false := by
      have : oth.toNat ≠ code.toNat := fun e => hoc (UInt8.toNat_inj.1 e)
      simp; omega
    rw [HAll.out hoc] at c5
    obtain ⟨AL, hAL⟩ : ∃ x, allL f.subs [oth] = x := ⟨_, rfl⟩
    rw [hAL] at c4 c5
    obtain ⟨oi, hoi⟩ : ∃ x, ((oth.toNat : Nat) : Int) = x := ⟨_, rfl⟩
    obtain ⟨ci, hci⟩ : ∃ x, ((code.toNat : Nat) : Int) = x := ⟨_, rfl⟩
    rw [hoi] at HW6 hcv t ⊢
    rw [hci] at t ⊢
    clear hoc hoi hci hAL HAll
    cases em
    all_goals
      go_upto_region 10 with fail
      rw [HW6.out]
      clear hcv hvz d1 hq0 hq1 HW4 HW6
      apply wp_region_inv (V := [.eq (.int .u8 oi), .eq (.int .u8 ci), .eq (.bool false), .eq (.bool false), .eq (.agg #[.string tf, .string xf, .slice a n cap, .int .i64 af]), .eq (.string so), .bl AL, .eq (.agg #[.string tf, .string xf, .slice a2 R.length cap2, .int .i64 af]), .eq (.string so), .bl AL, .eq (.bool true), .eq (.bool true), .eq (.bool true)])
      case hm => kernel_rfl
      case hd => kernel_rfl
      case hb => kernel_rfl
      case hA =>
        intro vs
        simp only [puts, Act.put, List.setIfInBounds_toArray, List.set_cons_zero, List.set_cons_succ]
        exact rfl
      case hob =>
        refine Obs.cons _ _ _ _ _ _ ?o0 (Obs.cons _ _ _ _ _ _ ?o1 (Obs.cons _ _ _ _ _ _ ?o2 (Obs.cons _ _ _ _ _ _ ?o3 (Obs.cons _ _ _ _ _ _ ?o4 (Obs.cons _ _ _ _ _ _ ?o5 (Obs.cons _ _ _ _ _ _ ?o6 (Obs.cons _ _ _ _ _ _ ?o7 (Obs.cons _ _ _ _ _ _ ?o8 (Obs.cons _ _ _ _ _ _ ?o9 (Obs.cons _ _ _ _ _ _ ?o10 (Obs.cons _ _ _ _ _ _ ?o11 (Obs.cons _ _ _ _ _ _ ?o12 (Obs.nil _ _ _ _ _ _)))))))))))))
        case o0 =>
          intro vs W hw hd K hK
          go_simp
          exact hK.out _ _ rfl (Below.refl _ _)
        case o1 =>
          intro vs W hw hd K hK
          go_simp
          exact hK.out _ _ rfl (Below.refl _ _)
        case o2 =>
          intro vs W hw hd K hK
          have h0 : vs 0 = .int .u8 oi := hd 0 (by kernel_rfl)
          have h1 : vs 1 = .int .u8 ci := hd 1 (by kernel_rfl)
          simp only [Nat.reduceAdd, h0, h1] at hK ⊢
          go_simp
          exact hK.out _ _ rfl (Below.refl _ _)
        case o3 =>
          intro vs W hw hd K hK
          have h2 : vs 2 = .bool false := hd 2 (by kernel_rfl)
          simp only [Nat.reduceAdd, h2] at hK ⊢
          go_simp
          exact hK.out _ _ rfl (Below.refl _ _)
        case o4 =>
          intro vs W hw hd K hK
          have h3 : vs 3 = .bool false := hd 3 (by kernel_rfl)
          obtain ⟨k0, k1, k2, k3⟩ := HFc.out W hw
          simp only [Nat.reduceAdd, h3] at hK ⊢
          go_simp
          exact hK.out _ _ rfl (Below.refl _ _)
        case o5 =>
          intro vs W hw hd K hK
          have h3 : vs 3 = .bool false := hd 3 (by kernel_rfl)
          simp only [Nat.reduceAdd, h3] at hK ⊢
          go_simp
          exact hK.out _ _ rfl (Below.refl _ _)
        case o6 =>
          intro vs W hw hd K hK
          have h3 : vs 3 = .bool false := hd 3 (by kernel_rfl)
          have h4 : vs 4 = .agg #[.string tf, .string xf, .slice a n cap, .int .i64 af] := hd 4 (by kernel_rfl)
          have h5 : vs 5 = .string so := hd 5 (by kernel_rfl)
          simp only [Nat.reduceAdd, h3, h4, h5] at hK ⊢
          go_simp
          refine (c4.out W (HF.out W hw)).mono ?_
          rintro e W' ⟨v', rfl, hq', hb'⟩
          exact hK.out _ _ hq' hb'
        case o7 =>
          intro vs W hw hd K hK
          have h3 : vs 3 = .bool false := hd 3 (by kernel_rfl)
          obtain ⟨m0, m1, m2, m3⟩ := HGc.out W hw
          simp only [Nat.reduceAdd, h3] at hK ⊢
          go_simp
          exact hK.out _ _ rfl (Below.refl _ _)
        case o8 =>
          intro vs W hw hd K hK
          have h3 : vs 3 = .bool false := hd 3 (by kernel_rfl)
          simp only [Nat.reduceAdd, h3] at hK ⊢
          go_simp
          exact hK.out _ _ rfl (Below.refl _ _)
        case o9 =>
          intro vs W hw hd K hK
          have h3 : vs 3 = .bool false := hd 3 (by kernel_rfl)
          have h7 : vs 7 = .agg #[.string tf, .string xf, .slice a2 R.length cap2, .int .i64 af] := hd 7 (by kernel_rfl)
          have h8 : vs 8 = .string so := hd 8 (by kernel_rfl)
          simp only [Nat.reduceAdd, h3, h7, h8] at hK ⊢
          go_simp
          refine (c5.out _ _ W (HG.out W hw)).mono ?_
          rintro e W' ⟨v', rfl, hq', hb'⟩
          exact hK.out _ _ hq' hb'
        case o10 =>
          intro vs W hw hd K hK
          have h3 : vs 3 = .bool false := hd 3 (by kernel_rfl)
          have q6 : BL (vs 6) AL W := hd 6 (by kernel_rfl)
          have q9 : BL (vs 9) AL W := hd 9 (by kernel_rfl)
          simp only [Nat.reduceAdd, h3] at hK ⊢
          go_simp
          refine (c6.out _ _ _ _ q6 q9).mono ?_
          rintro e W' ⟨rfl, hb'⟩
          exact hK.out _ _ rfl hb'
        case o11 =>
          intro vs W hw hd K hK
          have h3 : vs 3 = .bool false := hd 3 (by kernel_rfl)
          have h10 : vs 10 = .bool true := hd 10 (by kernel_rfl)
          simp only [Nat.reduceAdd, h3, h10] at hK ⊢
          go_simp
          exact hK.out _ _ rfl (Below.refl _ _)
        case o12 =>
          intro vs W hw hd K hK
          have h11 : vs 11 = .bool true := hd 11 (by kernel_rfl)
          simp only [Nat.reduceAdd, h11] at hK ⊢
          go_simp
          exact hK.out _ _ rfl (Below.refl _ _)
      case hfin =>
        intro vs W hw hv'
        have h12 : vs 12 = .bool true := hv' 12 (by decide)
        simp only [Nat.reduceAdd, h12]
        have b7 := b6.trans (hw.mono b6.size)
        clear hv' HF HG HFc HGc c4 c5 c6
        go_wp2
        go_ret
        exact ⟨rfl, b7⟩
end Go.Proofs.YtjajihemcaihmaaDoor
