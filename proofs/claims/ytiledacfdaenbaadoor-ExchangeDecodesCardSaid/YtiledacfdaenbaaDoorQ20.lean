/- Merged: PE10, PF10, PG10. -/
import Derived.Test.YtiledacfdaenbaaDoorQ19
namespace Go.Proofs.YtiledacfdaenbaaDoor

section
open Go.RowKit Go.PlainAid
/-- A builder of this call, with these bytes. -/
def PB (B b : Nat) (l : List UInt8) (w : World) : Prop := IsB B b (Lib.byteCells l) w
theorem ownF_after {w w' : World} {B e size n : Nat} {v : Value} {xs : List Value} (h : w.ownsRowF B e size v n xs) (hb : Below w.heap.size w w') : w'.ownsRowF B e size v n xs :=
  ownF_kept h fun g hg => hb.block g (h.lt g hg).2
theorem BAF_after {B b : Nat} {p : Value} {bs : List Value} {w w' : World} (h : Lib.BuilderAtF 59 5 B b p bs w) (hb : Below w.heap.size w w') : Lib.BuilderAtF 59 5 B b p bs w' := by
  have hlt := h.lt
  obtain ⟨hB, v, hbk, hown, hne⟩ := h
  exact ⟨hB, v, (hb.block b hlt).trans hbk, ownF_after hown hb, hne⟩
theorem PB.after {B b : Nat} {l : List UInt8} {w w' : World} (h : PB B b l w) (hb : Below w.heap.size w w') : PB B b l w' := h.elim (fun x => .inl (BAF_after x hb)) (fun x => .inr (BAF_after x hb))
theorem PB.alloc {B b : Nat} {l : List UInt8} {w : World} (h : PB B b l w) (o : Obj) : PB B b l (w.alloc o) := Lib.IsBuilderF.alloc h o
theorem PB.lt {B b : Nat} {l : List UInt8} {w : World} (h : PB B b l w) : b < w.heap.size := h.elim (fun x => x.lt) (fun x => x.lt)
theorem pbStr (B b : Nat) (l x : List UInt8) (w : World) (h : PB B b l w) (hl : l.length + x.length ≤ 100000000) (hB : B ≤ w.heap.size) :
    Calls Tryd.prog 29 #[.pointer (some ⟨b, 0, none⟩), .string (S x)] w fun e w' => (∃ v, e = .returned v) ∧ PB B b (l ++ x) w' ∧ Below B w w' ∧ Kept b w w' :=
  (writeString_any B b (Lib.byteCells l) (S x) w h (by rw [byteCells_len, S_size]; omega) hB).mono fun e w' hh => by
    obtain ⟨he, h1, h2, h3⟩ := hh
    refine ⟨⟨_, he⟩, ?_, h2, h3⟩
    rw [bytes_app] at h1
    exact .inr h1
theorem pbByte (B b : Nat) (l : List UInt8) (x : UInt8) (w : World) (h : PB B b l w) (hl : l.length ≤ 100000000) (hB : B ≤ w.heap.size) :
    Calls Tryd.prog 49 #[.pointer (some ⟨b, 0, none⟩), .int .u8 (x.toNat : Int)] w fun e w' => (∃ v, e = .returned v) ∧ PB B b (l ++ [x]) w' ∧ Below B w w' ∧ Kept b w w' :=
  (writeByte_any B b (Lib.byteCells l) (x.toNat : Int) w h (by rw [byteCells_len]; omega) hB).mono fun e w' hh => by
    obtain ⟨he, h1, h2, h3⟩ := hh
    refine ⟨⟨_, he⟩, ?_, h2, h3⟩
    have e1 : Lib.byteCells l ++ [.int .u8 (x.toNat : Int)] = Lib.byteCells (l ++ [x]) := by simp [Lib.byteCells]
    rw [e1] at h1
    exact .inr h1
theorem pbOut (B b : Nat) (l : List UInt8) (w : World) (h : PB B b l w) (hB : B ≤ w.heap.size) :
    Calls Tryd.prog 31 #[.pointer (some ⟨b, 0, none⟩)] w fun e w' => e = .returned (.string (S l)) ∧ Below B w w' :=
  (Tryd.Builder_String_any_k B b l w h hB).mono fun _ _ hh => ⟨hh.1, hh.2.2.1⟩
theorem Kept.box {b k : Nat} {cs : Array Value} {w w' : World} (h : Kept b w w') (hk : w.heap[k]? = some (.cells cs 46 (0, 0))) (hne : k ≠ b) : w'.heap[k]? = some (.cells cs 46 (0, 0)) :=
  h k _ hk (fun e => hne (Option.some.inj e)) (fun c fz e => by
    simp only [Obj.cells.injEq] at e
    exact absurd e.2.1 (by decide))

set_option maxHeartbeats 16000000 in
set_option maxRecDepth 100000 in
theorem fieldForm_any (f : Fld) (u : Value) (w : World) (hE : Env w) (hu : QL u f.subs w) (h : rightI f = 0) :
    Calls Tryd.prog 35 #[FV f u] w fun e w' => e = .returned (.string (S (fldX f))) ∧ Below w.heap.size w w' := by
  obtain ⟨htag, hind, hn1, hn16, hsub, ha0, ha1⟩ := right_facts f h
  have h200 : ∀ i, i < f.subs.length → (f.subs.getD i sub0).2.length ≤ 200 := fun i hi => (subE_zero _ (hsub i hi)).2.2.2
  have h2 := indsB_len _ hind
  obtain ⟨a, cap, rfl, hcap, hmax, _, hcell⟩ := hu
  unfold maxLen at hmax
  unfold FV
  obtain ⟨n, hn⟩ : ∃ n, f.subs.length = n := ⟨_, rfl⟩
  have HCell := Lib.hid hcell
  have H200 := Lib.hid h200
  have hbl := Lib.hid (fun k (_ : k ≤ n) => subsX_le (f.subs.take k) 200 (fun i hi => by
    rw [List.length_take] at hi
    have := h200 i (by omega)
    rwa [List.getD_eq_getElem?_getD, List.getElem?_take_of_lt (by omega), ← List.getD_eq_getElem?_getD]))
  rw [hn] at hcap hn16 ⊢
  have HN := Lib.hid hn
  obtain ⟨au, hau⟩ : ∃ k : Nat, f.auth = (k : Int) := ⟨f.auth.toNat, by omega⟩
  have HLine : RowKit.Hid (fldX f = (f.ind ++ padI au 4) ++ subsX f.subs ++ [30]) := by
    unfold RowKit.Hid fldX
    rw [hau, Int.toNat_natCast]
  have hp4 := pad_len au 3 (by omega)
  rw [hau]
  have cP := Lib.hid (fun W hE => padded_any au 4 (by omega) (by omega) W hE)
  obtain ⟨W0, hW0⟩ : ∃ W0, (w.alloc (.cells #[.string (S f.tag), .string (S f.ind), .slice a n cap, .int .i64 (au : Int)] 49)).alloc (.cells #[.pointer none, .slice none 0 0] 59) = W0 := ⟨_, rfl⟩
  have b0 : Below w.heap.size w W0 := by rw [← hW0]; exact ((Below.refl w.heap.size w).alloc (Nat.le_refl _) _).alloc (by simp) _
  have k1 : W0.cell? ⟨w.heap.size, 1, none⟩ = some (.string (S f.ind)) := by rw [← hW0]; simp
  have k2 : W0.cell? ⟨w.heap.size, 2, none⟩ = some (.slice a n cap) := by rw [← hW0]; simp
  have k3 : W0.cell? ⟨w.heap.size, 3, none⟩ = some (.int .i64 (au : Int)) := by rw [← hW0]; simp
  have hs0 : w.heap.size + 1 ≤ W0.heap.size := by rw [← hW0]; simp
  have hpb : PB (w.heap.size + 1) (w.heap.size + 1) [] W0 := by
    rw [← hW0]
    have := Lib.IsBuilderF.of (Lib.fresh_isBuilder 59 5 (w.alloc (.cells #[.string (S f.tag), .string (S f.ind), .slice a n cap, .int .i64 (au : Int)] 49)))
    show Lib.IsBuilderF _ _ _ _ [] _
    simpa using this
  have hl0 : w.heap.size < W0.heap.size := hs0
  have HL := Lib.hid hl0
  have HE : RowKit.Hid (∀ W, Below W0.heap.size W0 W → Env W) := fun W hW => hE.after (b0.trans (hW.mono b0.size))
  have K1 := Lib.hid k1
  have K2 := Lib.hid k2
  have K3 := Lib.hid k3
  have HS := Lib.hid hs0
  have HPB := Lib.hid hpb
  have HW0 := Lib.hid hW0
  have B0 := Lib.hid b0
  clear hl0 hau ha0 h200 hcell hn hsub h htag hind hW0 hE hn1 b0 k1 k2 k3 hs0 hpb
  obtain ⟨HD, hHD⟩ : ∃ HD, f.ind ++ padI au 4 = HD := ⟨_, rfl⟩
  have hdl : HD.length = 6 := by rw [← hHD, List.length_append, h2, hp4]
  obtain ⟨pd, hpd⟩ : ∃ p, padI au 4 = p := ⟨_, rfl⟩
  rw [hpd] at cP hHD hp4 HLine
  have hsi := S_size f.ind
  have hsp := S_size pd
  rw [h2] at hsi
  rw [hp4] at hsp
  have HSA : RowKit.Hid (S f.ind ++ S pd = S HD) := by rw [← hHD]; exact S_append _ _
  rw [hHD] at HLine
  clear hpd hHD h2 hp4
  obtain ⟨si, hsi2⟩ : ∃ s, S f.ind = s := ⟨_, rfl⟩
  obtain ⟨sp, hsp2⟩ : ∃ s, S pd = s := ⟨_, rfl⟩
  rw [hsi2] at hsi HSA K1
  rw [hsp2] at hsp HSA cP
  rw [hsi2] at HW0 ⊢
  clear hsi2 hsp2
  go_enter Tryd.func35, Tryd.ntmps35
  go_upto_region 2 with fail
  rw [HW0.out]
  apply wp_region_last (R := fun u v => Below W0.heap.size u v) (V := [SPR.eq _ (.pointer (some ⟨w.heap.size, 1, none⟩)), SPR.eq _ (.string si), SPR.eq _ (.pointer (some ⟨w.heap.size, 3, none⟩)), SPR.eq _ (.int .i64 (au : Int)), SPR.eq _ (.string sp), SPR.eq _ (.string (si ++ sp))]) (n := 6) (f := 10)
  case htrans => exact fun _ _ _ h k => h.trans k
  case hdrew => exact (Below.refl _ _).drew
  case hm => kernel_rfl
  case hd => kernel_rfl
  case hb => kernel_rfl
  case hA =>
    intro vs
    simp only [puts, Act.put, List.setIfInBounds_toArray, List.set_cons_zero, List.set_cons_succ]
    exact rfl
  case hlast => kernel_rfl
  case hol => exact rfl
  case hob =>
    refine ObsR.cons _ _ _ _ _ _ _ ?o0 (ObsR.cons _ _ _ _ _ _ _ ?o1 (ObsR.cons _ _ _ _ _ _ _ ?o2 (ObsR.cons _ _ _ _ _ _ _ ?o3 (ObsR.cons _ _ _ _ _ _ _ ?o4 (ObsR.cons _ _ _ _ _ _ _ ?o5 (ObsR.nil _ _ _ _ _ _ _))))))
    case o0 =>
      intro vs W hw hd K hK
      go_simp
      exact hK.out _ _ rfl (Below.refl _ _)
    case o1 =>
      intro vs W hw hd K hK
      have h0 : vs 0 = .pointer (some ⟨w.heap.size, 1, none⟩) := hd 0 (by kernel_rfl)
      have k1 := (hw.cell (p := ⟨w.heap.size, 1, none⟩) HL.out).trans K1.out
      simp only [Nat.reduceAdd, h0] at hK ⊢
      go_simp
      exact hK.out _ _ rfl (Below.refl _ _)
    case o2 =>
      intro vs W hw hd K hK
      go_simp
      exact hK.out _ _ rfl (Below.refl _ _)
    case o3 =>
      intro vs W hw hd K hK
      have h2 : vs 2 = .pointer (some ⟨w.heap.size, 3, none⟩) := hd 2 (by kernel_rfl)
      have k3 := (hw.cell (p := ⟨w.heap.size, 3, none⟩) HL.out).trans K3.out
      simp only [Nat.reduceAdd, h2] at hK ⊢
      go_simp
      exact hK.out _ _ rfl (Below.refl _ _)
    case o4 =>
      intro vs W hw hd K hK
      have h3 : vs 3 = .int .i64 (au : Int) := hd 3 (by kernel_rfl)
      simp only [Nat.reduceAdd, h3] at hK ⊢
      go_simp
      refine (cP.out W (HE.out W hw)).mono ?_
      rintro e W' ⟨rfl, hb'⟩
      exact hK.out _ _ rfl (hb'.mono hw.size)
    case o5 =>
      intro vs W hw hd K hK
      have h1 : vs 1 = .string si := hd 1 (by kernel_rfl)
      have h4 : vs 4 = .string sp := hd 4 (by kernel_rfl)
      simp only [Nat.reduceAdd, h1, h4] at hK ⊢
      go_simp
      exact hK.out _ _ rfl (Below.refl _ _)
  case hfin =>
    intro vs W hw hv'
    have e5 : vs 5 = .string (si ++ sp) := hv' 5 (by decide)
    simp only [Nat.reduceAdd, e5]
    have cS := pbStr (w.heap.size + 1) (w.heap.size + 1) [] HD W (HPB.out.after hw) (by rw [hdl]; decide) (Nat.le_trans HS.out hw.size)
    rw [List.nil_append, ← HSA.out] at cS
    have hw2 := hw
    clear hv'
    go_simp
    refine cS.mono ?_
    rintro e w5 ⟨⟨ev5, rfl⟩, h5, b5, _⟩
    have P5 := Lib.hid h5
    have B5 := Lib.hid ((hw2.mono (show w.heap.size + 1 ≤ W0.heap.size from HS.out)).trans b5)
    have v2 : w5.cell? ⟨w.heap.size, 2, none⟩ = some (.slice a n cap) := (B5.out.cell (p := ⟨w.heap.size, 2, none⟩) (Nat.lt_succ_self _)).trans K2.out
    have s5 := Nat.le_trans HS.out B5.out.size
    clear h5 b5 cS hw hw2 e5 HSA hsi hsp K1 K3 cP HE HL HPB HW0
    go_wp2
    go_loopw [16] (fun i wr => ∃ k : Nat, k ≤ n ∧ i = .int .i64 (k : Int) ∧ PB (w.heap.size + 1) (w.heap.size + 1) (HD ++ subsX (f.subs.take k)) wr ∧ Below (w.heap.size + 1) W0 wr) (fun i _ => n - (intOf i).toNat)
    case atStart => exact ⟨0, Nat.zero_le _, rfl, by rw [List.take_zero]; show PB _ _ (HD ++ []) _; rw [List.append_nil]; exact P5.out, B5.out⟩
    case round =>
      obtain ⟨k, hk, rfl, hp, hb⟩ := hrel
      have hsz := Nat.le_trans HS.out hb.size
      by_cases hkn : k < n
      · obtain ⟨g, o, rfl, hg, c1, c2⟩ := HCell.out k (by rw [HN.out]; exact hkn)
        have c1 : wr.cell? ⟨g, o + k * 2, none⟩ = some (.int .u8 ((f.subs.getD k sub0).1.toNat : Int)) := ((hb.cell (p := ⟨g, o + k * 2, none⟩) (Nat.lt_succ_of_lt hg)).trans (B0.out.cell (p := ⟨g, o + k * 2, none⟩) hg)).trans c1
        have c2 : wr.cell? ⟨g, o + k * 2 + 1, none⟩ = some (.string (S (f.subs.getD k sub0).2)) := ((hb.cell (p := ⟨g, o + k * 2 + 1, none⟩) (Nat.lt_succ_of_lt hg)).trans (B0.out.cell (p := ⟨g, o + k * 2 + 1, none⟩) hg)).trans c2
        have i1 : (0 : Int) ≤ (k : Int) := by omega
        have i2 : (k : Int) < (n : Int) := by omega
        have hval := H200.out k (by rw [HN.out]; exact hkn)
        have hacc := hbl.out k hk
        have hacl : (HD ++ subsX (f.subs.take k)).length ≤ 300000 := by
          rw [List.length_take] at hacc
          rw [List.length_append]
          have : (200 + 2) * min k f.subs.length ≤ (200 + 2) * 16 := Nat.mul_le_mul_left _ (by omega)
          omega
        have hsn := subsX_snoc f.subs k (by rw [HN.out]; exact hkn)
        obtain ⟨sb, hsb⟩ : ∃ z, f.subs.getD k sub0 = z := ⟨_, rfl⟩
        rw [hsb] at c1 c2 hval hsn
        have HS2 : RowKit.Hid (HD ++ subsX (f.subs.take (k + 1)) = HD ++ subsX (f.subs.take k) ++ [31] ++ [sb.1] ++ sb.2) := by
          unfold RowKit.Hid
          rw [hsn]
          unfold subX
          simp
        generalize HD ++ subsX (f.subs.take k) = acc at hp hacl HS2
        have hbx := heap_alloc_new wr (.cells #[.int .u8 (sb.1.toNat : Int), .string (S sb.2)] 46)
        have ha := hb.alloc hsz (.cells #[.int .u8 (sb.1.toNat : Int), .string (S sb.2)] 46)
        have cS6 := Lib.hid (pbStr _ _ acc [31] _ (hp.alloc (.cells #[.int .u8 (sb.1.toNat : Int), .string (S sb.2)] 46)) (by simp only [List.length_cons, List.length_nil]; omega) (Nat.le_trans HS.out ha.size))
        have hnb : wr.heap.size ≠ w.heap.size + 1 := Nat.ne_of_gt hp.lt
        have HBX := Lib.hid hbx
        have HA := Lib.hid ha
        have cB := Lib.hid (fun W l h hl hB => pbByte (w.heap.size + 1) (w.heap.size + 1) l sb.1 W h hl hB)
        have cV := Lib.hid (fun W l h hl hB => pbStr (w.heap.size + 1) (w.heap.size + 1) l sb.2 W h hl hB)
        clear hsb hbx ha hp hb hsn hacc v2
        obtain ⟨cy, hcy⟩ : ∃ cy, ((sb.1.toNat : Nat) : Int) = cy := ⟨_, rfl⟩
        obtain ⟨x, hx⟩ : ∃ x, S sb.2 = x := ⟨_, rfl⟩
        rw [hcy, hx] at HBX HA cS6
        rw [hcy] at c1 cB
        rw [hx] at c2 cV
        clear hcy hx
        go_wp2_with fail
        refine cS6.out.mono ?_
        rintro e w6 ⟨⟨ev6, rfl⟩, h6, b6, kp6⟩
        have B6 := Lib.hid (HA.out.trans b6)
        have s6 := Nat.le_trans HS.out B6.out.size
        have X6 := Lib.hid (kp6.box HBX.out hnb)
        have m0 : w6.cell? ⟨wr.heap.size, 0, none⟩ = some (.int .u8 cy) := by rw [Lib.cell_of_heap X6.out]; rfl
        have m1 : w6.cell? ⟨wr.heap.size, 1, none⟩ = some (.string x) := by rw [Lib.cell_of_heap X6.out]; rfl
        have cS7 := Lib.hid (cB.out _ _ h6 (by rw [List.length_append, List.length_cons, List.length_nil]; omega) s6)
        clear h6 b6 kp6 HBX cS6 HA c1 c2
        go_wp2_with fail
        refine cS7.out.mono ?_
        rintro e w7 ⟨⟨ev7, rfl⟩, h7, b7, kp7⟩
        have B7 := Lib.hid (B6.out.trans b7)
        have s7 := Nat.le_trans HS.out B7.out.size
        have X7 := Lib.hid (kp7.box X6.out hnb)
        have n1 : w7.cell? ⟨wr.heap.size, 1, none⟩ = some (.string x) := by rw [Lib.cell_of_heap X7.out]; rfl
        have cS9 := Lib.hid (cV.out _ _ h7 (by simp only [List.length_append, List.length_cons, List.length_nil]; omega) s7)
        clear h7 b7 kp7 B6 X6 m0 m1 cS7 s6 cB X7 cV
        go_wp2_with fail
        refine cS9.out.mono ?_
        rintro e w9 ⟨⟨ev9, rfl⟩, h9, b9, _⟩
        have B9 := Lib.hid (B7.out.trans b9)
        have P9 := Lib.hid h9
        clear h9 b9 cS9 B7 s7 n1
        go_wp2
        go_roundw
        case rel => exact ⟨k + 1, by omega, by go_num, by rw [HS2.out]; exact P9.out, B9.out⟩
        case measure => simp [intOf]; omega
      · obtain rfl : k = n := by omega
        have hacc := hbl.out k hk
        rw [show f.subs.take k = f.subs by rw [← HN.out, List.take_length]] at hp hacc
        have hacl : (HD ++ subsX f.subs).length ≤ 300000 := by
          rw [List.length_append]
          have : (200 + 2) * f.subs.length ≤ (200 + 2) * 16 := Nat.mul_le_mul_left _ (by rw [HN.out]; omega)
          omega
        have cS := Lib.hid (pbStr _ _ _ [30] _ hp (by simp only [List.length_cons, List.length_nil]; omega) hsz)
        rw [← HLine.out] at cS
        have B8 := Lib.hid hb
        clear hp hb hacc
        go_wp2_with fail
        refine cS.out.mono ?_
        rintro e w9 ⟨⟨ev9, rfl⟩, h9, b9, _⟩
        have B9 := Lib.hid (B8.out.trans b9)
        have cO := Lib.hid (pbOut _ _ _ _ h9 (Nat.le_trans HS.out B9.out.size))
        clear h9 b9 cS B8
        go_wp2_with fail
        refine cO.out.mono ?_
        rintro e w10 ⟨rfl, b10⟩
        have b11 := B0.out.trans ((B9.out.trans b10).mono (Nat.le_succ _))
        clear b10 B9 cO
        go_wp2
        go_ret
        exact ⟨rfl, b11⟩
end

section
open Go.RowKit Go.PlainAid
def leadL (sz base : Nat) (r : Rec) : List UInt8 := padI sz 5 ++ [110] ++ [kindC r.kind] ++ padI r.ver.toNat 1 ++ r.lang ++ padI base 5 ++ padI r.id.toNat 4 ++ [52, 53, 48, 48]
theorem kind_at : ∀ k, k < 4 → (ByteArray.mk #[98, 115, 109, 100]).extract k (k + 1) = S [kindC ((k : Int) + 1)] := by decide +kernel
set_option maxHeartbeats 16000000 in
set_option maxRecDepth 100000 in
theorem leader_any (r : Rec) (u : Value) (sz base : Nat) (hs1 : sz < 100000000) (hb1 : base < 100000000) (w : World) (hE : Env w) (hu : ∃ a n c, u = .slice a n c) (h : rightRI r = 0) :
    Calls Tryd.prog 37 #[RV r u, .int .i64 (sz : Int), .int .i64 (base : Int)] w fun e w' => e = .returned (.string (S (leadL sz base r))) ∧ Below w.heap.size w w' := by
  obtain ⟨a0, a1, a2, a3, a4, a5, a6, -, -⟩ := right_rec r h
  obtain ⟨ua, un, uc, rfl⟩ := hu
  unfold RV
  have h3 := lang_len _ a6
  obtain ⟨id, hid⟩ : ∃ k : Nat, r.id = (k : Int) := ⟨r.id.toNat, by omega⟩
  obtain ⟨ver, hver⟩ : ∃ k : Nat, r.ver = (k : Int) := ⟨r.ver.toNat, by omega⟩
  obtain ⟨k0, hk0⟩ : ∃ k : Nat, r.kind = (k : Int) + 1 := ⟨(r.kind - 1).toNat, by omega⟩
  have hRes : leadL sz base r = padI sz 5 ++ [110] ++ [kindC ((k0 : Int) + 1)] ++ padI ver 1 ++ r.lang ++ padI base 5 ++ padI id 4 ++ [52, 53, 48, 48] := by
    unfold leadL
    rw [hk0, hver, hid, Int.toNat_natCast, Int.toNat_natCast]
  have hk4 : k0 < 4 := by omega
  have hex := kind_at k0 hk4
  have HWr : RowKit.Hid (IntKind.i64.wrap ((k0 : Int) + 1) = (k0 : Int) + 1) := by unfold RowKit.Hid; rw [IntKind.wrap_i64]; omega
  rw [hid, hver, hk0, hRes]
  have c1 := Lib.hid (fun W hE => padded_any sz 5 hs1 (by omega) W hE)
  have c2 := Lib.hid (fun W hE => padded_any ver 1 (by omega) (by omega) W hE)
  have c3 := Lib.hid (fun W hE => padded_any base 5 hb1 (by omega) W hE)
  have c4 := Lib.hid (fun W hE => padded_any id 4 (by omega) (by omega) W hE)
  have l1 := pad_small sz 5 hs1
  have l2 := pad_small ver 1 (by omega)
  have l3 := pad_small base 5 hb1
  have l4 := pad_small id 4 (by omega)
  have hp1 := S_size (padI sz 5)
  have hp2 := S_size (padI ver 1)
  have hp3 := S_size (padI base 5)
  have hp4 := S_size (padI id 4)
  have hsl := S_size r.lang
  rw [h3] at hsl
  have hsk : (S [kindC ((k0 : Int) + 1)]).size = 1 := rfl
  have hSum : S (padI sz 5 ++ [110] ++ [kindC ((k0 : Int) + 1)] ++ padI ver 1 ++ r.lang ++ padI base 5 ++ padI id 4 ++ [52, 53, 48, 48]) = S (padI sz 5) ++ ⟨#[110]⟩ ++ S [kindC ((k0 : Int) + 1)] ++ S (padI ver 1) ++ S r.lang ++ S (padI base 5) ++ S (padI id 4) ++ ⟨#[52, 53, 48, 48]⟩ := by
    rw [show (⟨#[110]⟩ : ByteArray) = S [110] from rfl, show (⟨#[52, 53, 48, 48]⟩ : ByteArray) = S [52, 53, 48, 48] from rfl]
    simp only [S_append]
  rw [hSum]
  clear hSum hRes hid hver hk0 a0 a1 a2 a3 a4 a5 a6 h3 h
  generalize S [kindC ((k0 : Int) + 1)] = sk at *
  generalize S (padI sz 5) = p1 at *
  generalize S (padI ver 1) = p2 at *
  generalize S (padI base 5) = p3 at *
  generalize S (padI id 4) = p4 at *
  generalize S r.lang = sl at *
  generalize (padI sz 5).length = d1 at *
  generalize (padI ver 1).length = d2 at *
  generalize (padI base 5).length = d3 at *
  generalize (padI id 4).length = d4 at *
  have sn : (⟨#[110]⟩ : ByteArray).size = 1 := rfl
  have sf : (⟨#[52, 53, 48, 48]⟩ : ByteArray).size = 4 := rfl
  obtain ⟨q2, hq2⟩ : ∃ q, p1 ++ (⟨#[110]⟩ : ByteArray) = q := ⟨_, rfl⟩
  have Q2 := Lib.hid hq2
  obtain ⟨z2, hz2⟩ : ∃ z, q2.size = z := ⟨_, rfl⟩
  have hle2 : z2 ≤ 20 := by rw [← hz2, ← hq2, ByteArray.size_append]; simp only [hp1, sn]; omega
  have Z2 : RowKit.Hid (¬ 9223372036854775807 < (d1 : Nat) + 1) := by unfold RowKit.Hid; omega
  obtain ⟨q7, hq7⟩ : ∃ q, q2 ++ sk = q := ⟨_, rfl⟩
  have Q7 := Lib.hid hq7
  obtain ⟨z7, hz7⟩ : ∃ z, q7.size = z := ⟨_, rfl⟩
  have hle7 : z7 ≤ 40 := by rw [← hz7, ← hq7, ByteArray.size_append]; simp only [hz2, hsk]; omega
  have Z7 : RowKit.Hid (¬ 9223372036854775807 < (z2 : Nat) + 1) := by unfold RowKit.Hid; omega
  obtain ⟨q11, hq11⟩ : ∃ q, q7 ++ p2 = q := ⟨_, rfl⟩
  have Q11 := Lib.hid hq11
  obtain ⟨z11, hz11⟩ : ∃ z, q11.size = z := ⟨_, rfl⟩
  have hle11 : z11 ≤ 60 := by rw [← hz11, ← hq11, ByteArray.size_append]; simp only [hz7, hp2]; omega
  have Z11 : RowKit.Hid (¬ 9223372036854775807 < (z7 : Nat) + d2) := by unfold RowKit.Hid; omega
  obtain ⟨q14, hq14⟩ : ∃ q, q11 ++ sl = q := ⟨_, rfl⟩
  have Q14 := Lib.hid hq14
  obtain ⟨z14, hz14⟩ : ∃ z, q14.size = z := ⟨_, rfl⟩
  have hle14 : z14 ≤ 80 := by rw [← hz14, ← hq14, ByteArray.size_append]; simp only [hz11, hsl]; omega
  have Z14 : RowKit.Hid (¬ 9223372036854775807 < (z11 : Nat) + 3) := by unfold RowKit.Hid; omega
  obtain ⟨q17, hq17⟩ : ∃ q, q14 ++ p3 = q := ⟨_, rfl⟩
  have Q17 := Lib.hid hq17
  obtain ⟨z17, hz17⟩ : ∃ z, q17.size = z := ⟨_, rfl⟩
  have hle17 : z17 ≤ 100 := by rw [← hz17, ← hq17, ByteArray.size_append]; simp only [hz14, hp3]; omega
  have Z17 : RowKit.Hid (¬ 9223372036854775807 < (z14 : Nat) + d3) := by unfold RowKit.Hid; omega
  obtain ⟨q21, hq21⟩ : ∃ q, q17 ++ p4 = q := ⟨_, rfl⟩
  have Q21 := Lib.hid hq21
  obtain ⟨z21, hz21⟩ : ∃ z, q21.size = z := ⟨_, rfl⟩
  have hle21 : z21 ≤ 120 := by rw [← hz21, ← hq21, ByteArray.size_append]; simp only [hz17, hp4]; omega
  have Z21 : RowKit.Hid (¬ 9223372036854775807 < (z17 : Nat) + d4) := by unfold RowKit.Hid; omega
  obtain ⟨q22, hq22⟩ : ∃ q, q21 ++ (⟨#[52, 53, 48, 48]⟩ : ByteArray) = q := ⟨_, rfl⟩
  have Q22 := Lib.hid hq22
  obtain ⟨z22, hz22⟩ : ∃ z, q22.size = z := ⟨_, rfl⟩
  have hle22 : z22 ≤ 140 := by rw [← hz22, ← hq22, ByteArray.size_append]; simp only [hz21, sf]; omega
  have Z22 : RowKit.Hid (¬ 9223372036854775807 < (z21 : Nat) + 4) := by unfold RowKit.Hid; omega
  obtain ⟨W0, hW0⟩ : ∃ W0, w.alloc (.cells #[.int .i64 (id : Int), .int .i64 (ver : Int), .int .i64 ((k0 : Int) + 1), .string sl, .slice ua un uc] 24) = W0 := ⟨_, rfl⟩
  have b0 : Below w.heap.size w W0 := by rw [← hW0]; exact (Below.refl w.heap.size w).alloc (Nat.le_refl _) _
  have k0' : W0.cell? ⟨w.heap.size, 0, none⟩ = some (.int .i64 (id : Int)) := by rw [← hW0]; simp
  have k1 : W0.cell? ⟨w.heap.size, 1, none⟩ = some (.int .i64 (ver : Int)) := by rw [← hW0]; simp
  have k2 : W0.cell? ⟨w.heap.size, 2, none⟩ = some (.int .i64 ((k0 : Int) + 1)) := by rw [← hW0]; simp
  have k3 : W0.cell? ⟨w.heap.size, 3, none⟩ = some (.string sl) := by rw [← hW0]; simp
  have hl0 : w.heap.size < W0.heap.size := by rw [← hW0]; simp
  have K0 := Lib.hid k0'
  have K1 := Lib.hid k1
  have K3 := Lib.hid k3
  have HL := Lib.hid hl0
  have HE : RowKit.Hid (∀ W, Below W0.heap.size W0 W → Env W) := fun W hW => hE.after (b0.trans (hW.mono b0.size))
  have B0 := Lib.hid b0
  have HW0 := Lib.hid hW0
  have HFin : RowKit.Hid (p1 ++ ⟨#[110]⟩ ++ sk ++ p2 ++ sl ++ p3 ++ p4 ++ ⟨#[52, 53, 48, 48]⟩ = q22) := by
    unfold RowKit.Hid
    rw [hq2, hq7, hq11, hq14, hq17, hq21, hq22]
  rw [HFin.out]
  clear hq2 hq7 hq11 hq14 hq17 hq21 hq22 hE b0 k0' k1 k3 hl0 hW0 hs1 hb1 l1 l2 l3 l4
  go_enter Tryd.func37, Tryd.ntmps37
  go_upto_region 2 with fail
  rw [HW0.out]
  apply wp_region_rel (R := fun u v => Below W0.heap.size u v) (V := [SPR.eq _ (.int .i64 (sz : Int)), SPR.eq _ (.string p1), SPR.eq _ (.string q2), SPR.eq _ (.int .i64 (k0 : Int)), SPR.eq _ (.int .i64 (k0 : Int)), SPR.eq _ (.int .i64 ((k0 : Int) + 1)), SPR.eq _ (.string sk), SPR.eq _ (.string q7), SPR.eq _ (.pointer (some ⟨w.heap.size, 1, none⟩)), SPR.eq _ (.int .i64 (ver : Int)), SPR.eq _ (.string p2), SPR.eq _ (.string q11), SPR.eq _ (.pointer (some ⟨w.heap.size, 3, none⟩)), SPR.eq _ (.string sl), SPR.eq _ (.string q14), SPR.eq _ (.int .i64 (base : Int)), SPR.eq _ (.string p3), SPR.eq _ (.string q17), SPR.eq _ (.pointer (some ⟨w.heap.size, 0, none⟩)), SPR.eq _ (.int .i64 (id : Int)), SPR.eq _ (.string p4), SPR.eq _ (.string q21), SPR.eq _ (.string q22), SPR.eq _ (.string q22)])
  case htrans => exact fun _ _ _ h k => h.trans k
  case hdrew => exact (Below.refl _ _).drew
  case hm => kernel_rfl
  case hd => kernel_rfl
  case hb => kernel_rfl
  case hA =>
    intro vs
    simp only [puts, Act.put, List.setIfInBounds_toArray, List.set_cons_zero, List.set_cons_succ]
    exact rfl
  case hob =>
    refine ObsR.cons _ _ _ _ _ _ _ ?o0 (ObsR.cons _ _ _ _ _ _ _ ?o1 (ObsR.cons _ _ _ _ _ _ _ ?o2 (ObsR.cons _ _ _ _ _ _ _ ?o3 (ObsR.cons _ _ _ _ _ _ _ ?o4 (ObsR.cons _ _ _ _ _ _ _ ?o5 (ObsR.cons _ _ _ _ _ _ _ ?o6 (ObsR.cons _ _ _ _ _ _ _ ?o7 (ObsR.cons _ _ _ _ _ _ _ ?o8 (ObsR.cons _ _ _ _ _ _ _ ?o9 (ObsR.cons _ _ _ _ _ _ _ ?o10 (ObsR.cons _ _ _ _ _ _ _ ?o11 (ObsR.cons _ _ _ _ _ _ _ ?o12 (ObsR.cons _ _ _ _ _ _ _ ?o13 (ObsR.cons _ _ _ _ _ _ _ ?o14 (ObsR.cons _ _ _ _ _ _ _ ?o15 (ObsR.cons _ _ _ _ _ _ _ ?o16 (ObsR.cons _ _ _ _ _ _ _ ?o17 (ObsR.cons _ _ _ _ _ _ _ ?o18 (ObsR.cons _ _ _ _ _ _ _ ?o19 (ObsR.cons _ _ _ _ _ _ _ ?o20 (ObsR.cons _ _ _ _ _ _ _ ?o21 (ObsR.cons _ _ _ _ _ _ _ ?o22 (ObsR.cons _ _ _ _ _ _ _ ?o23 (ObsR.nil _ _ _ _ _ _ _))))))))))))))))))))))))
    case o0 =>
      intro vs W hw hd K hK
      go_simp
      exact hK.out _ _ rfl (Below.refl _ _)
    case o1 =>
      intro vs W hw hd K hK
      have h0 : vs 0 = .int .i64 (sz : Int) := hd 0 (by kernel_rfl)
      simp only [Nat.reduceAdd, h0] at hK ⊢
      go_simp
      refine (c1.out W (HE.out W hw)).mono ?_
      rintro e W' ⟨rfl, hb'⟩
      exact hK.out _ _ rfl (hb'.mono hw.size)
    case o2 =>
      intro vs W hw hd K hK
      have h1 : vs 1 = .string p1 := hd 1 (by kernel_rfl)
      have hz := Z2.out
      simp only [Nat.reduceAdd, h1] at hK ⊢
      go_simp
      exact hK.out _ _ (congrArg Value.string Q2.out) (Below.refl _ _)
    case o3 =>
      intro vs W hw hd K hK
      go_simp
      exact hK.out _ _ rfl (Below.refl _ _)
    case o4 =>
      intro vs W hw hd K hK
      go_simp
      exact hK.out _ _ rfl (Below.refl _ _)
    case o5 =>
      intro vs W hw hd K hK
      have h4 : vs 4 = .int .i64 (k0 : Int) := hd 4 (by kernel_rfl)
      have hwr := HWr.out
      simp only [Nat.reduceAdd, h4] at hK ⊢
      go_simp
      exact hK.out _ _ rfl (Below.refl _ _)
    case o6 =>
      intro vs W hw hd K hK
      have h3 : vs 3 = .int .i64 (k0 : Int) := hd 3 (by kernel_rfl)
      have h5 : vs 5 = .int .i64 ((k0 : Int) + 1) := hd 5 (by kernel_rfl)
      have i0 : (0 : Int) ≤ (k0 : Int) := by omega
      have i1 : (k0 : Int) ≤ (k0 : Int) + 1 := by omega
      have i2 : (k0 : Int) + 1 ≤ 4 := by omega
      have i3 : ((k0 : Int) + 1).toNat = k0 + 1 := by omega
      simp only [Nat.reduceAdd, h3, h5] at hK ⊢
      go_simp
      exact hK.out _ _ rfl (Below.refl _ _)
    case o7 =>
      intro vs W hw hd K hK
      have h2 : vs 2 = .string q2 := hd 2 (by kernel_rfl)
      have h6 : vs 6 = .string sk := hd 6 (by kernel_rfl)
      have hz := Z7.out
      simp only [Nat.reduceAdd, h2, h6] at hK ⊢
      go_simp
      exact hK.out _ _ (congrArg Value.string Q7.out) (Below.refl _ _)
    case o8 =>
      intro vs W hw hd K hK
      go_simp
      exact hK.out _ _ rfl (Below.refl _ _)
    case o9 =>
      intro vs W hw hd K hK
      have h8 : vs 8 = .pointer (some ⟨w.heap.size, 1, none⟩) := hd 8 (by kernel_rfl)
      have k1 := (hw.cell (p := ⟨w.heap.size, 1, none⟩) HL.out).trans K1.out
      simp only [Nat.reduceAdd, h8] at hK ⊢
      go_simp
      exact hK.out _ _ rfl (Below.refl _ _)
    case o10 =>
      intro vs W hw hd K hK
      have h9 : vs 9 = .int .i64 (ver : Int) := hd 9 (by kernel_rfl)
      simp only [Nat.reduceAdd, h9] at hK ⊢
      go_simp
      refine (c2.out W (HE.out W hw)).mono ?_
      rintro e W' ⟨rfl, hb'⟩
      exact hK.out _ _ rfl (hb'.mono hw.size)
    case o11 =>
      intro vs W hw hd K hK
      have h7 : vs 7 = .string q7 := hd 7 (by kernel_rfl)
      have h10 : vs 10 = .string p2 := hd 10 (by kernel_rfl)
      have hz := Z11.out
      simp only [Nat.reduceAdd, h7, h10] at hK ⊢
      go_simp
      exact hK.out _ _ (congrArg Value.string Q11.out) (Below.refl _ _)
    case o12 =>
      intro vs W hw hd K hK
      go_simp
      exact hK.out _ _ rfl (Below.refl _ _)
    case o13 =>
      intro vs W hw hd K hK
      have h12 : vs 12 = .pointer (some ⟨w.heap.size, 3, none⟩) := hd 12 (by kernel_rfl)
      have k3 := (hw.cell (p := ⟨w.heap.size, 3, none⟩) HL.out).trans K3.out
      simp only [Nat.reduceAdd, h12] at hK ⊢
      go_simp
      exact hK.out _ _ rfl (Below.refl _ _)
    case o14 =>
      intro vs W hw hd K hK
      have h11 : vs 11 = .string q11 := hd 11 (by kernel_rfl)
      have h13 : vs 13 = .string sl := hd 13 (by kernel_rfl)
      have hz := Z14.out
      simp only [Nat.reduceAdd, h11, h13] at hK ⊢
      go_simp
      exact hK.out _ _ (congrArg Value.string Q14.out) (Below.refl _ _)
    case o15 =>
      intro vs W hw hd K hK
      go_simp
      exact hK.out _ _ rfl (Below.refl _ _)
    case o16 =>
      intro vs W hw hd K hK
      have h15 : vs 15 = .int .i64 (base : Int) := hd 15 (by kernel_rfl)
      simp only [Nat.reduceAdd, h15] at hK ⊢
      go_simp
      refine (c3.out W (HE.out W hw)).mono ?_
      rintro e W' ⟨rfl, hb'⟩
      exact hK.out _ _ rfl (hb'.mono hw.size)
    case o17 =>
      intro vs W hw hd K hK
      have h14 : vs 14 = .string q14 := hd 14 (by kernel_rfl)
      have h16 : vs 16 = .string p3 := hd 16 (by kernel_rfl)
      have hz := Z17.out
      simp only [Nat.reduceAdd, h14, h16] at hK ⊢
      go_simp
      exact hK.out _ _ (congrArg Value.string Q17.out) (Below.refl _ _)
    case o18 =>
      intro vs W hw hd K hK
      go_simp
      exact hK.out _ _ rfl (Below.refl _ _)
    case o19 =>
      intro vs W hw hd K hK
      have h18 : vs 18 = .pointer (some ⟨w.heap.size, 0, none⟩) := hd 18 (by kernel_rfl)
      have k0 := (hw.cell (p := ⟨w.heap.size, 0, none⟩) HL.out).trans K0.out
      simp only [Nat.reduceAdd, h18] at hK ⊢
      go_simp
      exact hK.out _ _ rfl (Below.refl _ _)
    case o20 =>
      intro vs W hw hd K hK
      have h19 : vs 19 = .int .i64 (id : Int) := hd 19 (by kernel_rfl)
      simp only [Nat.reduceAdd, h19] at hK ⊢
      go_simp
      refine (c4.out W (HE.out W hw)).mono ?_
      rintro e W' ⟨rfl, hb'⟩
      exact hK.out _ _ rfl (hb'.mono hw.size)
    case o21 =>
      intro vs W hw hd K hK
      have h17 : vs 17 = .string q17 := hd 17 (by kernel_rfl)
      have h20 : vs 20 = .string p4 := hd 20 (by kernel_rfl)
      have hz := Z21.out
      simp only [Nat.reduceAdd, h17, h20] at hK ⊢
      go_simp
      exact hK.out _ _ (congrArg Value.string Q21.out) (Below.refl _ _)
    case o22 =>
      intro vs W hw hd K hK
      have h21 : vs 21 = .string q21 := hd 21 (by kernel_rfl)
      have hz := Z22.out
      simp only [Nat.reduceAdd, h21] at hK ⊢
      go_simp
      exact hK.out _ _ (congrArg Value.string Q22.out) (Below.refl _ _)
    case o23 =>
      intro vs W hw hd K hK
      have h22 : vs 22 = .string q22 := hd 22 (by kernel_rfl)
      simp only [Nat.reduceAdd, h22] at hK ⊢
      go_simp
      exact hK.out _ _ rfl (Below.refl _ _)
  case hfin =>
    intro vs W hw hv'
    have e23 : vs 23 = .string q22 := hv' 23 (by decide)
    simp only [Nat.reduceAdd, e23]
    have b9 := B0.out.trans (hw.mono B0.out.size)
    clear hv'
    go_wp2
    go_ret
    exact ⟨rfl, b9⟩
end

section
open Go.RowKit Go.PlainAid
/-- What lies in memory while a record's bytes are written: two builders behind the record. -/
structure FM (w W0 : World) (ogd ogf : Option Nat) (ld lf : List UInt8) (wr : World) : Prop where
  bd : BX (w.heap.size + 1) (w.heap.size + 1) ogd ld wr
  bf : BX (w.heap.size + 1) (w.heap.size + 2) ogf lf wr
  ap : ogd = none ∨ ogf = none ∨ ogd ≠ ogf
  bel : Below (w.heap.size + 1) W0 wr
section
variable {w W0 wr w3 : World} {ogd ogf oh : Option Nat} {ld lf x : List UInt8}
theorem FM.after (h : FM w W0 ogd ogf ld lf wr) (hb : Below wr.heap.size wr w3) : FM w W0 ogd ogf ld lf w3 :=
  ⟨h.bd.after hb, h.bf.after hb, h.ap, h.bel.trans (hb.mono (by have := h.bd.lt; omega))⟩
theorem FM.size (h : FM w W0 ogd ogf ld lf wr) : w.heap.size + 1 ≤ wr.heap.size := by have := h.bd.lt; omega
theorem ap_move {a b c : Option Nat} {n : Nat} (h : a = none ∨ b = none ∨ a ≠ b) (hb : ∀ g, b = some g → g < n) (hc : c = a ∨ ∃ k, c = some k ∧ n ≤ k) : c = none ∨ b = none ∨ c ≠ b := by
  rcases hc with rfl | ⟨k, rfl, hk⟩
  · exact h
  · cases b with
    | none => exact .inr (.inl rfl)
    | some g =>
      have := hb g rfl
      exact .inr (.inr (fun e => by have := Option.some.inj e; omega))
theorem ap_left {a b : Option Nat} (h : a = none ∨ b = none ∨ a ≠ b) : b = none ∨ b ≠ a := by
  rcases h with h | h | h
  · cases b with
    | none => exact .inl rfl
    | some g => exact .inr (by rw [h]; exact fun e => by cases e)
  · exact .inl h
  · exact .inr (Ne.symm h)
theorem ap_flip {a b : Option Nat} (h : a = none ∨ b = none ∨ a ≠ b) : b = none ∨ a = none ∨ b ≠ a := by
  rcases h with h | h | h
  · exact .inr (.inl h)
  · exact .inl h
  · exact .inr (.inr (Ne.symm h))
theorem FM.dir (h : FM w W0 ogd ogf ld lf wr) (hb : BX (w.heap.size + 1) (w.heap.size + 1) oh x w3) (hw : Wr (w.heap.size + 1) ogd wr w3) (ho : oh = ogd ∨ ∃ n, oh = some n ∧ wr.heap.size ≤ n) : FM w W0 oh ogf x lf w3 :=
  ⟨hb, h.bf.beside hw (by omega) (h.bf.ne_row h.bd) (Ne.symm (h.bd.ne_row h.bf)) (ap_left h.ap), ap_move h.ap (fun g hg => (h.bf.row g hg).2) ho,
    h.bel.trans (hw.below _ h.size (Nat.le_refl _) (fun g hg => (h.bd.row g hg).1))⟩
theorem FM.fld (h : FM w W0 ogd ogf ld lf wr) (hb : BX (w.heap.size + 1) (w.heap.size + 2) oh x w3) (hw : Wr (w.heap.size + 2) ogf wr w3) (ho : oh = ogf ∨ ∃ n, oh = some n ∧ wr.heap.size ≤ n) : FM w W0 ogd oh ld x w3 :=
  ⟨h.bd.beside hw (by omega) (h.bd.ne_row h.bf) (Ne.symm (h.bf.ne_row h.bd)) (ap_left (ap_flip h.ap)), hb, ap_flip (ap_move (ap_flip h.ap) (fun g hg => (h.bd.row g hg).2) ho),
    h.bel.trans (hw.below _ h.size (Nat.le_succ _) (fun g hg => (h.bf.row g hg).1))⟩
end
/-- What keeps both builders. -/
def FR10 (w W0 : World) (ogd ogf : Option Nat) (ld lf : List UInt8) (u v : World) : Prop := Below (w.heap.size + 1) u v ∧ (FM w W0 ogd ogf ld lf u → FM w W0 ogd ogf ld lf v)
theorem outD (w W0 : World) (ogd ogf : Option Nat) (ld lf : List UInt8) (W : World) (h : FM w W0 ogd ogf ld lf W) (hl : ld.length ≤ 100000000) :
    Calls Tryd.prog 31 #[.pointer (some ⟨w.heap.size + 1, 0, none⟩)] W fun e w' => e = .returned (.string (S ld)) ∧ Below (w.heap.size + 1) W w' ∧ (FM w W0 ogd ogf ld lf W → FM w W0 ogd ogf ld lf w') :=
  (outX _ _ _ _ W h.bd hl).mono fun e w' hh => by
    obtain ⟨he, h1, h2, _⟩ := hh
    exact ⟨he, h2.below _ h.size (Nat.le_refl _) (fun g hg => (h.bd.row g hg).1), fun k => k.dir h1 h2 (.inl rfl)⟩
theorem outF (w W0 : World) (ogd ogf : Option Nat) (ld lf : List UInt8) (W : World) (h : FM w W0 ogd ogf ld lf W) (hl : lf.length ≤ 100000000) :
    Calls Tryd.prog 31 #[.pointer (some ⟨w.heap.size + 2, 0, none⟩)] W fun e w' => e = .returned (.string (S lf)) ∧ Below (w.heap.size + 1) W w' ∧ (FM w W0 ogd ogf ld lf W → FM w W0 ogd ogf ld lf w') :=
  (outX _ _ _ _ W h.bf hl).mono fun e w' hh => by
    obtain ⟨he, h1, h2, _⟩ := hh
    exact ⟨he, h2.below _ h.size (Nat.le_succ _) (fun g hg => (h.bf.row g hg).1), fun k => k.fld h1 h2 (.inl rfl)⟩
theorem wrap64_of {z : Int} (h0 : -9223372036854775808 ≤ z) (h1 : z ≤ 9223372036854775807) : wrap64 z = z := by
  unfold wrap64
  omega
theorem take_right {L : List Fld} (h : ∀ f ∈ L, rightI f = 0) (k : Nat) : ∀ f ∈ L.take k, rightI f = 0 := fun f hf => h f (List.mem_of_mem_take hf)

set_option maxHeartbeats 6000000 in
set_option maxRecDepth 100000 in
theorem form_any (r : Rec) (u : Value) (w : World) (hE : Env w) (hu : FL u r.fields w) (h : rightRI r = 0) :
    Calls Tryd.prog 23 #[RV r u] w fun e w' => e = .returned (.string (S (formX r))) ∧ Below w.heap.size w w' := by
  obtain ⟨-, -, -, -, -, -, -, h64, hfr⟩ := right_rec r h
  have HR0 := Lib.hid h
  have htot := totX_le r h
  have HFr := Lib.hid hfr
  have HU := Lib.hid hu
  obtain ⟨ua, uc, hue, hcap, hmax⟩ := hu.length
  subst hue
  unfold maxLen at hmax
  have hlf := fun W hE (ha : ∃ a n c, (Value.slice ua r.fields.length uc) = .slice a n c) => leader_any r (.slice ua r.fields.length uc) (totX r.fields) (baseX r.fields) (by omega) (by unfold totX at htot; omega) W hE ha h
  unfold RV at hlf ⊢
  obtain ⟨un, hun⟩ : ∃ n, r.fields.length = n := ⟨_, rfl⟩
  have HDl := Lib.hid (fun k => dirX_le (r.fields.take k) 0 (take_right hfr k) (by rw [List.length_take]; omega))
  have HBl := Lib.hid (fun k => bodX_le (r.fields.take k) (take_right hfr k))
  rw [hun] at hcap h64 hlf ⊢
  have HN := Lib.hid hun
  have cLead := Lib.hid (fun W hE => hlf W hE ⟨_, _, _, rfl⟩)
  have HBody := Lib.hid (fun k (hk : k < un) => bodX_snoc r.fields k (by omega))
  have HDir := Lib.hid (fun k (hk : k < un) => dirX_snoc r.fields k (by omega))
  have cF := Lib.hid (fun k (hk : k < un) x W hE hx => fieldForm_any (r.fields.getD k fd0) x W hE hx (hfr _ (by rw [List.getD_eq_getElem?_getD, List.getElem?_eq_getElem (by omega)]; exact List.getElem_mem _)))
  unfold FV at cF
  have HTl := Lib.hid (fun k (hk : k < un) => tagB_len _ (right_facts (r.fields.getD k fd0) (hfr _ (by rw [List.getD_eq_getElem?_getD, List.getElem?_eq_getElem (by omega)]; exact List.getElem_mem _))).1)
  have HXl := Lib.hid (fun k (hk : k < un) => right_len (r.fields.getD k fd0) (hfr _ (by rw [List.getD_eq_getElem?_getD, List.getElem?_eq_getElem (by omega)]; exact List.getElem_mem _)))
  obtain ⟨W0, hW0⟩ : ∃ W0, ((w.alloc (.cells #[.int .i64 r.id, .int .i64 r.ver, .int .i64 r.kind, .string (S r.lang), .slice ua un uc] 24)).alloc (.cells #[.pointer none, .slice none 0 0] 59)).alloc (.cells #[.pointer none, .slice none 0 0] 59) = W0 := ⟨_, rfl⟩
  have b0 : Below w.heap.size w W0 := by rw [← hW0]; exact (((Below.refl w.heap.size w).alloc (Nat.le_refl _) _).alloc (by simp) _).alloc (by simp; omega) _
  have hrec : W0.heap[w.heap.size]? = some (.cells #[.int .i64 r.id, .int .i64 r.ver, .int .i64 r.kind, .string (S r.lang), .slice ua un uc] 24 (0, 0)) := by
    rw [← hW0]
    exact (Below.heap_alloc _ _ _ (by simp; omega)).trans ((Below.heap_alloc _ _ _ (by simp)).trans (heap_alloc_new w _))
  have hbd : BX (w.heap.size + 1) (w.heap.size + 1) none [] W0 := by
    have h1 := BX.first (w.alloc (.cells #[.int .i64 r.id, .int .i64 r.ver, .int .i64 r.kind, .string (S r.lang), .slice ua un uc] 24)) (w.heap.size + 1) (by simp)
    have h2 := h1.after ((Below.refl _ _).alloc (Nat.le_refl _) (.cells #[.pointer none, .slice none 0 0] 59))
    rw [hW0] at h2
    simpa using h2
  have hbf : BX (w.heap.size + 1) (w.heap.size + 2) none [] W0 := by
    have h1 := BX.first ((w.alloc (.cells #[.int .i64 r.id, .int .i64 r.ver, .int .i64 r.kind, .string (S r.lang), .slice ua un uc] 24)).alloc (.cells #[.pointer none, .slice none 0 0] 59)) (w.heap.size + 1) (by simp)
    rw [hW0] at h1
    simpa using h1
  have HF0 : RowKit.Hid (FM w W0 none none [] [] W0) := ⟨hbd, hbf, .inl rfl, Below.refl _ _⟩
  have HAg : RowKit.Hid (∀ W, Below (w.heap.size + 1) W0 W → W.cell? ⟨w.heap.size, 0, none⟩ = some (.int .i64 r.id) ∧ W.cell? ⟨w.heap.size, 1, none⟩ = some (.int .i64 r.ver) ∧ W.cell? ⟨w.heap.size, 2, none⟩ = some (.int .i64 r.kind) ∧ W.cell? ⟨w.heap.size, 3, none⟩ = some (.string (S r.lang)) ∧ W.cell? ⟨w.heap.size, 4, none⟩ = some (.slice ua un uc)) := by
    intro W hW
    have hb := (hW.block w.heap.size (Nat.lt_succ_self _)).trans hrec
    refine ⟨?_, ?_, ?_, ?_, ?_⟩ <;> (rw [Lib.cell_of_heap hb]; rfl)
  have HE : RowKit.Hid (∀ W, Below (w.heap.size + 1) W0 W → Env W) := fun W hW => hE.after (b0.trans (hW.mono (Nat.le_succ _)))
  have HUW : RowKit.Hid (∀ W, Below (w.heap.size + 1) W0 W → FL (.slice ua un uc) r.fields W) := fun W hW => by
    have := HU.out
    rw [HN.out] at this
    exact this.after (b0.trans (hW.mono (Nat.le_succ _)))
  have B0 := Lib.hid b0
  have HW0 := Lib.hid hW0
  obtain ⟨-, -, -, -, g4⟩ := HAg.out W0 (Below.refl _ _)
  clear hW0 b0 hrec hbd hbf hE hlf hun hfr HU hu h
  go_enter Tryd.func23, Tryd.ntmps23
  go_upto_region 2 with fail
  rw [HW0.out]
  clear HW0
  go_wp2
  clear g4
  go_loopw [12] (fun i wr => ∃ (k : Nat) (ogd ogf : Option Nat), i = .int .i64 (k : Int) ∧ k ≤ un ∧ RowKit.Hid (FM w W0 ogd ogf (dirX 0 (r.fields.take k)) (bodX (r.fields.take k)) wr)) (fun i _ => un - (intOf i).toNat)
  case atStart => exact ⟨0, none, none, rfl, Nat.zero_le _, by rw [List.take_zero]; exact HF0.out⟩
  case round =>
    obtain ⟨k, ogd, ogf, rfl, hk, HF⟩ := hrel
    by_cases hkn : k < un
    · have i1 : (0 : Int) ≤ (k : Int) := by omega
      have i2 : (k : Int) < (un : Int) := by omega
      obtain ⟨g, o, cap', x, he, hg, e0, e1, e2, e3, hq⟩ := (HUW.out wr HF.out.bel).at k (by rw [HN.out]; exact hkn)
      obtain ⟨ha, -, hcp⟩ := Value.slice.inj he
      subst ha hcp
      clear he
      obtain ⟨ax, nx, cx, hx⟩ : ∃ ax nx cx, x = .slice ax nx cx := by obtain ⟨ax, cx, rfl, _⟩ := hq; exact ⟨_, _, _, rfl⟩
      subst hx
      have hA := HF.out.after ((Below.refl wr.heap.size wr).alloc (Nat.le_refl _) (.cells #[.string (S (r.fields.getD k fd0).tag), .string (S (r.fields.getD k fd0).ind), .slice ax nx cx, .int .i64 (r.fields.getD k fd0).auth] 49))
      have hqa := hq.after ((Below.refl wr.heap.size wr).alloc (Nat.le_refl _) (.cells #[.string (S (r.fields.getD k fd0).tag), .string (S (r.fields.getD k fd0).ind), .slice ax nx cx, .int .i64 (r.fields.getD k fd0).auth] 49))
      have hbox := heap_alloc_new wr (.cells #[.string (S (r.fields.getD k fd0).tag), .string (S (r.fields.getD k fd0).ind), .slice ax nx cx, .int .i64 (r.fields.getD k fd0).auth] 49)
      obtain ⟨W1, hW1⟩ : ∃ W1, wr.alloc (.cells #[.string (S (r.fields.getD k fd0).tag), .string (S (r.fields.getD k fd0).ind), .slice ax nx cx, .int .i64 (r.fields.getD k fd0).auth] 49) = W1 := ⟨_, rfl⟩
      rw [hW1] at hA hqa hbox
      obtain ⟨m, hm⟩ : ∃ m, wr.heap.size = m := ⟨_, rfl⟩
      rw [hm] at hbox
      have y0 : W1.cell? ⟨m, 0, none⟩ = some (.string (S (r.fields.getD k fd0).tag)) := by rw [Lib.cell_of_heap hbox]; rfl
      have y1 : W1.cell? ⟨m, 1, none⟩ = some (.string (S (r.fields.getD k fd0).ind)) := by rw [Lib.cell_of_heap hbox]; rfl
      have y2 : W1.cell? ⟨m, 2, none⟩ = some (.slice ax nx cx) := by rw [Lib.cell_of_heap hbox]; rfl
      have y3 : W1.cell? ⟨m, 3, none⟩ = some (.int .i64 (r.fields.getD k fd0).auth) := by rw [Lib.cell_of_heap hbox]; rfl
      have cFk := Lib.hid (cF.out k hkn _ W1 (HE.out W1 hA.bel) hqa)
      have htl := HTl.out k hkn
      have hxl := HXl.out k hkn
      have hdl := HDl.out k
      have hbl := HBl.out k
      rw [List.length_take, HN.out] at hdl hbl
      have hDir := HDir.out k hkn
      have hBody := HBody.out k hkn
      have HW1 := Lib.hid hW1
      have HA := Lib.hid hA
      have HBox := Lib.hid hbox
      have hmlt : m < W1.heap.size := (Array.getElem?_eq_some_iff.1 hbox).1
      clear hW1 hA hqa hbox hq HF
      obtain ⟨X, hX⟩ : ∃ X, fldX (r.fields.getD k fd0) = X := ⟨_, rfl⟩
      obtain ⟨tg, htg⟩ : ∃ t, (r.fields.getD k fd0).tag = t := ⟨_, rfl⟩
      obtain ⟨DD, hDD⟩ : ∃ D, dirX 0 (r.fields.take k) = D := ⟨_, rfl⟩
      obtain ⟨BB, hBB⟩ : ∃ D, bodX (r.fields.take k) = D := ⟨_, rfl⟩
      rw [hX] at cFk hxl hDir hBody
      rw [htg] at htl hDir e0 HW1 HBox y0 cFk
      rw [hDD] at HA hdl hDir
      rw [hBB] at HA hbl hDir hBody
      have hBB2 : BB.length ≤ 256000 := by omega
      have hDD2 : DD.length ≤ 1792 := by omega
      have HDir2 := Lib.hid hDir
      have HBody2 := Lib.hid hBody
      clear hX htg hDD hBB hdl hbl hDir hBody
      generalize S (r.fields.getD k fd0).ind = t1 at *
      generalize (r.fields.getD k fd0).auth = t3 at *
      go_wp2_with fail
      rw [HW1.out]
      refine cFk.out.mono ?_
      rintro e W2 ⟨rfl, hb2⟩
      have hF2 := HA.out.after hb2
      have kt : W2.cell? ⟨m, 0, none⟩ = some (.string (S tg)) := (hb2.cell (p := ⟨m, 0, none⟩) hmlt).trans y0
      have hm2 : m < W2.heap.size := Nat.lt_of_lt_of_le hmlt hb2.size
      have KT := Lib.hid kt
      have HM := Lib.hid hm2
      have HF2 := Lib.hid hF2
      have HEW : RowKit.Hid (∀ W, Below W2.heap.size W2 W → Env W) := fun W hW => HE.out W (hF2.bel.trans (hW.mono hF2.size))
      clear hb2 hF2 kt hm2 y0 y1 y2 y3 e0 e1 e2 e3 cFk HBox HW1
      obtain ⟨xl, hxl2⟩ : ∃ n, X.length = n := ⟨_, rfl⟩
      obtain ⟨bl, hbl2⟩ : ∃ n, BB.length = n := ⟨_, rfl⟩
      have hP1 := pad_len xl 3 (by omega)
      have hP2 := pad_small bl 5 (by omega)
      have c1 := Lib.hid (fun W hE => padded_any xl 4 (by omega) (by omega) W hE)
      have c2 := Lib.hid (fun W hE => padded_any bl 5 (by omega) (by omega) W hE)
      have cL := Lib.hid (fun W (h : BX (w.heap.size + 1) (w.heap.size + 2) ogf BB W) => lenX _ _ _ _ W h)
      rw [hbl2] at cL HDir2
      rw [hxl2] at HDir2
      have hsum : S tg ++ S (padI xl 4) ++ S (padI bl 5) = S (tg ++ padI xl 4 ++ padI bl 5) := by rw [S_append, S_append]
      have HXs : RowKit.Hid ((S X).size = xl) := by unfold RowKit.Hid; rw [S_size, hxl2]
      have HSt : RowKit.Hid ((S tg).size = 3) := by unfold RowKit.Hid; rw [S_size, htl]
      have HP1 : RowKit.Hid ((S (padI xl 4)).size = 4) := by unfold RowKit.Hid; rw [S_size, hP1]
      obtain ⟨d2, hd2⟩ : ∃ d, (padI bl 5).length = d := ⟨_, rfl⟩
      rw [hd2] at hP2
      have HP2 : RowKit.Hid ((S (padI bl 5)).size = d2) := by unfold RowKit.Hid; rw [S_size, hd2]
      have hne : tg ++ padI xl 4 ++ padI bl 5 ≠ [] := by
        intro h
        have := congrArg List.length h
        simp [htl] at this
      obtain ⟨TT, hTT⟩ : ∃ t, tg ++ padI xl 4 ++ padI bl 5 = t := ⟨_, rfl⟩
      rw [hTT] at hsum hne HDir2
      have hTTl : TT.length ≤ 100 := by rw [← hTT]; simp only [List.length_append, htl, hP1, hd2]; omega
      obtain ⟨st, hst⟩ : ∃ s, S tg = s := ⟨_, rfl⟩
      obtain ⟨p1, hp1⟩ : ∃ s, S (padI xl 4) = s := ⟨_, rfl⟩
      obtain ⟨p2, hp2⟩ : ∃ s, S (padI bl 5) = s := ⟨_, rfl⟩
      obtain ⟨sx, hsx⟩ : ∃ s, S X = s := ⟨_, rfl⟩
      rw [hst] at hsum HSt KT
      rw [hp1] at hsum HP1 c1
      rw [hp2] at hsum HP2 c2
      rw [hsx] at HXs ⊢
      rw [hst]
      obtain ⟨q5, hq5⟩ : ∃ q, st ++ p1 = q := ⟨_, rfl⟩
      obtain ⟨q8, hq8⟩ : ∃ q, q5 ++ p2 = q := ⟨_, rfl⟩
      rw [hq5, hq8] at hsum
      have Q5 := Lib.hid hq5
      have Q8 := Lib.hid hq8
      have Z5 : RowKit.Hid (¬ 9223372036854775807 < (3 : Nat) + 4) := by unfold RowKit.Hid; decide
      have HQ5 : RowKit.Hid (q5.size = 7) := by unfold RowKit.Hid; rw [← hq5, ByteArray.size_append, HSt.out, HP1.out]
      have Z8 : RowKit.Hid (¬ 9223372036854775807 < (7 : Nat) + d2) := by unfold RowKit.Hid; omega
      have HTT := Lib.hid hsum
      have cWd := Lib.hid (fun W (h : FM w W0 ogd ogf DD BB W) => writeX (w.heap.size + 1) (w.heap.size + 1) ogd DD TT W h.bd hne (by omega) h.size)
      have hXne : X ≠ [] := by
        intro h
        rw [h] at hxl2
        have := hxl.2
        simp at hxl2
        simp [h] at this
      have cWf := Lib.hid (fun W oh (h : FM w W0 oh ogf (DD ++ TT) BB W) => writeX (w.heap.size + 1) (w.heap.size + 2) ogf BB X W h.bf hXne (by omega) h.size)
      rw [hsx] at cWf
      rw [← HTT.out] at cWd
      clear hq5 hq8 hst hp1 hp2 hsx hTT hd2 hxl2 hbl2 hsum hP1 hP2 hne hXne htl hxl hm
      go_upto_region 6 with fail
      apply wp_region_last (R := fun u v => Below W2.heap.size u v) (V := [SPR.eq _ (.pointer (some ⟨m, 0, none⟩)), SPR.eq _ (.string st), SPR.eq _ (.string sx), SPR.eq _ (.int .i64 (xl : Int)), SPR.eq _ (.string p1), SPR.eq _ (.string q5), SPR.eq _ (.int .i64 (bl : Int)), SPR.eq _ (.string p2), SPR.eq _ (.string q8)]) (n := 9) (f := 10)
      case htrans => exact fun _ _ _ h k => h.trans k
      case hdrew => exact (Below.refl _ _).drew
      case hm => kernel_rfl
      case hd => kernel_rfl
      case hb => kernel_rfl
      case hA =>
        intro vs
        simp only [puts, Act.put, List.setIfInBounds_toArray, List.set_cons_zero, List.set_cons_succ]
        exact rfl
      case hlast => kernel_rfl
      case hol => exact rfl
      case hob =>
        refine ObsR.cons _ _ _ _ _ _ _ ?o0 (ObsR.cons _ _ _ _ _ _ _ ?o1 (ObsR.cons _ _ _ _ _ _ _ ?o2 (ObsR.cons _ _ _ _ _ _ _ ?o3 (ObsR.cons _ _ _ _ _ _ _ ?o4 (ObsR.cons _ _ _ _ _ _ _ ?o5 (ObsR.cons _ _ _ _ _ _ _ ?o6 (ObsR.cons _ _ _ _ _ _ _ ?o7 (ObsR.cons _ _ _ _ _ _ _ ?o8 (ObsR.nil _ _ _ _ _ _ _)))))))))
        case o0 =>
          intro vs W hw hd K hK
          go_simp
          exact hK.out _ _ rfl (Below.refl _ _)
        case o1 =>
          intro vs W hw hd K hK
          have h0 : vs 0 = .pointer (some ⟨m, 0, none⟩) := hd 0 (by kernel_rfl)
          have kk := (hw.cell (p := ⟨m, 0, none⟩) HM.out).trans KT.out
          simp only [Nat.reduceAdd, h0] at hK ⊢
          go_simp
          exact hK.out _ _ rfl (Below.refl _ _)
        case o2 =>
          intro vs W hw hd K hK
          go_simp
          exact hK.out _ _ rfl (Below.refl _ _)
        case o3 =>
          intro vs W hw hd K hK
          have h2 : vs 2 = .string sx := hd 2 (by kernel_rfl)
          have hx := HXs.out
          simp only [Nat.reduceAdd, h2] at hK ⊢
          go_simp
          exact hK.out _ _ rfl (Below.refl _ _)
        case o4 =>
          intro vs W hw hd K hK
          have h3 : vs 3 = .int .i64 (xl : Int) := hd 3 (by kernel_rfl)
          simp only [Nat.reduceAdd, h3] at hK ⊢
          go_simp
          refine (c1.out W (HEW.out W hw)).mono ?_
          rintro e W' ⟨rfl, hb'⟩
          exact hK.out _ _ rfl (hb'.mono hw.size)
        case o5 =>
          intro vs W hw hd K hK
          have h1 : vs 1 = .string st := hd 1 (by kernel_rfl)
          have h4 : vs 4 = .string p1 := hd 4 (by kernel_rfl)
          have hz1 := HSt.out
          have hz2 := HP1.out
          have hz := Z5.out
          simp only [Nat.reduceAdd, h1, h4] at hK ⊢
          go_simp
          exact hK.out _ _ (congrArg Value.string Q5.out) (Below.refl _ _)
        case o6 =>
          intro vs W hw hd K hK
          go_simp
          refine (cL.out W (HF2.out.after hw).bf).mono ?_
          rintro e W' ⟨rfl, hb'⟩
          rw [hb']
          exact hK.out _ _ rfl (Below.refl _ _)
        case o7 =>
          intro vs W hw hd K hK
          have h6 : vs 6 = .int .i64 (bl : Int) := hd 6 (by kernel_rfl)
          simp only [Nat.reduceAdd, h6] at hK ⊢
          go_simp
          refine (c2.out W (HEW.out W hw)).mono ?_
          rintro e W' ⟨rfl, hb'⟩
          exact hK.out _ _ rfl (hb'.mono hw.size)
        case o8 =>
          intro vs W hw hd K hK
          have h5 : vs 5 = .string q5 := hd 5 (by kernel_rfl)
          have h7 : vs 7 = .string p2 := hd 7 (by kernel_rfl)
          have hz1 := HQ5.out
          have hz2 := HP2.out
          have hz := Z8.out
          simp only [Nat.reduceAdd, h5, h7] at hK ⊢
          go_simp
          exact hK.out _ _ (congrArg Value.string Q8.out) (Below.refl _ _)
      case hfin =>
          intro vs W hw hv'
          have e8 : vs 8 = .string q8 := hv' 8 (by decide)
          simp only [Nat.reduceAdd, e8]
          have hFW := HF2.out.after hw
          have c := Lib.hid (cWd.out W hFW)
          have HFW := Lib.hid hFW
          clear hv' hFW hw
          go_simp
          refine c.out.mono ?_
          rintro e W5 ⟨⟨ev5, rfl⟩, oh, h5, hw5, ho5⟩
          have hF5 := HFW.out.dir h5 hw5 ho5
          have c6 := Lib.hid (cWf.out W5 oh hF5)
          have HF5 := Lib.hid hF5
          clear h5 hw5 ho5 hF5 e8
          go_wp2_with fail
          refine c6.out.mono ?_
          rintro e W6 ⟨⟨ev6, rfl⟩, oh6, h6, hw6, ho6⟩
          have hF6 := HF5.out.fld h6 hw6 ho6
          rw [← HBody2.out, ← HDir2.out] at hF6
          have HF6 := Lib.hid hF6
          clear h6 hw6 ho6 hF6
          go_wp2
          go_roundw
          case rel => exact ⟨k + 1, _, _, by go_num, by omega, HF6⟩
          case measure => simp [intOf]; omega
    · obtain rfl : k = un := by omega
      rw [show r.fields.take k = r.fields by rw [← HN.out, List.take_length]] at HF
      have hdl := HDl.out k
      have hbl := HBl.out k
      rw [show r.fields.take k = r.fields by rw [← HN.out, List.take_length], HN.out] at hdl hbl
      have HForm : RowKit.Hid (formX r = leadL (totX r.fields) (baseX r.fields) r ++ dirX 0 r.fields ++ [30] ++ bodX r.fields ++ [29]) := rfl
      have hlead : (leadL (totX r.fields) (baseX r.fields) r).length ≤ 200 := by
        obtain ⟨a0, a1, a2, a3, a4, a5, a6, -, -⟩ := right_rec r HR0.out
        have h3 := lang_len _ a6
        have l1 := pad_small (totX r.fields) 5 (by omega)
        have l2 := pad_small r.ver.toNat 1 (by omega)
        have l3 := pad_small (baseX r.fields) 5 (by unfold totX at htot; omega)
        have l4 := pad_small r.id.toNat 4 (by omega)
        unfold leadL
        simp only [List.length_append, List.length_cons, List.length_nil, h3]
        omega
      have hbs : baseX r.fields = 24 + (dirX 0 r.fields).length + 1 := rfl
      have htt : totX r.fields = baseX r.fields + (bodX r.fields).length + 1 := rfl
      obtain ⟨LL, hLL⟩ : ∃ l, leadL (totX r.fields) (baseX r.fields) r = l := ⟨_, rfl⟩
      rw [hLL] at HForm hlead cLead
      obtain ⟨tt, htt2⟩ : ∃ n, totX r.fields = n := ⟨_, rfl⟩
      obtain ⟨bs, hbs2⟩ : ∃ n, baseX r.fields = n := ⟨_, rfl⟩
      obtain ⟨DD, hDD⟩ : ∃ D, dirX 0 r.fields = D := ⟨_, rfl⟩
      obtain ⟨BB, hBB⟩ : ∃ D, bodX r.fields = D := ⟨_, rfl⟩
      rw [hDD] at HF HForm hdl hbs
      rw [hBB] at HF HForm hbl htt
      rw [htt2] at htt htot cLead
      rw [hbs2] at hbs htt cLead
      clear htt2 hbs2 hDD hBB hLL HF0 cF HTl HXl HDir HBody HDl HBl HFr
      obtain ⟨bl, hbl2⟩ : ∃ n, BB.length = n := ⟨_, rfl⟩
      obtain ⟨dl, hdl2⟩ : ∃ n, DD.length = n := ⟨_, rfl⟩
      obtain ⟨ll, hll2⟩ : ∃ n, LL.length = n := ⟨_, rfl⟩
      rw [hbl2] at hbl htt
      rw [hdl2] at hdl hbs
      rw [hll2] at hlead
      have cLd0 := Lib.hid (lenX _ _ _ _ wr HF.out.bd)
      rw [hdl2] at cLd0
      have cL := Lib.hid (fun W (h : BX (w.heap.size + 1) (w.heap.size + 2) ogf BB W) => lenX _ _ _ _ W h)
      rw [hbl2] at cL
      have cSd := Lib.hid (fun W (h : FM w W0 ogd ogf DD BB W) => outD w W0 ogd ogf DD BB W h (by omega))
      have cSb := Lib.hid (fun W (h : FM w W0 ogd ogf DD BB W) => outF w W0 ogd ogf DD BB W h (by omega))
      have HFM := HF
      have HEW : RowKit.Hid (∀ W, Below (w.heap.size + 1) wr W → Env W) := fun W hW => HE.out W (HF.out.bel.trans hW)
      have HAgW : RowKit.Hid (∀ W, Below (w.heap.size + 1) wr W → W.cell? ⟨w.heap.size, 0, none⟩ = some (.int .i64 r.id) ∧ W.cell? ⟨w.heap.size, 1, none⟩ = some (.int .i64 r.ver) ∧ W.cell? ⟨w.heap.size, 2, none⟩ = some (.int .i64 r.kind) ∧ W.cell? ⟨w.heap.size, 3, none⟩ = some (.string (S r.lang)) ∧ W.cell? ⟨w.heap.size, 4, none⟩ = some (.slice ua k uc)) := fun W hW => HAg.out W (HF.out.bel.trans hW)
      have HN1 := Lib.hid HF.out.size
      have B9 := Lib.hid (B0.out.trans (HF.out.bel.mono (Nat.le_succ _)))
      clear HAg HE HUW B0 HF
      have HAg := HAgW
      clear HAgW
      have hbs1 : (24 : Int) + (dl : Int) + 1 = (bs : Int) := by omega
      have HW64 : RowKit.Hid (wrap64 (wrap64 (24 + (dl : Int)) + 1) = (bs : Int)) := by
        unfold RowKit.Hid
        rw [wrap64_of (z := 24 + (dl : Int)) (by omega) (by omega), wrap64_of (z := 24 + (dl : Int) + 1) (by omega) (by omega)]
        exact hbs1
      have HWa : RowKit.Hid (IntKind.i64.wrap ((bs : Int) + (bl : Int)) = (bs : Int) + (bl : Int)) := by unfold RowKit.Hid; rw [IntKind.wrap_i64]; omega
      have HWb : RowKit.Hid (IntKind.i64.wrap ((bs : Int) + (bl : Int) + 1) = (bs : Int) + (bl : Int) + 1) := by unfold RowKit.Hid; rw [IntKind.wrap_i64]; omega
      have HTt : RowKit.Hid ((bs : Int) + (bl : Int) + 1 = (tt : Int)) := by unfold RowKit.Hid; omega
      have HSl : RowKit.Hid ((S LL).size = ll) := by unfold RowKit.Hid; rw [S_size, hll2]
      have HSd : RowKit.Hid ((S DD).size = dl) := by unfold RowKit.Hid; rw [S_size, hdl2]
      have HSb : RowKit.Hid ((S BB).size = bl) := by unfold RowKit.Hid; rw [S_size, hbl2]
      have H30 : RowKit.Hid ((⟨#[30]⟩ : ByteArray).size = 1) := rfl
      have H29 : RowKit.Hid ((⟨#[29]⟩ : ByteArray).size = 1) := rfl
      have hsum : S (formX r) = S LL ++ S DD ++ ⟨#[30]⟩ ++ S BB ++ ⟨#[29]⟩ := by
        rw [HForm.out, show (⟨#[30]⟩ : ByteArray) = S [30] from rfl, show (⟨#[29]⟩ : ByteArray) = S [29] from rfl]
        simp only [S_append]
      obtain ⟨sl, hsl⟩ : ∃ s, S LL = s := ⟨_, rfl⟩
      obtain ⟨sd, hsd⟩ : ∃ s, S DD = s := ⟨_, rfl⟩
      obtain ⟨sb, hsb⟩ : ∃ s, S BB = s := ⟨_, rfl⟩
      rw [hsl] at HSl cLead
      rw [hsd] at HSd cSd
      rw [hsb] at HSb cSb
      rw [hsl, hsd, hsb] at hsum
      have cLd := cLead
      obtain ⟨q8, hq8⟩ : ∃ q, sl ++ sd = q := ⟨_, rfl⟩
      obtain ⟨q9, hq9⟩ : ∃ q, q8 ++ (⟨#[30]⟩ : ByteArray) = q := ⟨_, rfl⟩
      obtain ⟨q11, hq11⟩ : ∃ q, q9 ++ sb = q := ⟨_, rfl⟩
      obtain ⟨q12, hq12⟩ : ∃ q, q11 ++ (⟨#[29]⟩ : ByteArray) = q := ⟨_, rfl⟩
      rw [hq8, hq9, hq11, hq12] at hsum
      have HSum := Lib.hid hsum
      have Q8 := Lib.hid hq8
      have Q9 := Lib.hid hq9
      have Q11 := Lib.hid hq11
      have Q12 := Lib.hid hq12
      have Z8 : RowKit.Hid (¬ 9223372036854775807 < (ll : Nat) + dl) := by unfold RowKit.Hid; omega
      have HQ8 : RowKit.Hid (q8.size = ll + dl) := by unfold RowKit.Hid; rw [← hq8, ByteArray.size_append, HSl.out, HSd.out]
      have Z9 : RowKit.Hid (¬ 9223372036854775807 < (ll + dl : Nat) + 1) := by unfold RowKit.Hid; omega
      have HQ9 : RowKit.Hid (q9.size = ll + dl + 1) := by unfold RowKit.Hid; rw [← hq9, ByteArray.size_append, HQ8.out, H30.out]
      have Z11 : RowKit.Hid (¬ 9223372036854775807 < (ll + dl + 1 : Nat) + bl) := by unfold RowKit.Hid; omega
      have HQ11 : RowKit.Hid (q11.size = ll + dl + 1 + bl) := by unfold RowKit.Hid; rw [← hq11, ByteArray.size_append, HQ9.out, HSb.out]
      have Z12 : RowKit.Hid (¬ 9223372036854775807 < (ll + dl + 1 + bl : Nat) + 1) := by unfold RowKit.Hid; omega
      clear hsum hq8 hq9 hq11 hq12 hsl hsd hsb hll2 hdl2 hbl2 HForm hlead hbl hdl htot htt hbs cLead
      go_wp2_with fail
      refine cLd0.out.mono ?_
      rintro e w1 ⟨rfl, hw1⟩
      rw [hw1]
      clear hw1
      go_upto_region 10 with fail
      apply wp_region_rel (R := FR10 w W0 ogd ogf DD BB) (V := [SPR.eq _ (.agg #[.int .i64 r.id, .int .i64 r.ver, .int .i64 r.kind, .string (S r.lang), .slice ua k uc]), SPR.eq _ (.int .i64 (bs : Int)), SPR.eq _ (.int .i64 (bl : Int)), SPR.eq _ (.int .i64 ((bs : Int) + (bl : Int))), SPR.eq _ (.int .i64 (tt : Int)), SPR.eq _ (.int .i64 (bs : Int)), SPR.eq _ (.string sl), SPR.eq _ (.string sd), SPR.eq _ (.string q8), SPR.eq _ (.string q9), SPR.eq _ (.string sb), SPR.eq _ (.string q11), SPR.eq _ (.string q12), SPR.eq _ (.string q12)])
      case htrans => exact fun _ _ _ h k => ⟨h.1.trans k.1, fun g => k.2 (h.2 g)⟩
      case hdrew => exact ⟨(Below.refl _ _).drew, fun h => ⟨h.bd, h.bf, h.ap, h.bel.drew⟩⟩
      case hm => kernel_rfl
      case hd => kernel_rfl
      case hb => kernel_rfl
      case hA =>
        intro vs
        simp only [puts, Act.put, List.setIfInBounds_toArray, List.set_cons_zero, List.set_cons_succ]
        exact rfl
      case hob =>
        refine ObsR.cons _ _ _ _ _ _ _ ?o0 (ObsR.cons _ _ _ _ _ _ _ ?o1 (ObsR.cons _ _ _ _ _ _ _ ?o2 (ObsR.cons _ _ _ _ _ _ _ ?o3 (ObsR.cons _ _ _ _ _ _ _ ?o4 (ObsR.cons _ _ _ _ _ _ _ ?o5 (ObsR.cons _ _ _ _ _ _ _ ?o6 (ObsR.cons _ _ _ _ _ _ _ ?o7 (ObsR.cons _ _ _ _ _ _ _ ?o8 (ObsR.cons _ _ _ _ _ _ _ ?o9 (ObsR.cons _ _ _ _ _ _ _ ?o10 (ObsR.cons _ _ _ _ _ _ _ ?o11 (ObsR.cons _ _ _ _ _ _ _ ?o12 (ObsR.cons _ _ _ _ _ _ _ ?o13 (ObsR.nil _ _ _ _ _ _ _))))))))))))))
        case o0 =>
          intro vs W hw hd K hK
          obtain ⟨k0, k1, k2, k3, k4⟩ := HAg.out W hw.1
          go_simp
          exact hK.out _ _ rfl ⟨Below.refl _ _, fun h => h⟩
        case o1 =>
          intro vs W hw hd K hK
          go_simp
          exact hK.out _ _ (congrArg (Value.int .i64) HW64.out) ⟨Below.refl _ _, fun h => h⟩
        case o2 =>
          intro vs W hw hd K hK
          go_simp
          refine (cL.out W (hw.2 HFM.out).bf).mono ?_
          rintro e W' ⟨rfl, hb'⟩
          rw [hb']
          exact hK.out _ _ rfl ⟨Below.refl _ _, fun h => h⟩
        case o3 =>
          intro vs W hw hd K hK
          have h1 : vs 1 = .int .i64 (bs : Int) := hd 1 (by kernel_rfl)
          have h2 : vs 2 = .int .i64 (bl : Int) := hd 2 (by kernel_rfl)
          have hwr := HWa.out
          simp only [Nat.reduceAdd, h1, h2] at hK ⊢
          go_simp
          exact hK.out _ _ rfl ⟨Below.refl _ _, fun h => h⟩
        case o4 =>
          intro vs W hw hd K hK
          have h3 : vs 3 = .int .i64 ((bs : Int) + (bl : Int)) := hd 3 (by kernel_rfl)
          have hwr := HWb.out
          simp only [Nat.reduceAdd, h3] at hK ⊢
          go_simp
          exact hK.out _ _ (congrArg (Value.int .i64) HTt.out) ⟨Below.refl _ _, fun h => h⟩
        case o5 =>
          intro vs W hw hd K hK
          go_simp
          exact hK.out _ _ (congrArg (Value.int .i64) HW64.out) ⟨Below.refl _ _, fun h => h⟩
        case o6 =>
          intro vs W hw hd K hK
          have h0 : vs 0 = .agg #[.int .i64 r.id, .int .i64 r.ver, .int .i64 r.kind, .string (S r.lang), .slice ua k uc] := hd 0 (by kernel_rfl)
          have h4 : vs 4 = .int .i64 (tt : Int) := hd 4 (by kernel_rfl)
          have h5 : vs 5 = .int .i64 (bs : Int) := hd 5 (by kernel_rfl)
          simp only [Nat.reduceAdd, h0, h4, h5] at hK ⊢
          go_simp
          refine (cLd.out W (HEW.out W hw.1)).mono ?_
          rintro e W' ⟨rfl, hb'⟩
          exact hK.out _ _ rfl ⟨hb'.mono (Nat.le_trans HN1.out hw.1.size), fun h => h.after hb'⟩
        case o7 =>
          intro vs W hw hd K hK
          go_simp
          refine (cSd.out W (hw.2 HFM.out)).mono ?_
          rintro e W' ⟨rfl, hb', hc'⟩
          exact hK.out _ _ rfl ⟨hb', hc'⟩
        case o8 =>
          intro vs W hw hd K hK
          have h6 : vs 6 = .string sl := hd 6 (by kernel_rfl)
          have h7 : vs 7 = .string sd := hd 7 (by kernel_rfl)
          have hz1 := HSl.out
          have hz2 := HSd.out
          have hz := Z8.out
          simp only [Nat.reduceAdd, h6, h7] at hK ⊢
          go_simp
          exact hK.out _ _ (congrArg Value.string Q8.out) ⟨Below.refl _ _, fun h => h⟩
        case o9 =>
          intro vs W hw hd K hK
          have h8 : vs 8 = .string q8 := hd 8 (by kernel_rfl)
          have hz1 := HQ8.out
          have hz2 := H30.out
          have hz := Z9.out
          simp only [Nat.reduceAdd, h8] at hK ⊢
          go_simp
          exact hK.out _ _ (congrArg Value.string Q9.out) ⟨Below.refl _ _, fun h => h⟩
        case o10 =>
          intro vs W hw hd K hK
          go_simp
          refine (cSb.out W (hw.2 HFM.out)).mono ?_
          rintro e W' ⟨rfl, hb', hc'⟩
          exact hK.out _ _ rfl ⟨hb', hc'⟩
        case o11 =>
          intro vs W hw hd K hK
          have h9 : vs 9 = .string q9 := hd 9 (by kernel_rfl)
          have h10 : vs 10 = .string sb := hd 10 (by kernel_rfl)
          have hz1 := HQ9.out
          have hz2 := HSb.out
          have hz := Z11.out
          simp only [Nat.reduceAdd, h9, h10] at hK ⊢
          go_simp
          exact hK.out _ _ (congrArg Value.string Q11.out) ⟨Below.refl _ _, fun h => h⟩
        case o12 =>
          intro vs W hw hd K hK
          have h11 : vs 11 = .string q11 := hd 11 (by kernel_rfl)
          have hz1 := HQ11.out
          have hz2 := H29.out
          have hz := Z12.out
          simp only [Nat.reduceAdd, h11] at hK ⊢
          go_simp
          exact hK.out _ _ (congrArg Value.string Q12.out) ⟨Below.refl _ _, fun h => h⟩
        case o13 =>
          intro vs W hw hd K hK
          have h12 : vs 12 = .string q12 := hd 12 (by kernel_rfl)
          simp only [Nat.reduceAdd, h12] at hK ⊢
          go_simp
          exact hK.out _ _ rfl ⟨Below.refl _ _, fun h => h⟩
      case hfin =>
        intro vs W hw hv'
        have e13 : vs 13 = .string q12 := hv' 13 (by decide)
        simp only [Nat.reduceAdd, e13]
        have b9 := B9.out.trans (hw.1.mono (Nat.le_succ _))
        clear hv' hw
        go_wp2
        go_ret
        rw [HSum.out]
        exact ⟨rfl, b9⟩
end

end Go.Proofs.YtiledacfdaenbaaDoor
