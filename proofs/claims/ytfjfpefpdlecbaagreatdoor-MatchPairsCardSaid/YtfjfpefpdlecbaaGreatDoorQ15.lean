/- Merged: R15E, R15F, R15G, EqKey. -/
import Derived.Test.YtfjfpefpdlecbaaGreatDoorQ07
import Derived.Test.YtfjfpefpdlecbaaGreatDoorQ12
import Derived.Test.YtfjfpefpdlecbaaGreatDoorQ14
import Derived.Test.YtfjfpefpdlecbaaGreatDoorQ04
import Derived.Laws.StructEq
namespace Go.Proofs.YtfjfpefpdlecbaaGreatDoor

section
open Go.RowKit Go.PlainAid
/-- A key. -/
def KV (k : MKey) : Value := .agg #[.string (S k.tag), .int .u8 (k.code.toNat : Int), .int .i64 k.norm, .int .i64 k.weight]
theorem kcells4 {W : World} {b : Nat} {t : TypeId} {x0 x1 x2 x3 : Value} (h : W.heap[b]? = some (.cells #[x0, x1, x2, x3] t (0, 0))) :
    W.cell? ⟨b, 0, none⟩ = some x0 ∧ W.cell? ⟨b, 1, none⟩ = some x1 ∧ W.cell? ⟨b, 2, none⟩ = some x2 ∧ W.cell? ⟨b, 3, none⟩ = some x3 := by
  refine ⟨?_, ?_, ?_, ?_⟩ <;> rw [Lib.cell_of_heap h] <;> rfl
theorem rcell5 {W : World} {b : Nat} {t : TypeId} {x0 x1 x2 x3 x4 : Value} (h : W.heap[b]? = some (.cells #[x0, x1, x2, x3, x4] t (0, 0))) : W.cell? ⟨b, 4, none⟩ = some x4 := by
  rw [Lib.cell_of_heap h]
  rfl
theorem QL.opened {v : Value} {A : List Sub} {w : World} (h : QL v A w) : ∃ a cap g o, v = .slice a A.length cap ∧ A.length ≤ cap ∧ cap ≤ maxLen ∧ (0 < A.length → a = some ⟨g, o, none⟩) ∧ ∀ W, Below w.heap.size w W → ∀ i, i < A.length → W.cell? ⟨g, o + i * 2, none⟩ = some (.int .u8 ((A.getD i sub0).1.toNat : Int)) ∧ W.cell? ⟨g, o + i * 2 + 1, none⟩ = some (.string (S (A.getD i sub0).2)) := by
  obtain ⟨a, cap, rfl, hc, hm, hn, hx⟩ := h
  by_cases h0 : 0 < A.length
  · obtain ⟨g, o, rfl, -, -⟩ := hx 0 h0
    refine ⟨_, cap, g, o, rfl, hc, hm, fun _ => rfl, fun W hb i hi => ?_⟩
    obtain ⟨g', o', e, hg', h1, h2⟩ := hx i hi
    obtain ⟨rfl, rfl, -⟩ := Addr.mk.inj (Option.some.inj e)
    exact ⟨(hb.cell (p := ⟨_, _, none⟩) hg').trans h1, (hb.cell (p := ⟨_, _, none⟩) hg').trans h2⟩
  · exact ⟨a, cap, 0, 0, rfl, hc, hm, fun h => absurd h h0, fun W hb i hi => by omega⟩
theorem getD_mem15 {α : Type} (L : List α) (d : α) (i : Nat) (h : i < L.length) : L.getD i d ∈ L := by
  rw [List.getD_eq_getElem?_getD, List.getElem?_eq_getElem h]
  exact List.getElem_mem _
/-- What is asked of a record: moderate size and valid texts. -/
structure okR (r : Rec) : Prop where
  len : r.fields.length ≤ 70
  subs : ∀ f ∈ r.fields, f.subs.length ≤ 20
  vals : ∀ f ∈ r.fields, ∀ s ∈ f.subs, s.2.length ≤ 300 ∧ validT s.2 = true

set_option maxHeartbeats 32000000 in
set_option maxRecDepth 100000 in
theorem refKeys_any (k : MKey) (r : Rec) (u : Value) (w : World) (hu : FL u r.fields w) (ho : okR r) :
    Calls Tryz.prog 18 #[KV k, RV r u] w fun e w' => ∃ v, e = .returned v ∧ SR w.heap.size v (keysM k r) w' ∧ Below w.heap.size w w' := by
  obtain ⟨Q, hQ⟩ : ∃ Q, (fun (e : Ending) (w' : World) => ∃ v, e = .returned v ∧ SR w.heap.size v (keysM k r) w' ∧ Below w.heap.size w w') = Q := ⟨_, rfl⟩
  rw [hQ]
  obtain ⟨W0, hW0⟩ : ∃ W0, (w.alloc (.cells #[.string (S k.tag), .int .u8 (k.code.toNat : Int), .int .i64 k.norm, .int .i64 k.weight] 39)).alloc (.cells #[.int .i64 r.id, .int .i64 r.ver, .int .i64 r.kind, .string (S r.lang), u] 33) = W0 := ⟨_, rfl⟩
  have b0 : Below w.heap.size w W0 := by rw [← hW0]; exact ((Below.refl w.heap.size w).alloc (Nat.le_refl _) _).alloc (by simp) _
  have hsz0 : W0.heap.size = w.heap.size + 2 := by rw [← hW0]; simp
  have hK : W0.heap[w.heap.size]? = some (.cells #[.string (S k.tag), .int .u8 (k.code.toNat : Int), .int .i64 k.norm, .int .i64 k.weight] 39 (0, 0)) := by
    rw [← hW0]
    exact (Below.heap_alloc _ _ _ (by simp)).trans (heap_alloc_new w _)
  have hR : W0.heap[w.heap.size + 1]? = some (.cells #[.int .i64 r.id, .int .i64 r.ver, .int .i64 r.kind, .string (S r.lang), u] 33 (0, 0)) := by
    rw [← hW0]
    have := heap_alloc_new (w.alloc (.cells #[.string (S k.tag), .int .u8 (k.code.toNat : Int), .int .i64 k.norm, .int .i64 k.weight] 39)) (.cells #[.int .i64 r.id, .int .i64 r.ver, .int .i64 r.kind, .string (S r.lang), u] 33)
    simpa using this
  have HK := Lib.hid (fun (W : World) (h : Below W0.heap.size W0 W) => (h.block w.heap.size (by omega)).trans hK)
  have HR := Lib.hid (fun (W : World) (h : Below W0.heap.size W0 W) => (h.block (w.heap.size + 1) (by omega)).trans hR)
  have HU := Lib.hid (fun (W : World) (h : Below W0.heap.size W0 W) => hu.after (b0.trans (h.mono b0.size)))
  have HEnd : RowKit.Hid (∀ v W, SR W0.heap.size v (keysP k r.fields r.fields.length 0) W → Below W0.heap.size W0 W → Q (.returned v) W) := by
    intro v W h1 h2
    rw [← hQ]
    rw [keysP_end] at h1
    exact ⟨v, rfl, h1.mono b0.size, b0.trans (h2.mono b0.size)⟩
  have HE0 : RowKit.Hid (SR W0.heap.size (.slice (some ⟨W0.heap.size, 0, none⟩) 0 0) (keysP k r.fields 0 0) (W0.alloc (.cells #[] 9))) := by
    unfold RowKit.Hid
    rw [keysP_start]
    exact SR.empty W0
  have HB0 := Lib.hid ((Below.refl W0.heap.size W0).alloc (Nat.le_refl _) (.cells #[] 9))
  have HW0 := Lib.hid hW0
  obtain ⟨a, cp, hua, hcap, hmax⟩ := hu.length
  unfold maxLen at hmax
  subst hua
  have HLen := Lib.hid (fun i j => keysP_len k r.fields i j ho.subs ho.len)
  have HNx := Lib.hid (fun i (h : i < r.fields.length) => keysP_next k r.fields i h)
  have HOk := Lib.hid (fun i (h : i < r.fields.length) => show ((r.fields.getD i fd0).subs.length ≤ 20 ∧ ∀ j, j < (r.fields.getD i fd0).subs.length → (((r.fields.getD i fd0).subs.getD j sub0).2.length ≤ 300 ∧ validT ((r.fields.getD i fd0).subs.getD j sub0).2 = true)) from by
    have hm := getD_mem15 r.fields fd0 i h
    exact ⟨ho.subs _ hm, fun j hj => ho.vals _ hm _ (getD_mem15 _ _ j hj)⟩)
  unfold KV RV
  clear hQ hu hW0 hK hR b0 hsz0 ho
  generalize hL : r.fields = L at *
  clear hL
  generalize hn : L.length = n at *
  have HN := Lib.hid hn
  clear hn
  go_enter Tryz.func18, Tryz.ntmps18
  go_upto_region 1 with fail
  rw [HW0.out]
  clear HW0
  go_wp2
  go_loopw [5, 6, 7, 8, 9] (fun s5 s6 _ _ _ wr => ∃ i : Nat, s6 = .int .i64 (i : Int) ∧ i ≤ n ∧ RowKit.Hid (SR W0.heap.size s5 (keysP k L i 0) wr) ∧ RowKit.Hid (Below W0.heap.size W0 wr)) (fun _ s6 _ _ _ _ => n - (intOf s6).toNat)
  case atStart => exact ⟨0, rfl, Nat.zero_le _, HE0.out, HB0.out⟩
  case round =>
    obtain ⟨i, rfl, hi, HI, HB⟩ := hrel
    clear HE0 HB0
    have x4 := rcell5 (HR.out wr HB.out)
    have i1 : (0 : Int) ≤ (i : Int) := by omega
    by_cases hin : i < n
    · have i2 : (i : Int) < (n : Int) := by omega
      obtain ⟨g, o, cap', x, he, hg, c0, c1, c2, c3, hq⟩ := (HU.out wr HB.out).at i (by rw [HN.out]; exact hin)
      obtain ⟨rfl, -, rfl⟩ := Value.slice.inj he
      obtain ⟨au, cu, g2, o2, rfl, hcu, hmu, hga, hxu⟩ := hq.opened
      unfold maxLen at hmu
      obtain ⟨hs20, hval⟩ := HOk.out i hin
      have HNi := Lib.hid (HNx.out i hin)
      have HStep := Lib.hid (fun h j hj => keysP_step k L i j h hj)
      have HOth := Lib.hid (fun j j' h => keysP_other k L i j j' h)
      obtain ⟨f, hf⟩ : ∃ f, L.getD i fd0 = f := ⟨_, rfl⟩
      rw [hf] at c0 c1 c2 c3 hcu hga hxu hs20 hval HNi HStep HOth
      clear hf hq he
      obtain ⟨wb, hwb⟩ : ∃ wb, wr.alloc (.cells #[.string (S f.tag), .string (S f.ind), .slice au f.subs.length cu, .int .i64 f.auth] 57) = wb := ⟨_, rfl⟩
      obtain ⟨bx, hbx⟩ : ∃ bx, wr.heap.size = bx := ⟨_, rfl⟩
      have hF : wb.heap[bx]? = some (.cells #[.string (S f.tag), .string (S f.ind), .slice au f.subs.length cu, .int .i64 f.auth] 57 (0, 0)) := by rw [← hwb, ← hbx]; exact heap_alloc_new wr _
      have hbb : Below wr.heap.size wr wb := by rw [← hwb]; exact (Below.refl _ _).alloc (Nat.le_refl _) _
      have hblt : bx < wb.heap.size := by rw [← hwb, ← hbx]; simp
      have HBwb := Lib.hid (HB.out.trans (hbb.mono HB.out.size))
      have HF0 := Lib.hid (fun (W : World) (h : Below wb.heap.size wb W) => (h.block bx hblt).trans hF)
      have HBW0 := Lib.hid (fun (W : World) (h : Below wb.heap.size wb W) => HBwb.out.trans (h.mono HBwb.out.size))
      have HXU := Lib.hid (fun (W : World) (h : Below wb.heap.size wb W) j hj => hxu W (hbb.trans (h.mono hbb.size)) j hj)
      have HIb := Lib.hid (HI.out.after hbb)
      have HWb := Lib.hid hwb
      have HBx := Lib.hid hbx
      have HVal := Lib.hid hval
      generalize hm : f.subs.length = m at *
      clear hF hbb hblt hwb hxu hval HI HB hm hbx
      go_upto_region 6 with fail
      rw [HWb.out, HBx.out]
      clear HWb HBx c0 c1 c2 c3 x4
      go_wp2
      go_loopw [5, 8, 9] (fun s5 s8 _ wr => ∃ j : Nat, s8 = .int .i64 (j : Int) ∧ j ≤ m ∧ RowKit.Hid (SR W0.heap.size s5 (keysP k L i j) wr) ∧ RowKit.Hid (Below wb.heap.size wb wr)) (fun _ s8 _ _ => m - (intOf s8).toNat)
      case atStart => exact ⟨0, rfl, Nat.zero_le _, HIb.out, Below.refl _ _⟩
      case round =>
        obtain ⟨j, rfl, hj, HJ, HBj⟩ := hrel
        clear HIb
        have j1 : (0 : Int) ≤ (j : Int) := by omega
        obtain ⟨wq, hwq⟩ : ∃ wq, wr = wq := ⟨_, rfl⟩
        rw [hwq] at HJ HBj ⊢
        clear hwq
        obtain ⟨y0, y1, y2, y3⟩ := kcells4 (HF0.out wq HBj.out)
        by_cases hjm : j < m
        · have j2 : (j : Int) < (m : Int) := by omega
          obtain rfl := hga (by omega)
          obtain ⟨hv3, hvt⟩ := HVal.out j hjm
          have HFb := Lib.hid (fun (W : World) (h : Below wq.heap.size wq W) => HF0.out W (HBj.out.trans (h.mono HBj.out.size)))
          have HKb := Lib.hid (fun (W : World) (h : Below wq.heap.size wq W) => HK.out W (HBW0.out W (HBj.out.trans (h.mono HBj.out.size))))
          have HSc := Lib.hid (fun (W : World) (h : Below wq.heap.size wq W) => HXU.out W (HBj.out.trans (h.mono HBj.out.size)) j hjm)
          have HJa := Lib.hid (fun (W : World) (h : Below wq.heap.size wq W) => HJ.out.after h)
          have HBa := Lib.hid (fun (W : World) (h : Below wq.heap.size wq W) => HBj.out.trans (h.mono HBj.out.size))
          have hsz : W0.heap.size ≤ wq.heap.size := (HBW0.out wq HBj.out).size
          have HSzq := Lib.hid hsz
          have hte := eq_S15 f.tag k.tag
          obtain ⟨s, hs⟩ : ∃ s, f.subs.getD j sub0 = s := ⟨_, rfl⟩
          have HSt := Lib.hid (fun h => HStep.out h j hjm)
          rw [hs] at hv3 hvt HSc HSt
          have cN := Lib.hid (fun (W : World) => refNorm_any k.norm s.2 hvt (by omega) W)
          have HAsc := Lib.hid (keysP_asc k L i j)
          have HLn := Lib.hid (HLen.out i j)
          have HOt := Lib.hid (HOth.out j (j + 1))
          clear hs hv3 hvt hsz HJ HBj y0 y1 y3
          generalize hy : keysP k L i j = M at *
          generalize hy2 : keysP k L i (j + 1) = M2 at *
          have HY2 := Lib.hid hy2
          clear hy hy2
          by_cases htag : f.tag = k.tag
          · have HSu := Lib.hid (HSt.out htag)
            rw [decide_eq_true htag] at hte
            obtain ⟨bc, hbc⟩ : ∃ bc, decide (s.1 = k.code) = bc := ⟨_, rfl⟩
            have hbe : ((s.1.toNat : Int) == (k.code.toNat : Int)) = bc := by
              rw [← hbc]
              exact Bool.eq_iff_iff.2 (by simp only [beq_iff_eq, decide_eq_true_eq]; exact ⟨fun h => UInt8.toNat_inj.1 (by omega), fun h => by rw [h]⟩)
            obtain ⟨nw, hnw⟩ : ∃ nw, normV k.norm s.2 = nw := ⟨_, rfl⟩
            rw [hnw] at cN HSu
            have HSu2 : RowKit.Hid (M2 = if bc = true ∧ nw ≠ [] then putO ltT M nw else M) := by
              unfold RowKit.Hid
              rw [HSu.out, ← hbc]
              simp only [decide_eq_true_eq]
            clear htag HSt HOt hnw hbc HSu
            generalize s.1.toNat = c at *
            generalize k.code.toNat = kc at *
            generalize S s.2 = sv at *
            generalize S f.tag = ft at *
            generalize S k.tag = kt at *
            generalize k.norm = kn at *
            go_upto_region 9 with fail
            clear y2
            apply wp_region_inv (V := [.eq (.pointer (some ⟨bx, 0, none⟩)), .eq (.string ft), .eq (.pointer (some ⟨w.heap.size, 0, none⟩)), .eq (.string kt), .eq (.bool true), .eq (.bool true), .eq (.pointer (some ⟨bx, 2, none⟩)), .eq (.slice (some ⟨g2, o2, none⟩) m cu), .eq (.int .i64 (j : Int)), .eq (.pointer (some ⟨g2, o2 + j * 2, none⟩)), .eq (.pointer (some ⟨g2, o2 + j * 2, none⟩)), .eq (.int .u8 (c : Int)), .eq (.pointer (some ⟨w.heap.size, 1, none⟩)), .eq (.int .u8 (kc : Int)), .eq (.bool bc), .eq (.bool bc)])
            case hm => kernel_rfl
            case hd => kernel_rfl
            case hb => kernel_rfl
            case hA =>
              intro vs
              simp only [puts, Act.put, List.setIfInBounds_toArray, List.set_cons_zero, List.set_cons_succ]
              exact rfl
            case hob =>
              refine Obs.cons _ _ _ _ _ _ ?o0 (Obs.cons _ _ _ _ _ _ ?o1 (Obs.cons _ _ _ _ _ _ ?o2 (Obs.cons _ _ _ _ _ _ ?o3 (Obs.cons _ _ _ _ _ _ ?o4 (Obs.cons _ _ _ _ _ _ ?o5 (Obs.cons _ _ _ _ _ _ ?o6 (Obs.cons _ _ _ _ _ _ ?o7 (Obs.cons _ _ _ _ _ _ ?o8 (Obs.cons _ _ _ _ _ _ ?o9 (Obs.cons _ _ _ _ _ _ ?o10 (Obs.cons _ _ _ _ _ _ ?o11 (Obs.cons _ _ _ _ _ _ ?o12 (Obs.cons _ _ _ _ _ _ ?o13 (Obs.cons _ _ _ _ _ _ ?o14 (Obs.cons _ _ _ _ _ _ ?o15 (Obs.nil _ _ _ _ _ _))))))))))))))))
              case o0 =>
                intro vs W hw hd K hK
                go_simp
                exact hK.out _ _ rfl (Below.refl _ _)
              case o1 =>
                intro vs W hw hd K hK
                have h0 : vs 0 = .pointer (some ⟨bx, 0, none⟩) := hd 0 (by kernel_rfl)
                obtain ⟨y0, y1, y2, y3⟩ := kcells4 (HFb.out W hw)
                simp only [Nat.reduceAdd, h0] at hK ⊢
                go_simp
                exact hK.out _ _ rfl (Below.refl _ _)
              case o2 =>
                intro vs W hw hd K hK
                go_simp
                exact hK.out _ _ rfl (Below.refl _ _)
              case o3 =>
                intro vs W hw hd K hK
                have h2 : vs 2 = .pointer (some ⟨w.heap.size, 0, none⟩) := hd 2 (by kernel_rfl)
                obtain ⟨z0, z1, z2, z3⟩ := kcells4 (HKb.out W hw)
                simp only [Nat.reduceAdd, h2] at hK ⊢
                go_simp
                exact hK.out _ _ rfl (Below.refl _ _)
              case o4 =>
                intro vs W hw hd K hK
                have h1 : vs 1 = .string ft := hd 1 (by kernel_rfl)
                have h3 : vs 3 = .string kt := hd 3 (by kernel_rfl)
                simp only [Nat.reduceAdd, h1, h3] at hK ⊢
                go_simp
                exact hK.out _ _ rfl (Below.refl _ _)
              case o5 =>
                intro vs W hw hd K hK
                have h4 : vs 4 = .bool true := hd 4 (by kernel_rfl)
                simp only [Nat.reduceAdd, h4] at hK ⊢
                go_simp
                exact hK.out _ _ rfl (Below.refl _ _)
              case o6 =>
                intro vs W hw hd K hK
                have h5 : vs 5 = .bool true := hd 5 (by kernel_rfl)
                simp only [Nat.reduceAdd, h5] at hK ⊢
                go_simp
                exact hK.out _ _ rfl (Below.refl _ _)
              case o7 =>
                intro vs W hw hd K hK
                have h5 : vs 5 = .bool true := hd 5 (by kernel_rfl)
                have h6 : vs 6 = .pointer (some ⟨bx, 2, none⟩) := hd 6 (by kernel_rfl)
                obtain ⟨y0, y1, y2, y3⟩ := kcells4 (HFb.out W hw)
                simp only [Nat.reduceAdd, h5, h6] at hK ⊢
                go_simp
                exact hK.out _ _ rfl (Below.refl _ _)
              case o8 =>
                intro vs W hw hd K hK
                have h5 : vs 5 = .bool true := hd 5 (by kernel_rfl)
                simp only [Nat.reduceAdd, h5] at hK ⊢
                go_simp
                exact hK.out _ _ rfl (Below.refl _ _)
              case o9 =>
                intro vs W hw hd K hK
                have h5 : vs 5 = .bool true := hd 5 (by kernel_rfl)
                have h7 : vs 7 = .slice (some ⟨g2, o2, none⟩) m cu := hd 7 (by kernel_rfl)
                have h8 : vs 8 = .int .i64 (j : Int) := hd 8 (by kernel_rfl)
                simp only [Nat.reduceAdd, h5, h7, h8] at hK ⊢
                go_simp
                exact hK.out _ _ rfl (Below.refl _ _)
              case o10 =>
                intro vs W hw hd K hK
                have h5 : vs 5 = .bool true := hd 5 (by kernel_rfl)
                have h9 : vs 9 = .pointer (some ⟨g2, o2 + j * 2, none⟩) := hd 9 (by kernel_rfl)
                simp only [Nat.reduceAdd, h5, h9] at hK ⊢
                go_simp
                exact hK.out _ _ rfl (Below.refl _ _)
              case o11 =>
                intro vs W hw hd K hK
                have h5 : vs 5 = .bool true := hd 5 (by kernel_rfl)
                have h10 : vs 10 = .pointer (some ⟨g2, o2 + j * 2, none⟩) := hd 10 (by kernel_rfl)
                obtain ⟨e1, e2⟩ := HSc.out W hw
                simp only [Nat.reduceAdd, h5, h10] at hK ⊢
                go_simp
                exact hK.out _ _ rfl (Below.refl _ _)
              case o12 =>
                intro vs W hw hd K hK
                have h5 : vs 5 = .bool true := hd 5 (by kernel_rfl)
                simp only [Nat.reduceAdd, h5] at hK ⊢
                go_simp
                exact hK.out _ _ rfl (Below.refl _ _)
              case o13 =>
                intro vs W hw hd K hK
                have h5 : vs 5 = .bool true := hd 5 (by kernel_rfl)
                have h12 : vs 12 = .pointer (some ⟨w.heap.size, 1, none⟩) := hd 12 (by kernel_rfl)
                obtain ⟨z0, z1, z2, z3⟩ := kcells4 (HKb.out W hw)
                simp only [Nat.reduceAdd, h5, h12] at hK ⊢
                go_simp
                exact hK.out _ _ rfl (Below.refl _ _)
              case o14 =>
                intro vs W hw hd K hK
                have h5 : vs 5 = .bool true := hd 5 (by kernel_rfl)
                have h11 : vs 11 = .int .u8 (c : Int) := hd 11 (by kernel_rfl)
                have h13 : vs 13 = .int .u8 (kc : Int) := hd 13 (by kernel_rfl)
                simp only [Nat.reduceAdd, h5, h11, h13] at hK ⊢
                go_simp
                exact hK.out _ _ rfl (Below.refl _ _)
              case o15 =>
                intro vs W hw hd K hK
                have h5 : vs 5 = .bool true := hd 5 (by kernel_rfl)
                have h14 : vs 14 = .bool bc := hd 14 (by kernel_rfl)
                simp only [Nat.reduceAdd, h5, h14] at hK ⊢
                go_simp
                exact hK.out _ _ rfl (Below.refl _ _)
            case hfin =>
              intro vs W hw hd
              have h15 : vs 15 = .bool bc := hd 15 (by decide)
              simp only [Nat.reduceAdd, h15]
              clear hd h15
              cases bc
              · have HJ2 := Lib.hid (HJa.out W hw)
                have HB2 := Lib.hid (HBa.out W hw)
                have hm2 := HSu2.out
                rw [if_neg (fun g => by cases g.1)] at hm2
                rw [← hm2] at HJ2
                clear hw hm2
                go_wp2
                go_roundw
                case rel => exact ⟨j + 1, by go_num, by omega, by rw [HY2.out]; exact HJ2.out, HB2.out⟩
                case measure => simp [intOf]; omega
              · have HFb2 := Lib.hid (fun (W' : World) (h : Below W.heap.size W W') => HFb.out W' (hw.trans (h.mono hw.size)))
                have HKb2 := Lib.hid (fun (W' : World) (h : Below W.heap.size W W') => HKb.out W' (hw.trans (h.mono hw.size)))
                have HSc2 := Lib.hid (fun (W' : World) (h : Below W.heap.size W W') => HSc.out W' (hw.trans (h.mono hw.size)))
                have HJ3 := Lib.hid (fun (W' : World) (h : Below W.heap.size W W') => HJa.out W' (hw.trans (h.mono hw.size)))
                have HB3 := Lib.hid (fun (W' : World) (h : Below W.heap.size W W') => HBa.out W' (hw.trans (h.mono hw.size)))
                have HSz3 := Lib.hid (Nat.le_trans HSzq.out hw.size)
                clear hw HFb HKb HSc HJa HBa
                go_upto_region 10 with fail
                apply wp_region_inv (V := [.eq (.pointer (some ⟨w.heap.size, 2, none⟩)), .eq (.int .i64 kn), .eq (.pointer (some ⟨bx, 2, none⟩)), .eq (.slice (some ⟨g2, o2, none⟩) m cu), .eq (.int .i64 (j : Int)), .eq (.pointer (some ⟨g2, o2 + j * 2, none⟩)), .eq (.pointer (some ⟨g2, o2 + j * 2 + 1, none⟩)), .eq (.string sv), .eq (.string (S nw)), .eq (.string (S nw))])
                case hm => kernel_rfl
                case hd => kernel_rfl
                case hb => kernel_rfl
                case hA =>
                  intro vs
                  simp only [puts, Act.put, List.setIfInBounds_toArray, List.set_cons_zero, List.set_cons_succ]
                  exact rfl
                case hob =>
                  refine Obs.cons _ _ _ _ _ _ ?o0 (Obs.cons _ _ _ _ _ _ ?o1 (Obs.cons _ _ _ _ _ _ ?o2 (Obs.cons _ _ _ _ _ _ ?o3 (Obs.cons _ _ _ _ _ _ ?o4 (Obs.cons _ _ _ _ _ _ ?o5 (Obs.cons _ _ _ _ _ _ ?o6 (Obs.cons _ _ _ _ _ _ ?o7 (Obs.cons _ _ _ _ _ _ ?o8 (Obs.cons _ _ _ _ _ _ ?o9 (Obs.nil _ _ _ _ _ _))))))))))
                  case o0 =>
                    intro vs W hw hd K hK
                    go_simp
                    exact hK.out _ _ rfl (Below.refl _ _)
                  case o1 =>
                    intro vs W hw hd K hK
                    have h0 : vs 0 = .pointer (some ⟨w.heap.size, 2, none⟩) := hd 0 (by kernel_rfl)
                    obtain ⟨z0, z1, z2, z3⟩ := kcells4 (HKb2.out W hw)
                    simp only [Nat.reduceAdd, h0] at hK ⊢
                    go_simp
                    exact hK.out _ _ rfl (Below.refl _ _)
                  case o2 =>
                    intro vs W hw hd K hK
                    go_simp
                    exact hK.out _ _ rfl (Below.refl _ _)
                  case o3 =>
                    intro vs W hw hd K hK
                    have h2 : vs 2 = .pointer (some ⟨bx, 2, none⟩) := hd 2 (by kernel_rfl)
                    obtain ⟨y0, y1, y2, y3⟩ := kcells4 (HFb2.out W hw)
                    simp only [Nat.reduceAdd, h2] at hK ⊢
                    go_simp
                    exact hK.out _ _ rfl (Below.refl _ _)
                  case o4 =>
                    intro vs W hw hd K hK
                    go_simp
                    exact hK.out _ _ rfl (Below.refl _ _)
                  case o5 =>
                    intro vs W hw hd K hK
                    have h3 : vs 3 = .slice (some ⟨g2, o2, none⟩) m cu := hd 3 (by kernel_rfl)
                    have h4 : vs 4 = .int .i64 (j : Int) := hd 4 (by kernel_rfl)
                    simp only [Nat.reduceAdd, h3, h4] at hK ⊢
                    go_simp
                    exact hK.out _ _ rfl (Below.refl _ _)
                  case o6 =>
                    intro vs W hw hd K hK
                    have h5 : vs 5 = .pointer (some ⟨g2, o2 + j * 2, none⟩) := hd 5 (by kernel_rfl)
                    simp only [Nat.reduceAdd, h5] at hK ⊢
                    go_simp
                    exact hK.out _ _ rfl (Below.refl _ _)
                  case o7 =>
                    intro vs W hw hd K hK
                    have h6 : vs 6 = .pointer (some ⟨g2, o2 + j * 2 + 1, none⟩) := hd 6 (by kernel_rfl)
                    obtain ⟨e1, e2⟩ := HSc2.out W hw
                    simp only [Nat.reduceAdd, h6] at hK ⊢
                    go_simp
                    exact hK.out _ _ rfl (Below.refl _ _)
                  case o8 =>
                    intro vs W hw hd K hK
                    have h1 : vs 1 = .int .i64 kn := hd 1 (by kernel_rfl)
                    have h7 : vs 7 = .string sv := hd 7 (by kernel_rfl)
                    simp only [Nat.reduceAdd, h1, h7] at hK ⊢
                    go_simp
                    refine (cN.out W).mono ?_
                    rintro e W' ⟨rfl, hb'⟩
                    exact hK.out _ _ rfl hb'
                  case o9 =>
                    intro vs W hw hd K hK
                    have h8 : vs 8 = .string (S nw) := hd 8 (by kernel_rfl)
                    simp only [Nat.reduceAdd, h8] at hK ⊢
                    go_simp
                    exact hK.out _ _ rfl (Below.refl _ _)
                case hfin =>
                  intro vs W5 hw5 hd
                  have h9 : vs 9 = .string (S nw) := hd 9 (by decide)
                  simp only [Nat.reduceAdd, h9]
                  clear hd h9
                  have HJ5 := Lib.hid (HJ3.out W5 hw5)
                  have HB5 := Lib.hid (HB3.out W5 hw5)
                  have HSz5 := Lib.hid (Nat.le_trans HSz3.out hw5.size)
                  clear hw5 HFb2 HKb2 HSc2 HJ3 HB3 cN
                  have hm2 := HSu2.out
                  by_cases hne : nw = []
                  · rw [if_neg (fun g => g.2 hne)] at hm2
                    rw [← hm2] at HJ5
                    have ee : (S nw).toList.isEmpty = true ∧ (S nw).toList = [] := by rw [hne, ByteArray.toList_eq]; exact ⟨rfl, rfl⟩
                    obtain ⟨e1, e2⟩ := ee
                    clear hm2 hne HSu2
                    generalize S nw = sn at *
                    go_wp2
                    go_roundw
                    case rel => exact ⟨j + 1, by go_num, by omega, by rw [HY2.out]; exact HJ5.out, HB5.out⟩
                    case measure => simp [intOf]; omega
                  · rw [if_pos ⟨rfl, hne⟩] at hm2
                    have cP := Lib.hid (refPut15_any W0.heap.size u5 M nw W5 HSz5.out HJ5.out (by have := HLn.out; omega) HAsc.out)
                    rw [← hm2] at cP
                    obtain ⟨z1, z2⟩ := S_facts nw hne
                    clear hm2 hne HSu2
                    generalize S nw = sn at *
                    go_wp2_with fail
                    refine cP.out.mono ?_
                    rintro e w7 ⟨v7, rfl, hs7, hb7⟩
                    have HS7 := Lib.hid hs7
                    have HB7 := Lib.hid (HB5.out.trans (hb7.mono HB5.out.size))
                    clear cP hs7 hb7 HJ5 HB5
                    go_wp2
                    go_roundw
                    case rel => exact ⟨j + 1, by go_num, by omega, by rw [HY2.out]; exact HS7.out, HB7.out⟩
                    case measure => simp [intOf]; omega
          · have HOe := Lib.hid (HOt.out htag)
            rw [decide_eq_false htag] at hte
            clear htag HSt HOt cN
            generalize s.1.toNat = c at *
            generalize k.code.toNat = kc at *
            generalize S s.2 = sv at *
            generalize S f.tag = ft at *
            generalize S k.tag = kt at *
            generalize k.norm = kn at *
            go_upto_region 9 with fail
            clear y2
            apply wp_region_inv (V := [.eq (.pointer (some ⟨bx, 0, none⟩)), .eq (.string ft), .eq (.pointer (some ⟨w.heap.size, 0, none⟩)), .eq (.string kt), .eq (.bool false), .eq (.bool false), .eq (undef), .eq (undef), .eq (undef), .eq (undef), .eq (undef), .eq (undef), .eq (undef), .eq (undef), .eq (undef), .eq (.bool false)])
            case hm => kernel_rfl
            case hd => kernel_rfl
            case hb => kernel_rfl
            case hA =>
              intro vs
              simp only [puts, Act.put, List.setIfInBounds_toArray, List.set_cons_zero, List.set_cons_succ]
              exact rfl
            case hob =>
              refine Obs.cons _ _ _ _ _ _ ?o0 (Obs.cons _ _ _ _ _ _ ?o1 (Obs.cons _ _ _ _ _ _ ?o2 (Obs.cons _ _ _ _ _ _ ?o3 (Obs.cons _ _ _ _ _ _ ?o4 (Obs.cons _ _ _ _ _ _ ?o5 (Obs.cons _ _ _ _ _ _ ?o6 (Obs.cons _ _ _ _ _ _ ?o7 (Obs.cons _ _ _ _ _ _ ?o8 (Obs.cons _ _ _ _ _ _ ?o9 (Obs.cons _ _ _ _ _ _ ?o10 (Obs.cons _ _ _ _ _ _ ?o11 (Obs.cons _ _ _ _ _ _ ?o12 (Obs.cons _ _ _ _ _ _ ?o13 (Obs.cons _ _ _ _ _ _ ?o14 (Obs.cons _ _ _ _ _ _ ?o15 (Obs.nil _ _ _ _ _ _))))))))))))))))
              case o0 =>
                intro vs W hw hd K hK
                go_simp
                exact hK.out _ _ rfl (Below.refl _ _)
              case o1 =>
                intro vs W hw hd K hK
                have h0 : vs 0 = .pointer (some ⟨bx, 0, none⟩) := hd 0 (by kernel_rfl)
                obtain ⟨y0, y1, y2, y3⟩ := kcells4 (HFb.out W hw)
                simp only [Nat.reduceAdd, h0] at hK ⊢
                go_simp
                exact hK.out _ _ rfl (Below.refl _ _)
              case o2 =>
                intro vs W hw hd K hK
                go_simp
                exact hK.out _ _ rfl (Below.refl _ _)
              case o3 =>
                intro vs W hw hd K hK
                have h2 : vs 2 = .pointer (some ⟨w.heap.size, 0, none⟩) := hd 2 (by kernel_rfl)
                obtain ⟨z0, z1, z2, z3⟩ := kcells4 (HKb.out W hw)
                simp only [Nat.reduceAdd, h2] at hK ⊢
                go_simp
                exact hK.out _ _ rfl (Below.refl _ _)
              case o4 =>
                intro vs W hw hd K hK
                have h1 : vs 1 = .string ft := hd 1 (by kernel_rfl)
                have h3 : vs 3 = .string kt := hd 3 (by kernel_rfl)
                simp only [Nat.reduceAdd, h1, h3] at hK ⊢
                go_simp
                exact hK.out _ _ rfl (Below.refl _ _)
              case o5 =>
                intro vs W hw hd K hK
                have h4 : vs 4 = .bool false := hd 4 (by kernel_rfl)
                simp only [Nat.reduceAdd, h4] at hK ⊢
                go_simp
                exact hK.out _ _ rfl (Below.refl _ _)
              case o6 =>
                intro vs W hw hd K hK
                have h5 : vs 5 = .bool false := hd 5 (by kernel_rfl)
                simp only [Nat.reduceAdd, h5] at hK ⊢
                go_simp
                exact hK.out _ _ rfl (Below.refl _ _)
              case o7 =>
                intro vs W hw hd K hK
                have h5 : vs 5 = .bool false := hd 5 (by kernel_rfl)
                simp only [Nat.reduceAdd, h5] at hK ⊢
                go_simp
                exact hK.out _ _ rfl (Below.refl _ _)
              case o8 =>
                intro vs W hw hd K hK
                have h5 : vs 5 = .bool false := hd 5 (by kernel_rfl)
                simp only [Nat.reduceAdd, h5] at hK ⊢
                go_simp
                exact hK.out _ _ rfl (Below.refl _ _)
              case o9 =>
                intro vs W hw hd K hK
                have h5 : vs 5 = .bool false := hd 5 (by kernel_rfl)
                simp only [Nat.reduceAdd, h5] at hK ⊢
                go_simp
                exact hK.out _ _ rfl (Below.refl _ _)
              case o10 =>
                intro vs W hw hd K hK
                have h5 : vs 5 = .bool false := hd 5 (by kernel_rfl)
                simp only [Nat.reduceAdd, h5] at hK ⊢
                go_simp
                exact hK.out _ _ rfl (Below.refl _ _)
              case o11 =>
                intro vs W hw hd K hK
                have h5 : vs 5 = .bool false := hd 5 (by kernel_rfl)
                simp only [Nat.reduceAdd, h5] at hK ⊢
                go_simp
                exact hK.out _ _ rfl (Below.refl _ _)
              case o12 =>
                intro vs W hw hd K hK
                have h5 : vs 5 = .bool false := hd 5 (by kernel_rfl)
                simp only [Nat.reduceAdd, h5] at hK ⊢
                go_simp
                exact hK.out _ _ rfl (Below.refl _ _)
              case o13 =>
                intro vs W hw hd K hK
                have h5 : vs 5 = .bool false := hd 5 (by kernel_rfl)
                simp only [Nat.reduceAdd, h5] at hK ⊢
                go_simp
                exact hK.out _ _ rfl (Below.refl _ _)
              case o14 =>
                intro vs W hw hd K hK
                have h5 : vs 5 = .bool false := hd 5 (by kernel_rfl)
                simp only [Nat.reduceAdd, h5] at hK ⊢
                go_simp
                exact hK.out _ _ rfl (Below.refl _ _)
              case o15 =>
                intro vs W hw hd K hK
                have h5 : vs 5 = .bool false := hd 5 (by kernel_rfl)
                simp only [Nat.reduceAdd, h5] at hK ⊢
                go_simp
                exact hK.out _ _ rfl (Below.refl _ _)
            case hfin =>
              intro vs W hw hd
              have h15 : vs 15 = .bool false := hd 15 (by decide)
              simp only [Nat.reduceAdd, h15]
              have HJ2 := Lib.hid (HJa.out W hw)
              have HB2 := Lib.hid (HBa.out W hw)
              rw [HOe.out] at HJ2
              clear hd h15 hw
              go_wp2
              go_roundw
              case rel => exact ⟨j + 1, by go_num, by omega, by rw [HY2.out]; exact HJ2.out, HB2.out⟩
              case measure => simp [intOf]; omega
        · obtain rfl : j = m := by omega
          have HJ2 := Lib.hid HJ.out
          rw [HNi.out] at HJ2
          have HB2 := Lib.hid (HBW0.out wq HBj.out)
          clear HJ HBj
          go_wp2
          go_roundw
          case rel => exact ⟨i + 1, by go_num, by omega, HJ2.out, HB2.out⟩
          case measure => simp [intOf]; omega
    · obtain rfl : i = n := by omega
      have HG := Lib.hid (HEnd.out _ wr HI.out HB.out)
      obtain ⟨g9, cap9, rfl, -⟩ := HI.out.open
      clear HI HB HEnd
      generalize (keysP k L i 0).length = q at *
      go_wp2
      first | exact HG.out | (go_ret; exact HG.out)
end

section
open Go.RowKit Go.PlainAid
/-- A slice of keys. -/
def KL (v : Value) (K : List MKey) (w : World) : Prop :=
  ∃ a cap, v = .slice a K.length cap ∧ K.length ≤ cap ∧ cap ≤ maxLen ∧ (a = none → cap = 0) ∧ ∀ i, i < K.length → ∃ g o, a = some ⟨g, o, none⟩ ∧ g < w.heap.size ∧
    w.cell? ⟨g, o + i * 4, none⟩ = some (.string (S (K.getD i key0).tag)) ∧ w.cell? ⟨g, o + i * 4 + 1, none⟩ = some (.int .u8 ((K.getD i key0).code.toNat : Int)) ∧
    w.cell? ⟨g, o + i * 4 + 2, none⟩ = some (.int .i64 (K.getD i key0).norm) ∧ w.cell? ⟨g, o + i * 4 + 3, none⟩ = some (.int .i64 (K.getD i key0).weight)
theorem KL.after {v : Value} {K : List MKey} {w w' : World} (h : KL v K w) (hb : Below w.heap.size w w') : KL v K w' := by
  obtain ⟨a, cap, rfl, hc, hm, hn, hx⟩ := h
  refine ⟨a, cap, rfl, hc, hm, hn, fun i hi => ?_⟩
  obtain ⟨g, o, rfl, hg, h0, h1, h2, h3⟩ := hx i hi
  exact ⟨g, o, rfl, Nat.lt_of_lt_of_le hg hb.size, (hb.cell (p := ⟨g, o + i * 4, none⟩) hg).trans h0, (hb.cell (p := ⟨g, o + i * 4 + 1, none⟩) hg).trans h1, (hb.cell (p := ⟨g, o + i * 4 + 2, none⟩) hg).trans h2, (hb.cell (p := ⟨g, o + i * 4 + 3, none⟩) hg).trans h3⟩
theorem KL.opened {v : Value} {A : List MKey} {w : World} (h : KL v A w) : ∃ a cap g o, v = .slice a A.length cap ∧ A.length ≤ cap ∧ cap ≤ maxLen ∧ (0 < A.length → a = some ⟨g, o, none⟩) ∧ ∀ W, Below w.heap.size w W → ∀ i, i < A.length →
    W.cell? ⟨g, o + i * 4, none⟩ = some (.string (S (A.getD i key0).tag)) ∧ W.cell? ⟨g, o + i * 4 + 1, none⟩ = some (.int .u8 ((A.getD i key0).code.toNat : Int)) ∧
    W.cell? ⟨g, o + i * 4 + 2, none⟩ = some (.int .i64 (A.getD i key0).norm) ∧ W.cell? ⟨g, o + i * 4 + 3, none⟩ = some (.int .i64 (A.getD i key0).weight) := by
  obtain ⟨a, cap, rfl, hc, hm, hn, hx⟩ := h
  by_cases h0 : 0 < A.length
  · obtain ⟨g, o, rfl, -, -⟩ := hx 0 h0
    refine ⟨_, cap, g, o, rfl, hc, hm, fun _ => rfl, fun W hb i hi => ?_⟩
    obtain ⟨g', o', e, hg', h0, h1, h2, h3⟩ := hx i hi
    obtain ⟨rfl, rfl, -⟩ := Addr.mk.inj (Option.some.inj e)
    exact ⟨(hb.cell (p := ⟨_, _, none⟩) hg').trans h0, (hb.cell (p := ⟨_, _, none⟩) hg').trans h1, (hb.cell (p := ⟨_, _, none⟩) hg').trans h2, (hb.cell (p := ⟨_, _, none⟩) hg').trans h3⟩
  · exact ⟨a, cap, 0, 0, rfl, hc, hm, fun h => absurd h h0, fun W hb i hi => by omega⟩
/-- A rule. -/
def MV (m : MRule) (v : Value) : Value := .agg #[v, .int .i64 m.need]
theorem mcells2 {W : World} {b : Nat} {t : TypeId} {x0 x1 : Value} (h : W.heap[b]? = some (.cells #[x0, x1] t (0, 0))) : W.cell? ⟨b, 0, none⟩ = some x0 ∧ W.cell? ⟨b, 1, none⟩ = some x1 := by
  refine ⟨?_, ?_⟩ <;> rw [Lib.cell_of_heap h] <;> rfl
theorem rcells5 {W : World} {b : Nat} {t : TypeId} {x0 x1 x2 x3 x4 : Value} (h : W.heap[b]? = some (.cells #[x0, x1, x2, x3, x4] t (0, 0))) :
    W.cell? ⟨b, 0, none⟩ = some x0 ∧ W.cell? ⟨b, 1, none⟩ = some x1 ∧ W.cell? ⟨b, 2, none⟩ = some x2 ∧ W.cell? ⟨b, 3, none⟩ = some x3 ∧ W.cell? ⟨b, 4, none⟩ = some x4 := by
  refine ⟨?_, ?_, ?_, ?_, ?_⟩ <;> rw [Lib.cell_of_heap h] <;> rfl
def SP.bl15 (L : List (List UInt8)) : SP := ⟨fun v w => BL v L w, fun _ _ _ h hb => h.after hb⟩
/-- What is asked of a rule: few keys of small weight. -/
structure okM (m : MRule) : Prop where
  len : m.keys.length ≤ 8
  wts : ∀ k ∈ m.keys, 0 ≤ k.weight ∧ k.weight ≤ 100
theorem okM_of (m : MRule) (h : rightM m = 0) : okM m := by
  obtain ⟨-, hl, hk, -⟩ := right_key m h
  exact ⟨hl, fun k hkm => by have := hk k hkm; omega⟩
def sumP (m : MRule) (a b : Rec) (i : Nat) : Int := ((m.keys.take i).map (partM a b)).sum
theorem sumP_step (m : MRule) (a b : Rec) (i : Nat) (h : i < m.keys.length) : sumP m a b (i + 1) = sumP m a b i + partM a b (m.keys.getD i key0) := by
  unfold sumP
  rw [List.take_succ_eq_append_getElem h, List.map_append, List.sum_append, List.getD_eq_getElem?_getD, List.getElem?_eq_getElem h]
  simp
theorem sumP_bound (m : MRule) (a b : Rec) (h : okM m) (i : Nat) : 0 ≤ sumP m a b i ∧ sumP m a b i ≤ 800 := by
  have := sum_bound (partM a b) (m.keys.take i) fun k hk => by
    have := h.wts k (List.mem_of_mem_take hk)
    unfold partM
    split <;> omega
  have h2 := h.len
  rw [List.length_take] at this
  unfold sumP
  omega

set_option maxHeartbeats 32000000 in
set_option maxRecDepth 100000 in
theorem refScore_any (m : MRule) (mv : Value) (a b : Rec) (ua ub : Value) (w : World) (hm : KL mv m.keys w) (ho : okM m) (ha : FL ua a.fields w) (hb : FL ub b.fields w) (hoa : okR a) (hob : okR b) :
    Calls Tryz.prog 20 #[MV m mv, RV a ua, RV b ub] w fun e w' => e = .returned (.int .i64 (scoreM m a b)) ∧ Below w.heap.size w w' := by
  obtain ⟨g, o, n, hg, hgo⟩ : ∃ g o n, m.keys.length = n ∧ (∃ x cap, mv = .slice x n cap ∧ n ≤ cap ∧ cap ≤ maxLen ∧ (0 < n → x = some ⟨g, o, none⟩) ∧ ∀ W, Below w.heap.size w W → ∀ i, i < n →
    W.cell? ⟨g, o + i * 4, none⟩ = some (.string (S (m.keys.getD i key0).tag)) ∧ W.cell? ⟨g, o + i * 4 + 1, none⟩ = some (.int .u8 ((m.keys.getD i key0).code.toNat : Int)) ∧
    W.cell? ⟨g, o + i * 4 + 2, none⟩ = some (.int .i64 (m.keys.getD i key0).norm) ∧ W.cell? ⟨g, o + i * 4 + 3, none⟩ = some (.int .i64 (m.keys.getD i key0).weight)) := by
    obtain ⟨x, cap, g, o, h1, h2, h3, h4, h5⟩ := hm.opened
    exact ⟨g, o, _, rfl, x, cap, h1, h2, h3, h4, h5⟩
  obtain ⟨x, cap, rfl, hc, hmx, hga, hxa⟩ := hgo
  unfold maxLen at hmx
  obtain ⟨a4, a6, rfl, hca, hma⟩ := ha.length
  obtain ⟨b4, b6, rfl, hcb, hmb⟩ := hb.length
  unfold maxLen at hma hmb
  obtain ⟨W0, hW0⟩ : ∃ W0, ((w.alloc (.cells #[.slice x n cap, .int .i64 m.need] 24)).alloc (.cells #[.int .i64 a.id, .int .i64 a.ver, .int .i64 a.kind, .string (S a.lang), .slice a4 a.fields.length a6] 33)).alloc (.cells #[.int .i64 b.id, .int .i64 b.ver, .int .i64 b.kind, .string (S b.lang), .slice b4 b.fields.length b6] 33) = W0 := ⟨_, rfl⟩
  have b0 : Below w.heap.size w W0 := by rw [← hW0]; exact (((Below.refl w.heap.size w).alloc (Nat.le_refl _) _).alloc (by simp) _).alloc (by simp; omega) _
  have hsz0 : W0.heap.size = w.heap.size + 3 := by rw [← hW0]; simp
  have hM : W0.heap[w.heap.size]? = some (.cells #[.slice x n cap, .int .i64 m.need] 24 (0, 0)) := by
    rw [← hW0]
    exact ((Below.heap_alloc _ _ _ (by simp; omega)).trans (Below.heap_alloc _ _ _ (by simp))).trans (heap_alloc_new w _)
  have hA : W0.heap[w.heap.size + 1]? = some (.cells #[.int .i64 a.id, .int .i64 a.ver, .int .i64 a.kind, .string (S a.lang), .slice a4 a.fields.length a6] 33 (0, 0)) := by
    rw [← hW0]
    refine (Below.heap_alloc _ _ _ (by simp)).trans ?_
    have := heap_alloc_new (w.alloc (.cells #[.slice x n cap, .int .i64 m.need] 24)) (.cells #[.int .i64 a.id, .int .i64 a.ver, .int .i64 a.kind, .string (S a.lang), .slice a4 a.fields.length a6] 33)
    simpa using this
  have hB : W0.heap[w.heap.size + 2]? = some (.cells #[.int .i64 b.id, .int .i64 b.ver, .int .i64 b.kind, .string (S b.lang), .slice b4 b.fields.length b6] 33 (0, 0)) := by
    rw [← hW0]
    have := heap_alloc_new ((w.alloc (.cells #[.slice x n cap, .int .i64 m.need] 24)).alloc (.cells #[.int .i64 a.id, .int .i64 a.ver, .int .i64 a.kind, .string (S a.lang), .slice a4 a.fields.length a6] 33)) (.cells #[.int .i64 b.id, .int .i64 b.ver, .int .i64 b.kind, .string (S b.lang), .slice b4 b.fields.length b6] 33)
    simpa using this
  have HM := Lib.hid (fun (W : World) (h : Below W0.heap.size W0 W) => (h.block w.heap.size (by omega)).trans hM)
  have HA := Lib.hid (fun (W : World) (h : Below W0.heap.size W0 W) => (h.block (w.heap.size + 1) (by omega)).trans hA)
  have HB := Lib.hid (fun (W : World) (h : Below W0.heap.size W0 W) => (h.block (w.heap.size + 2) (by omega)).trans hB)
  have HBw := Lib.hid (fun (W : World) (h : Below W0.heap.size W0 W) => b0.trans (h.mono b0.size))
  have HX := Lib.hid hxa
  have HKa := Lib.hid (fun (k : MKey) (W : World) (h : Below w.heap.size w W) => (refKeys_any k a _ W (ha.after h) hoa).mono (fun e W' (hh : ∃ v, e = .returned v ∧ SR W.heap.size v (keysM k a) W' ∧ Below W.heap.size W W') => show ∃ v, e = .returned v ∧ BL v (keysM k a) W' ∧ Below W.heap.size W W' from by
    obtain ⟨v, h1, h2, h3⟩ := hh
    exact ⟨v, h1, h2.bl, h3⟩))
  have HKb := Lib.hid (fun (k : MKey) (W : World) (h : Below w.heap.size w W) => (refKeys_any k b _ W (hb.after h) hob).mono (fun e W' (hh : ∃ v, e = .returned v ∧ SR W.heap.size v (keysM k b) W' ∧ Below W.heap.size W W') => show ∃ v, e = .returned v ∧ BL v (keysM k b) W' ∧ Below W.heap.size W W' from by
    obtain ⟨v, h1, h2, h3⟩ := hh
    exact ⟨v, h1, h2.bl, h3⟩))
  have HSt := Lib.hid (fun i (h : i < n) => sumP_step m a b i (by rw [hg]; exact h))
  have HSb := Lib.hid (fun i => sumP_bound m a b ho i)
  have HS0 : RowKit.Hid (sumP m a b 0 = 0) := by unfold RowKit.Hid sumP; simp
  have HSe : RowKit.Hid (sumP m a b n = scoreM m a b) := by
    unfold RowKit.Hid sumP scoreM
    rw [← hg, List.take_length]
  have hn8 : n ≤ 8 := by rw [← hg]; exact ho.len
  have HRB := Lib.hid (Below.refl W0.heap.size W0)
  unfold KV RV at HKa HKb
  unfold MV RV
  have HW0 := Lib.hid hW0
  clear hW0 hM hA hB hxa b0 hsz0 ho hm ha hb hoa hob hg
  generalize hss : scoreM m a b = sc at *
  generalize hK : m.keys = K at *
  clear hss hK
  generalize m.need = need at *
  generalize hal : a.fields.length = a5 at *
  generalize hbl : b.fields.length = b5 at *
  clear hal hbl
  generalize a.id = a0 at *
  generalize a.ver = a1 at *
  generalize a.kind = a2 at *
  generalize S a.lang = a3 at *
  generalize b.id = b0 at *
  generalize b.ver = b1 at *
  generalize b.kind = b2 at *
  generalize S b.lang = b3 at *
  go_enter Tryz.func20, Tryz.ntmps20
  go_upto_region 1 with fail
  rw [HW0.out]
  clear HW0
  go_wp2
  go_loopw [7, 8] (fun s7 s8 wr => ∃ i : Nat, s8 = .int .i64 (i : Int) ∧ i ≤ n ∧ s7 = .int .i64 (sumP m a b i) ∧ RowKit.Hid (Below W0.heap.size W0 wr)) (fun _ s8 _ => n - (intOf s8).toNat)
  case atStart => exact ⟨0, rfl, Nat.zero_le _, by rw [HS0.out], HRB.out⟩
  case round =>
    obtain ⟨i, rfl, hi, rfl, HBr⟩ := hrel
    clear HRB HS0
    have i1 : (0 : Int) ≤ (i : Int) := by omega
    obtain ⟨wq, hwq⟩ : ∃ wq, wr = wq := ⟨_, rfl⟩
    rw [hwq] at HBr ⊢
    clear hwq
    obtain ⟨m0, m1⟩ := mcells2 (HM.out wq HBr.out)
    by_cases hin : i < n
    · have i2 : (i : Int) < (n : Int) := by omega
      obtain rfl := hga (by omega)
      have HMb := Lib.hid (fun (W : World) (h : Below wq.heap.size wq W) => HM.out W (HBr.out.trans (h.mono HBr.out.size)))
      have Hab := Lib.hid (fun (W : World) (h : Below wq.heap.size wq W) => HA.out W (HBr.out.trans (h.mono HBr.out.size)))
      have Hbb := Lib.hid (fun (W : World) (h : Below wq.heap.size wq W) => HB.out W (HBr.out.trans (h.mono HBr.out.size)))
      have HBa := Lib.hid (fun (W : World) (h : Below wq.heap.size wq W) => HBr.out.trans (h.mono HBr.out.size))
      have HKc := Lib.hid (fun (W : World) (h : Below wq.heap.size wq W) => HX.out W (HBw.out W (HBa.out W h)) i hin)
      have hst := HSt.out i hin
      have hsb := HSb.out i
      have hsb2 := HSb.out (i + 1)
      obtain ⟨k, hk⟩ : ∃ k, K.getD i key0 = k := ⟨_, rfl⟩
      rw [hk] at HKc hst
      have cKa := Lib.hid (fun (W : World) (h : Below wq.heap.size wq W) => HKa.out k W (HBw.out W (HBa.out W h)))
      have cKb := Lib.hid (fun (W : World) (h : Below wq.heap.size wq W) => HKb.out k W (HBw.out W (HBa.out W h)))
      have hpt : partM a b k = if meetL (keysM k a) (keysM k b) = true then k.weight else 0 := rfl
      rw [hpt] at hst
      obtain ⟨mt, hmt⟩ : ∃ mt, meetL (keysM k a) (keysM k b) = mt := ⟨_, rfl⟩
      have cM := Lib.hid (fun (u v : Value) (W : World) (h1 : BL u (keysM k a) W) (h2 : BL v (keysM k b) W) => refMeet_any u v _ _ W h1 h2 mt hmt)
      rw [hmt] at hst
      clear hk hpt hmt HBr
      generalize keysM k a = KA at *
      generalize keysM k b = KB at *
      have HX1 : RowKit.Hid (sumP m a b (i + 1) = sumP m a b i + if mt = true then k.weight else 0) := hst
      clear hst
      generalize hz1 : sumP m a b (i + 1) = z1 at *
      have HZ1 := Lib.hid hz1
      clear hz1
      generalize sumP m a b i = z at *
      generalize S k.tag = kt at *
      generalize k.code.toNat = kc at *
      generalize k.norm = kn at *
      generalize k.weight = kw at *
      go_upto_region 5 with fail
      clear m0 m1
      apply wp_region_inv (V := [.eq (.pointer (some ⟨w.heap.size, 0, none⟩)), .eq (.slice (some ⟨g, o, none⟩) n cap), .eq (.int .i64 (i : Int)), .eq (.pointer (some ⟨g, o + i * 4, none⟩)), .eq (.agg #[.string kt, .int .u8 (kc : Int), .int .i64 kn, .int .i64 kw]), .eq (.agg #[.int .i64 a0, .int .i64 a1, .int .i64 a2, .string a3, .slice a4 a5 a6]), .bl15 KA, .eq (.pointer (some ⟨w.heap.size, 0, none⟩)), .eq (.slice (some ⟨g, o, none⟩) n cap), .eq (.int .i64 (i : Int)), .eq (.pointer (some ⟨g, o + i * 4, none⟩)), .eq (.agg #[.string kt, .int .u8 (kc : Int), .int .i64 kn, .int .i64 kw]), .eq (.agg #[.int .i64 b0, .int .i64 b1, .int .i64 b2, .string b3, .slice b4 b5 b6]), .bl15 KB, .eq (.bool mt)])
      case hm => kernel_rfl
      case hd => kernel_rfl
      case hb => kernel_rfl
      case hA =>
        intro vs
        simp only [puts, Act.put, List.setIfInBounds_toArray, List.set_cons_zero, List.set_cons_succ]
        exact rfl
      case hob =>
        refine Obs.cons _ _ _ _ _ _ ?o0 (Obs.cons _ _ _ _ _ _ ?o1 (Obs.cons _ _ _ _ _ _ ?o2 (Obs.cons _ _ _ _ _ _ ?o3 (Obs.cons _ _ _ _ _ _ ?o4 (Obs.cons _ _ _ _ _ _ ?o5 (Obs.cons _ _ _ _ _ _ ?o6 (Obs.cons _ _ _ _ _ _ ?o7 (Obs.cons _ _ _ _ _ _ ?o8 (Obs.cons _ _ _ _ _ _ ?o9 (Obs.cons _ _ _ _ _ _ ?o10 (Obs.cons _ _ _ _ _ _ ?o11 (Obs.cons _ _ _ _ _ _ ?o12 (Obs.cons _ _ _ _ _ _ ?o13 (Obs.cons _ _ _ _ _ _ ?o14 (Obs.nil _ _ _ _ _ _)))))))))))))))
        case o0 =>
          intro vs W hw hd K hK
          go_simp
          exact hK.out _ _ rfl (Below.refl _ _)
        case o1 =>
          intro vs W hw hd K hK
          have h0 : vs 0 = .pointer (some ⟨w.heap.size, 0, none⟩) := hd 0 (by kernel_rfl)
          obtain ⟨m0, m1⟩ := mcells2 (HMb.out W hw)
          simp only [Nat.reduceAdd, h0] at hK ⊢
          go_simp
          exact hK.out _ _ rfl (Below.refl _ _)
        case o2 =>
          intro vs W hw hd K hK
          go_simp
          exact hK.out _ _ rfl (Below.refl _ _)
        case o3 =>
          intro vs W hw hd K hK
          have h1 : vs 1 = .slice (some ⟨g, o, none⟩) n cap := hd 1 (by kernel_rfl)
          have h2 : vs 2 = .int .i64 (i : Int) := hd 2 (by kernel_rfl)
          simp only [Nat.reduceAdd, h1, h2] at hK ⊢
          go_simp
          exact hK.out _ _ rfl (Below.refl _ _)
        case o4 =>
          intro vs W hw hd K hK
          have h3 : vs 3 = .pointer (some ⟨g, o + i * 4, none⟩) := hd 3 (by kernel_rfl)
          obtain ⟨k0, k1, k2, k3⟩ := HKc.out W hw
          simp only [Nat.reduceAdd, h3] at hK ⊢
          go_simp
          exact hK.out _ _ rfl (Below.refl _ _)
        case o5 =>
          intro vs W hw hd K hK
          obtain ⟨z0, z1, z2, z3, z4⟩ := rcells5 (Hab.out W hw)
          go_simp
          exact hK.out _ _ rfl (Below.refl _ _)
        case o6 =>
          intro vs W hw hd K hK
          have h4 : vs 4 = .agg #[.string kt, .int .u8 (kc : Int), .int .i64 kn, .int .i64 kw] := hd 4 (by kernel_rfl)
          have h5 : vs 5 = .agg #[.int .i64 a0, .int .i64 a1, .int .i64 a2, .string a3, .slice a4 a5 a6] := hd 5 (by kernel_rfl)
          simp only [Nat.reduceAdd, h4, h5] at hK ⊢
          go_simp
          refine (cKa.out W hw).mono ?_
          rintro e W' ⟨v', rfl, hs', hb'⟩
          exact hK.out _ _ hs' hb'
        case o7 =>
          intro vs W hw hd K hK
          go_simp
          exact hK.out _ _ rfl (Below.refl _ _)
        case o8 =>
          intro vs W hw hd K hK
          have h7 : vs 7 = .pointer (some ⟨w.heap.size, 0, none⟩) := hd 7 (by kernel_rfl)
          obtain ⟨m0, m1⟩ := mcells2 (HMb.out W hw)
          simp only [Nat.reduceAdd, h7] at hK ⊢
          go_simp
          exact hK.out _ _ rfl (Below.refl _ _)
        case o9 =>
          intro vs W hw hd K hK
          go_simp
          exact hK.out _ _ rfl (Below.refl _ _)
        case o10 =>
          intro vs W hw hd K hK
          have h8 : vs 8 = .slice (some ⟨g, o, none⟩) n cap := hd 8 (by kernel_rfl)
          have h9 : vs 9 = .int .i64 (i : Int) := hd 9 (by kernel_rfl)
          simp only [Nat.reduceAdd, h8, h9] at hK ⊢
          go_simp
          exact hK.out _ _ rfl (Below.refl _ _)
        case o11 =>
          intro vs W hw hd K hK
          have h10 : vs 10 = .pointer (some ⟨g, o + i * 4, none⟩) := hd 10 (by kernel_rfl)
          obtain ⟨k0, k1, k2, k3⟩ := HKc.out W hw
          simp only [Nat.reduceAdd, h10] at hK ⊢
          go_simp
          exact hK.out _ _ rfl (Below.refl _ _)
        case o12 =>
          intro vs W hw hd K hK
          obtain ⟨z0, z1, z2, z3, z4⟩ := rcells5 (Hbb.out W hw)
          go_simp
          exact hK.out _ _ rfl (Below.refl _ _)
        case o13 =>
          intro vs W hw hd K hK
          have h11 : vs 11 = .agg #[.string kt, .int .u8 (kc : Int), .int .i64 kn, .int .i64 kw] := hd 11 (by kernel_rfl)
          have h12 : vs 12 = .agg #[.int .i64 b0, .int .i64 b1, .int .i64 b2, .string b3, .slice b4 b5 b6] := hd 12 (by kernel_rfl)
          simp only [Nat.reduceAdd, h11, h12] at hK ⊢
          go_simp
          refine (cKb.out W hw).mono ?_
          rintro e W' ⟨v', rfl, hs', hb'⟩
          exact hK.out _ _ hs' hb'
        case o14 =>
          intro vs W hw hd K hK
          have h6 : BL (vs 6) KA W := hd 6 (by kernel_rfl)
          have h13 : BL (vs 13) KB W := hd 13 (by kernel_rfl)
          simp only [Nat.reduceAdd] at hK ⊢
          go_simp
          refine (cM.out (vs 6) (vs 13) W h6 h13).mono ?_
          rintro e W' ⟨rfl, hb'⟩
          exact hK.out _ _ rfl hb'
      case hfin =>
        intro vs W hw hd
        have h14 : vs 14 = .bool mt := hd 14 (by decide)
        simp only [Nat.reduceAdd, h14]
        obtain ⟨m0, m1⟩ := mcells2 (HMb.out W hw)
        obtain ⟨k0, k1, k2, k3⟩ := HKc.out W hw
        have HBn := Lib.hid (HBa.out W hw)
        clear hd h14 hw HMb Hab Hbb HBa HKc cKa cKb cM
        have hst := HX1.out
        cases mt
        · rw [if_neg (by decide), Int.add_zero] at hst
          subst hst
          go_wp2
          go_roundw
          case rel => exact ⟨i + 1, by go_num, by omega, by rw [HZ1.out], HBn.out⟩
          case measure => simp [intOf]; omega
        · rw [if_pos rfl] at hst
          have hzb : -9223372036854775808 ≤ z + kw ∧ z + kw ≤ 9223372036854775807 := by omega
          subst hst
          go_wp2
          go_roundw
          case rel => exact ⟨i + 1, by go_num, by omega, by rw [HZ1.out]; try go_num, HBn.out⟩
          case measure => simp [intOf]; omega
    · obtain rfl : i = n := by omega
      rw [HSe.out]
      have HG := Lib.hid (HBw.out wq HBr.out)
      go_wp2
      first | exact ⟨rfl, HG.out⟩ | (go_ret; exact ⟨rfl, HG.out⟩)
end

section
open Go.RowKit Go.PlainAid
theorem keysE_drop (K : List MKey) (i : Nat) (h : i < K.length) : keysE (K.drop i) = if keyE (K.getD i key0) = 0 then keysE (K.drop (i + 1)) else keyE (K.getD i key0) := by
  rw [List.drop_eq_getElem_cons h, keysE, List.getD_eq_getElem?_getD, List.getElem?_eq_getElem h]
  rfl
set_option maxHeartbeats 32000000 in
set_option maxRecDepth 100000 in
theorem refRight15_any (m : MRule) (mv : Value) (w : World) (hm : KL mv m.keys w) :
    Calls Tryz.prog 11 #[MV m mv] w fun e w' => e = .returned (.int .i64 (rightM m)) ∧ Below w.heap.size w w' := by
  obtain ⟨Q, hQ⟩ : ∃ Q, (fun (e : Ending) (w' : World) => e = .returned (.int .i64 (rightM m)) ∧ Below w.heap.size w w') = Q := ⟨_, rfl⟩
  rw [hQ]
  obtain ⟨x, cap, g, o, rfl, hc, hmx, hga, hxa⟩ := hm.opened
  unfold maxLen at hmx
  obtain ⟨n, hn⟩ : ∃ n, m.keys.length = n := ⟨_, rfl⟩
  rw [hn] at hc hga hxa ⊢
  obtain ⟨W0, hW0⟩ : ∃ W0, w.alloc (.cells #[.slice x n cap, .int .i64 m.need] 24) = W0 := ⟨_, rfl⟩
  have b0 : Below w.heap.size w W0 := by rw [← hW0]; exact (Below.refl w.heap.size w).alloc (Nat.le_refl _) _
  have hlt : w.heap.size < W0.heap.size := by rw [← hW0]; simp
  have hM : W0.heap[w.heap.size]? = some (.cells #[.slice x n cap, .int .i64 m.need] 24 (0, 0)) := by rw [← hW0]; exact heap_alloc_new w _
  have HM := Lib.hid (fun (W : World) (h : Below W0.heap.size W0 W) => (h.block w.heap.size hlt).trans hM)
  have HBw := Lib.hid (fun (W : World) (h : Below W0.heap.size W0 W) => b0.trans (h.mono b0.size))
  have HX := Lib.hid hxa
  have HRB := Lib.hid (Below.refl W0.heap.size W0)
  have HDr := Lib.hid (fun i (h : i < n) => keysE_drop m.keys i (by rw [hn]; exact h))
  have HQ : RowKit.Hid (∀ (e : Int) W, rightM m = e → Below W0.heap.size W0 W → Q (.returned (.int .i64 e)) W) := by
    rintro e W rfl hW
    rw [← hQ]
    exact ⟨rfl, b0.trans (hW.mono b0.size)⟩
  have HNil : RowKit.Hid (n = 0 → rightM m = 8) := by
    intro h
    unfold rightM
    rw [if_pos (List.length_eq_zero_iff.1 (hn.trans h))]
  have HFull : RowKit.Hid (8 < n → rightM m = 13) := by
    intro h
    unfold rightM
    rw [if_neg (fun g => by rw [g] at hn; simp at hn; omega), if_pos (by rw [hn]; exact h)]
  have HKey : RowKit.Hid (0 < n → n ≤ 8 → rightM m = if keysE m.keys ≠ 0 then keysE m.keys else if m.need < 1 ∨ 800 < m.need then 2 else 0) := by
    intro h1 h2
    unfold rightM
    rw [if_neg (fun g => by rw [g] at hn; simp at hn; omega), if_neg (by rw [hn]; omega)]
  have HDn : RowKit.Hid (m.keys.drop n = []) := List.drop_of_length_le (by rw [hn]; exact Nat.le_refl _)
  unfold MV
  have HW0 := Lib.hid hW0
  obtain ⟨m0, m1⟩ := mcells2 hM
  clear hQ hW0 hM hlt b0 hxa hm hn
  generalize m.need = need at *
  generalize hK : m.keys = K at *
  clear hK
  generalize rightM m = R at *
  by_cases hn0 : n = 0
  · have HG := Lib.hid (HQ.out 8 W0 (HNil.out hn0) HRB.out)
    subst hn0
    go_enter Tryz.func11, Tryz.ntmps11
    go_upto_region 1 with fail
    rw [HW0.out]
    go_wp2
    first | exact HG.out | (go_ret; exact HG.out)
  by_cases hn8 : 8 < n
  · have HG := Lib.hid (HQ.out 13 W0 (HFull.out hn8) HRB.out)
    have t1 : decide ((8 : Int) < (n : Int)) = true := decide_eq_true (by omega)
    have t0 : ((n : Int) == 0) = false := by simp; omega
    go_enter Tryz.func11, Tryz.ntmps11
    go_upto_region 1 with fail
    rw [HW0.out]
    go_wp2
    first | exact HG.out | (go_ret; exact HG.out)
  have HKy := Lib.hid (HKey.out (by omega) (by omega))
  have t1 : decide ((8 : Int) < (n : Int)) = false := decide_eq_false (by omega)
  have t0 : ((n : Int) == 0) = false := by simp; omega
  have hnn : n ≤ 8 := by omega
  clear hn0 hn8 HKey HNil HFull
  go_enter Tryz.func11, Tryz.ntmps11
  go_upto_region 1 with fail
  rw [HW0.out]
  clear HW0
  go_wp2
  clear m0 m1
  go_loopw [3, 4] (fun s3 _ wr => ∃ i : Nat, s3 = .int .i64 (i : Int) ∧ i ≤ n ∧ RowKit.Hid (keysE (K.drop i) = keysE K) ∧ RowKit.Hid (Below W0.heap.size W0 wr)) (fun s3 _ _ => n - (intOf s3).toNat)
  case atStart => exact ⟨0, rfl, Nat.zero_le _, rfl, HRB.out⟩
  case round =>
    obtain ⟨i, rfl, hi, HI, HBr⟩ := hrel
    clear HRB
    have i1 : (0 : Int) ≤ (i : Int) := by omega
    obtain ⟨wq, hwq⟩ : ∃ wq, wr = wq := ⟨_, rfl⟩
    rw [hwq] at HBr ⊢
    clear hwq
    obtain ⟨m0, m1⟩ := mcells2 (HM.out wq HBr.out)
    by_cases hin : i < n
    · have i2 : (i : Int) < (n : Int) := by omega
      obtain rfl := hga (by omega)
      obtain ⟨k0, k1, k2, k3⟩ := HX.out wq (HBw.out wq HBr.out) i hin
      have hdr := HDr.out i hin
      rw [HI.out] at hdr
      obtain ⟨k, hk⟩ : ∃ k, K.getD i key0 = k := ⟨_, rfl⟩
      rw [hk] at k0 k1 k2 k3 hdr
      have hke : keyE k = if tagB k.tag = false then 6 else if codeB k.code = false then 1 else if k.norm < 0 ∨ 4 < k.norm ∨ k.weight < 1 ∨ 100 < k.weight then 2 else 0 := rfl
      obtain ⟨tb, htb⟩ : ∃ tb, tagB k.tag = tb := ⟨_, rfl⟩
      obtain ⟨cb9, hcb⟩ : ∃ cb9, codeB k.code = cb9 := ⟨_, rfl⟩
      have cT := Lib.hid (fun W => refTag_any k.tag tb htb W)
      have cC := Lib.hid (fun W => refCode_any k.code cb9 hcb W)
      rw [htb, hcb] at hke
      have HDk := Lib.hid hdr
      have HKe := Lib.hid hke
      have hc256 := k.code.toNat_lt
      obtain ⟨wb, hwb⟩ : ∃ wb, wq.alloc (.cells #[.string (S k.tag), .int .u8 (k.code.toNat : Int), .int .i64 k.norm, .int .i64 k.weight] 39) = wb := ⟨_, rfl⟩
      obtain ⟨bx, hbx⟩ : ∃ bx, wq.heap.size = bx := ⟨_, rfl⟩
      have hF : wb.heap[bx]? = some (.cells #[.string (S k.tag), .int .u8 (k.code.toNat : Int), .int .i64 k.norm, .int .i64 k.weight] 39 (0, 0)) := by rw [← hwb, ← hbx]; exact heap_alloc_new wq _
      have hbb : Below wq.heap.size wq wb := by rw [← hwb]; exact (Below.refl _ _).alloc (Nat.le_refl _) _
      have HBb := Lib.hid (HBr.out.trans (hbb.mono HBr.out.size))
      have HWb := Lib.hid hwb
      have HBx := Lib.hid hbx
      have hM2 := HM.out wb HBb.out
      clear hk hdr hke htb hcb hwb hbx hbb
      generalize S k.tag = kt at *
      generalize k.code.toNat = kc at *
      generalize k.norm = kn at *
      generalize k.weight = kw at *
      generalize keyE k = E at *
      obtain ⟨f0, f1, f2, f3⟩ := kcells4 hF
      have cT1 := Lib.hid (cT.out wb)
      have cC1 := Lib.hid (cC.out wb)
      clear hF cT cC hM2
      go_upto_region 9 with fail
      rw [HWb.out, HBx.out]
      clear HWb HBx k0 k1 k2 k3 m0 m1
      have HErr : RowKit.Hid (∀ e, E = e → e ≠ 0 → Q (.returned (.int .i64 e)) wb) := by
        rintro e rfl he
        refine HQ.out _ wb ?_ HBb.out
        have h1 := HDk.out
        rw [if_neg he] at h1
        have h2 := HKy.out
        rw [h1, if_pos he] at h2
        exact h2
      cases tb
      · have HG := Lib.hid (HErr.out 6 (by rw [HKe.out]; rfl) (by decide))
        clear HErr
        go_wp2_with fail
        refine cT1.out.mono ?_
        rintro e w5 ⟨rfl, hw5⟩
        rw [hw5]
        clear hw5 cT1
        go_wp2
        first | exact HG.out | (go_ret; exact HG.out)
      · go_wp2_with fail
        refine cT1.out.mono ?_
        rintro e w5 ⟨rfl, hw5⟩
        rw [hw5]
        clear hw5 cT1
        cases cb9
        · have HG := Lib.hid (HErr.out 1 (by rw [HKe.out]; rfl) (by decide))
          clear HErr
          go_wp2_with fail
          refine cC1.out.mono ?_
          rintro e w6 ⟨rfl, hw6⟩
          rw [hw6]
          clear hw6 cC1
          go_wp2
          first | exact HG.out | (go_ret; exact HG.out)
        · go_wp2_with fail
          refine cC1.out.mono ?_
          rintro e w6 ⟨rfl, hw6⟩
          rw [hw6]
          clear hw6 cC1
          have hke := HKe.out
          rw [if_neg (by decide), if_neg (by decide)] at hke
          by_cases hbad : kn < 0 ∨ 4 < kn ∨ kw < 1 ∨ 100 < kw
          · rw [if_pos hbad] at hke
            have HG := Lib.hid (HErr.out 2 hke (by decide))
            have tt : decide (kn < 0) = true ∨ decide (kn < 0) = false ∧ (decide (4 < kn) = true ∨ decide (4 < kn) = false ∧ (decide (kw < 1) = true ∨ decide (kw < 1) = false ∧ decide (100 < kw) = true)) := by
              simp only [decide_eq_true_eq, decide_eq_false_iff_not]
              omega
            clear HErr hke hbad
            rcases tt with t | ⟨t, t | ⟨t', t | ⟨t'', t⟩⟩⟩
            all_goals
              go_wp2
              first | exact HG.out | (go_ret; exact HG.out)
          · rw [if_neg hbad] at hke
            have HN2 : RowKit.Hid (keysE (K.drop (i + 1)) = keysE K) := by
              have h1 := HDk.out
              rw [if_pos hke] at h1
              exact h1.symm
            have u1 : decide (kn < 0) = false := decide_eq_false (by omega)
            have u2 : decide (4 < kn) = false := decide_eq_false (by omega)
            have u3 : decide (kw < 1) = false := decide_eq_false (by omega)
            have u4 : decide (100 < kw) = false := decide_eq_false (by omega)
            clear HErr hke hbad HDk HKe
            go_wp2
            go_roundw
            case rel => exact ⟨i + 1, by go_num, by omega, HN2.out, HBb.out⟩
            case measure => simp [intOf]; omega
    · obtain rfl : i = n := by omega
      have hk := HKy.out
      rw [HDn.out] at HI
      rw [← HI.out] at hk
      have hk2 : R = if need < 1 ∨ 800 < need then 2 else 0 := by
        rw [hk]
        exact if_neg (by decide)
      by_cases hbad : need < 1 ∨ 800 < need
      · rw [if_pos hbad] at hk2
        have HG := Lib.hid (HQ.out 2 wq hk2 HBr.out)
        have tt : decide (need < 1) = true ∨ decide (need < 1) = false ∧ decide (800 < need) = true := by
          simp only [decide_eq_true_eq, decide_eq_false_iff_not]
          omega
        clear hk hk2 hbad HI
        rcases tt with t | ⟨t, t'⟩
        all_goals
          go_wp2
          first | exact HG.out | (go_ret; exact HG.out)
      · rw [if_neg hbad] at hk2
        have HG := Lib.hid (HQ.out 0 wq hk2 HBr.out)
        have u1 : decide (need < 1) = false := decide_eq_false (by omega)
        have u2 : decide (800 < need) = false := decide_eq_false (by omega)
        clear hk hk2 hbad HI
        go_wp2
        first | exact HG.out | (go_ret; exact HG.out)
end

section
open Go Go.RowKit
theorem equal_key (w : World) (s s' : ByteArray) (b b' c c' d d' : Int) :
    (Op.equalIn 10000 39 (.agg #[.string s, .int .u8 b, .int .i64 c, .int .i64 d]) (.agg #[.string s', .int .u8 b', .int .i64 c', .int .i64 d'])).run Tryz.prog w = .ok (s.toList == s'.toList && (b == b' && (c == c' && d == d'))) w := by
  have hu := Tryz.underlying39
  have g1 : ∀ w, (isAgg 9).run Tryz.prog w = .ok false w := fun w => by simp [isAgg, run_underlying Tryz.underlying9]
  have g2 : ∀ w, (isAgg 5).run Tryz.prog w = .ok false w := fun w => by simp [isAgg, run_underlying Tryz.underlying5]
  have g3 : ∀ w, (isAgg 3).run Tryz.prog w = .ok false w := fun w => by simp [isAgg, run_underlying Tryz.underlying3]
  have e1 : ∀ w a b, (Op.equalIn 9999 9 (.string a) (.string b)).run Tryz.prog w = .ok (a.toList == b.toList) w := fun w a b => run_equalIn_string w 9998 _ a b Tryz.underlying9
  have e2 : ∀ w a b, (Op.equalIn 9999 5 (.int .u8 a) (.int .u8 b)).run Tryz.prog w = .ok (a == b) w := fun w a b => run_equalIn_int w 9998 _ .u8 _ a b Tryz.underlying5
  have e3 : ∀ w a b, (Op.equalIn 9999 3 (.int .i64 a) (.int .i64 b)).run Tryz.prog w = .ok (a == b) w := fun w a b => run_equalIn_int w 9998 _ .i64 _ a b Tryz.underlying3
  rw [run_equalIn_struct w 9999 _ _ _ (by simp only [Program.fieldsOf, hu]) (by kernel_rfl)]
  simp only [Program.fieldsOf, hu]
  cases h1 : (s.toList == s'.toList) <;> cases h2 : (b == b') <;> cases h3 : (c == c') <;> cases h4 : (d == d') <;> simp [Op.eqFields, part, g1, g2, g3, e1, e2, e3, h1, h2, h3, h4]
end

end Go.Proofs.YtfjfpefpdlecbaaGreatDoor
