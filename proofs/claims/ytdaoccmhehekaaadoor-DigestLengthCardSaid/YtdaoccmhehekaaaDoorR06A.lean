/- libraryref06: Right, Join; Sum. -/
import Derived.Test.YtdaoccmhehekaaaDoorPlain06
import Derived.Laws.BitsAllLaws
import Derived.Laws.AppendOwn
import Derived.Laws.BytesArg
namespace Go.Proofs.YtdaoccmhehekaaaDoor
open Go.RowKit Go.PlainAid

theorem all_getD (l : List UInt8) (p : UInt8 → Bool) : l.all p = true ↔ ∀ i, i < l.length → p (l.getD i 0) = true := by
  rw [List.all_eq_true]
  constructor
  · intro h i hi
    rw [List.getD_eq_getElem?_getD, List.getElem?_eq_getElem hi]
    exact h _ (List.getElem_mem hi)
  · intro h x hx
    obtain ⟨i, hi, rfl⟩ := List.getElem_of_mem hx
    have := h i hi
    rwa [List.getD_eq_getElem?_getD, List.getElem?_eq_getElem hi] at this
theorem take_snoc (l : List UInt8) (k : Nat) (h : k < l.length) : l.take (k + 1) = l.take k ++ [l.getD k 0] := by
  rw [List.take_succ_eq_append_getElem h, List.getD_eq_getElem?_getD, List.getElem?_eq_getElem h]
  rfl

theorem add_at (g i : Nat) : (⟨g, 0, none⟩ : Addr).add i = ⟨g, i, none⟩ := by unfold Addr.add; split <;> simp_all
/-- The digits of hexadecimal numbers, as a text. -/
theorem digits_at (r : Nat) (h : r < 16) : bt ⟨#[48, 49, 50, 51, 52, 53, 54, 55, 56, 57, 97, 98, 99, 100, 101, 102]⟩ r = ((hx r).toNat : Int) := by
  have h2 : ∀ r : Fin 16, bt ⟨#[48, 49, 50, 51, 52, 53, 54, 55, 56, 57, 97, 98, 99, 100, 101, 102]⟩ r.1 = ((hx r.1).toNat : Int) := by decide +kernel
  exact h2 ⟨r, h⟩

set_option maxHeartbeats 8000000 in
theorem refSum_any (l : List UInt8) (hz : l.length ≤ 1000000) (w : World) :
    Calls Tryd.prog 13 #[.string (S l)] w fun e w' => e = .returned (.string (S (sumL l))) ∧ Below w.heap.size w w' := by
  have hbt := get_bt (S l)
  obtain ⟨n, hn⟩ : ∃ n, l.length = n := ⟨_, rfl⟩
  have hsz : (S l).size = n := by rw [S_size, hn]
  have HBS := Lib.hid (fun i => bt_S l i)
  have HN := Lib.hid hn
  rw [hn] at hz
  clear hn
  generalize S l = s at *
  go_enter Tryd.func13, Tryd.ntmps13
  generalize hds : (⟨#[48, 49, 50, 51, 52, 53, 54, 55, 56, 57, 97, 98, 99, 100, 101, 102]⟩ : ByteArray) = ds
  have hdz : ds.size = 16 := by rw [← hds]; rfl
  have HDA : RowKit.Hid (∀ r, r < 16 → bt ds r = ((hx r).toNat : Int)) := by rw [← hds]; exact digits_at
  have HDT := Lib.hid (get_bt ds)
  clear hds
  go_wp2
  go_loopw [3, 4] (fun h i wr => ∃ k : Nat, k ≤ n ∧ i = .int .i64 (k : Int) ∧ h = .int .u64 ((hfold (l.take k) : Nat) : Int) ∧ w = wr) (fun _ i _ => n - (intOf i).toNat)
  case atStart => exact ⟨0, Nat.zero_le _, rfl, rfl, rfl⟩
  case round =>
    obtain ⟨k, hk, rfl, rfl, rfl⟩ := hrel
    have hlt := hfold_lt (l.take k)
    by_cases hkn : k < n
    · have hv := HBS.out k
      have hki : (k : Int) < (n : Int) := by omega
      have HS : RowKit.Hid (hfold (l.take (k + 1)) = hstep (hfold (l.take k)) (l.getD k 0)) := by
        unfold RowKit.Hid
        rw [take_snoc l k (by rw [HN.out]; exact hkn), hfold_snoc]
      have hb : (l.getD k 0).toNat < 256 := UInt8.toNat_lt _
      unfold hstep at HS
      generalize hfold (l.take k) = h at *
      generalize (l.getD k 0).toNat = b at *
      have x1 : bits .xor .u64 (h : Int) (b : Int) = ((h ^^^ b : Nat) : Int) := bits_xor_u64_nat h b hlt (by omega)
      go_wp2
      go_roundw
      case rel => exact ⟨k + 1, by omega, by go_num, by rw [HS.out]; go_num, trivial⟩
      case measure => simp [intOf]; omega
    · obtain rfl : k = n := by omega
      have HF : RowKit.Hid (l.take k = l) := by unfold RowKit.Hid; rw [← HN.out, List.take_length]
      rw [HF.out] at hlt ⊢
      have HS : RowKit.Hid (sumL l = hexU (fin (hfold l)) 16) := rfl
      unfold fin at HS
      generalize hfold l = h0 at *
      have x1 : bits .xor .u64 (h0 : Int) ((h0 : Int) / 8589934592) = ((mx h0 : Nat) : Int) := xorShift_u64 h0 8589934592 hlt
      have l1 := mx_lt h0 hlt
      generalize mx h0 = h1 at *
      have x2 : IntKind.u64.wrap ((h1 : Int) * 18397679294719823053) = ((mul1 h1 : Nat) : Int) := by rw [IntKind.wrap_u64]; unfold mul1; omega
      have l2 := mul1_lt h1
      generalize mul1 h1 = h2 at *
      have x3 : bits .xor .u64 (h2 : Int) ((h2 : Int) / 8589934592) = ((mx h2 : Nat) : Int) := xorShift_u64 h2 8589934592 l2
      have l3 := mx_lt h2 l2
      generalize mx h2 = h3 at *
      have x4 : IntKind.u64.wrap ((h3 : Int) * 14181476777654086739) = ((mul2 h3 : Nat) : Int) := by rw [IntKind.wrap_u64]; unfold mul2; omega
      have l4 := mul2_lt h3
      generalize mul2 h3 = h4 at *
      have x5 : bits .xor .u64 (h4 : Int) ((h4 : Int) / 8589934592) = ((mx h4 : Nat) : Int) := xorShift_u64 h4 8589934592 l4
      have l5 := mx_lt h4 l4
      generalize mx h4 = h5 at *
      obtain ⟨i0, hi, hz0, hz1, hz2⟩ := info_byte
      have HZ0 := Lib.hid hz0
      have HZ1 := Lib.hid hz1
      have HZ2 := Lib.hid hz2
      have HI := Lib.hid hi
      clear hi hz0 hz1 hz2
      have hdt := HDT.out
      go_wp2
      clear x1 x2 x3 x4 x5
      generalize ((h0 : Int) / 8589934592) = z0
      generalize ((h2 : Int) / 8589934592) = z2
      generalize ((h4 : Int) / 8589934592) = z4
      have hb0 := (Below.refl w.heap.size w).alloc (Nat.le_refl _) (.cells #[] 5)
      have hst := Byt.empty w
      go_loopw [3, 5, 6] (fun hh b i wx => ∃ j : Nat, j ≤ 16 ∧ i = .int .i64 (j : Int) ∧ hh = .int .u64 ((h5 / 16 ^ j : Nat) : Int) ∧ Byt w.heap.size b (hexU h5 j) wx ∧ Below w.heap.size w wx) (fun _ _ i _ => 16 - (intOf i).toNat)
      case atStart => exact ⟨0, Nat.zero_le _, rfl, by simp, hst, hb0⟩
      case round =>
        obtain ⟨j, hj, rfl, rfl, hbyt, hbw⟩ := hrel
        clear hst hb0
        by_cases hlt2 : j < 16
        · have hp : h5 / 16 ^ j ≤ h5 := Nat.div_le_self _ _
          have HP : RowKit.Hid (h5 / 16 ^ (j + 1) = h5 / 16 ^ j / 16) := by unfold RowKit.Hid; rw [Nat.pow_succ, Nat.div_div_eq_div_mul]
          have HD : RowKit.Hid (hexU h5 (j + 1) = hx (h5 / 16 ^ j % 16) :: hexU h5 j) := rfl
          have hlen := hexU_length h5 j
          generalize h5 / 16 ^ j = q at HP HD hp ⊢
          have q1 : Int.tdiv (q : Int) 16 = ((q / 16 : Nat) : Int) := by rw [Int.tdiv_eq_ediv_of_nonneg (by omega)]; omega
          have q2 : (q : Int) / 16 = ((q / 16 : Nat) : Int) := by omega
          have hq : q / 16 < 18446744073709551616 := by omega
          have hc := HDA.out (q % 16) (by omega)
          generalize hx (q % 16) = c at HD hc
          generalize q / 16 = q' at q1 q2 hq HP
          generalize hexU h5 j = xs at *
          obtain ⟨g, cap, rfl, hgb, hgs, hcl⟩ := hbyt.open
          have HC := Lib.hid hcl
          clear hcl
          have hown : (wr.alloc (.cells #[.int .u8 (c.toNat : Int)] 5)).ownsRow w.heap.size 5 1 (.slice (some ⟨wr.heap.size, 0, none⟩) 1 1) 1 [.int .u8 (c.toNat : Int)] :=
            ⟨rfl, .inr ⟨wr.heap.size, 1, #[.int .u8 (c.toNat : Int)], rfl, hbw.size, heap_alloc_new wr _, Nat.le_refl _, by decide, rfl, rfl⟩⟩
          have hwr := hbw.size
          go_wp2_with (at_builtin; go_loud (refine wpList_append_own _ rfl _ _ 43 rfl w.heap.size 5 i0 (.int .u8 0) 1 1 Tryd.underlying43 HI.out HZ0.out HZ1.out HZ2.out rfl (by decide) _ _ _ rfl hown ⟨g, 0, none⟩ xs.length cap (xs.map u8V) rfl ?c0 ?c1 ?c2 ?c3 ?c4 ?c5 ?_))
          case c0 => simp
          case c1 =>
            intro i u hi'
            rw [add_at g i, ((Below.refl wr.heap.size wr).alloc (Nat.le_refl _) (.cells #[.int .u8 (c.toNat : Int)] 5)).cell (p := ⟨g, i, none⟩) hgs]
            exact HC.out i u hi'
          case c2 => intro u hu; simp at hu; obtain ⟨x, _, rfl⟩ := hu; rfl
          case c3 => unfold maxLen; omega
          case c4 => omega
          case c5 => simp; omega
          intro v' w5 hown' hgrow _
          have hbw5 := (hbw.alloc hbw.size (.cells #[.int .u8 (c.toNat : Int)] 5)).grown hgrow (by simp; omega) (by intro k' hk'; simp [Value.ownBlock] at hk'; omega)
          go_wp2
          go_roundw
          case rel =>
            refine ⟨j + 1, by omega, by go_num, by rw [HP.out], ?_, hbw5⟩
            rw [HD.out]
            refine Byt.mk' ?_ (by simp)
            rw [show (c :: xs).length = 1 + j by rw [List.length_cons, Nat.add_comm, hlen], List.map_cons, show u8V c = .int .u8 (c.toNat : Int) from rfl]
            exact hown'
          case measure => simp [intOf]; omega
        · obtain rfl : j = 16 := by omega
          have hcv := hbyt.str
          clear hbyt hdt
          rw [← HS.out] at hcv
          clear HS
          go_wp2
          go_ret
          exact ⟨rfl, hbw⟩
end Go.Proofs.YtdaoccmhehekaaaDoor
