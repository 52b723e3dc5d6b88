/- Merged: SA08, SB08. -/
import Derived.Test.YtcnjjdbpcobolaaGreatDoorQ13
import Derived.Test.YtcnjjdbpcobolaaGreatDoorQ16
import Derived.Shelf.SlSortCmp.KitK
import Derived.Sort.WalkB2
import Derived.Sort.WalkB12
import Derived.Deep.LoopGhost
import Derived.RegionTactic
import Derived.BigRegion
namespace Go.Proofs.YtcnjjdbpcobolaaGreatDoor

section
open Go.RowKit Go.PlainAid Go.Sort
/-- A field, and the slice of its subfields. -/
abbrev FU := Fld × (Option Addr × Nat × Nat)
def encP (x : FU) : List Value := [.string (S x.1.tag), .string (S x.1.ind), .slice x.2.1 x.2.2.1 x.2.2.2, .int .i64 x.1.auth]
def keyP (x : FU) : List UInt8 := x.1.tag
instance : Inhabited FU := ⟨(fd0, none, 0, 0)⟩
theorem encP_one (x : FU) : ∀ v ∈ encP x, v.oneCell' = true := fun v hv => by
  simp only [encP, List.mem_cons, List.not_mem_nil, or_false] at hv
  rcases hv with rfl | rfl | rfl | rfl <;> rfl
/-- A world of the sort's, in which the row holds these. -/
def SP4 (w0 : World) (blk : Nat) (L : List FU) (W : World) : Prop := SWK encP 4 w0 blk 0 L.toArray W

theorem SP4.cells {w0 : World} {blk : Nat} {L : List FU} {W : World} {d0 : Array FU} (R : RowK encP 4 w0 blk 0 d0) (h : SP4 w0 blk L W) (hd : d0.size = L.length) (i : Nat) (hi : i < L.length) :
    (W.cell? ⟨blk, i * 4, none⟩ = some (.string (S (L.toArray[i]!).1.tag)) ∧ W.cell? ⟨blk, i * 4 + 1, none⟩ = some (.string (S (L.toArray[i]!).1.ind)) ∧ W.cell? ⟨blk, i * 4 + 2, none⟩ = some (.slice (L.toArray[i]!).2.1 (L.toArray[i]!).2.2.1 (L.toArray[i]!).2.2.2) ∧ W.cell? ⟨blk, i * 4 + 3, none⟩ = some (.int .i64 (L.toArray[i]!).1.auth)) ∧
    (W.frozen? ⟨blk, i * 4, none⟩ = false ∧ W.frozen? ⟨blk, i * 4 + 1, none⟩ = false ∧ W.frozen? ⟨blk, i * 4 + 2, none⟩ = false ∧ W.frozen? ⟨blk, i * 4 + 3, none⟩ = false) := by
  have hH : HoldsK encP 4 W blk 0 L.toArray := SWK.holds h R.hblk R.hH (by rw [List.size_toArray]; exact hd.symm)
  have hz : i < L.toArray.size := by rw [List.size_toArray]; exact hi
  obtain ⟨a0, f0⟩ := hH.cell (i := i) (c := 0) hz (by decide)
  obtain ⟨a1, f1⟩ := hH.cell (i := i) (c := 1) hz (by decide)
  obtain ⟨a2, f2⟩ := hH.cell (i := i) (c := 2) hz (by decide)
  obtain ⟨a3, f3⟩ := hH.cell (i := i) (c := 3) hz (by decide)
  rw [Nat.zero_add] at a0 a1 a2 a3 f0 f1 f2 f3
  exact ⟨⟨a0, a1, a2, a3⟩, ⟨f0, f1, f2, f3⟩⟩
theorem setCells_four (W : World) (b o : Nat) (v0 v1 v2 v3 : Value) : W.setCells b o [v0, v1, v2, v3] = (((W.setCell ⟨b, o, none⟩ v0).setCell ⟨b, o + 1, none⟩ v1).setCell ⟨b, o + 2, none⟩ v2).setCell ⟨b, o + 3, none⟩ v3 := rfl
theorem drew_set (w : World) (p : Addr) (v : Value) : w.drew.setCell p v = (w.setCell p v).drew := rfl
set_option maxHeartbeats 4000000 in
theorem swapRange_any (w0 : World) (blk N cap : Nat) (d0 : Array FU) (hd : d0.size = N) (hN : N ≤ 100000) (R : RowK encP 4 w0 blk 0 d0) (fv : Value) (A P B Q C : List FU) (n a b : Nat) (hP : P.length = n) (hQ : Q.length = n) (ha : A.length = a) (hb : a + n + B.length = b) (hl : b + n + C.length = N)
    (w : World) (hS : SP4 w0 blk (A ++ (P ++ (B ++ (Q ++ C)))) w) :
    Calls Tryz.prog 134 #[.slice (some ⟨blk, 0, none⟩) N cap, .int .i64 (a : Int), .int .i64 (b : Int), .int .i64 (n : Int), fv] w fun e w' => e = .returned (.tuple #[]) ∧ SP4 w0 blk (A ++ (Q ++ (B ++ (P ++ C)))) w' := by
  have HStart := Lib.hid (swapping_start A P B Q C)
  have HEnd := Lib.hid (swapping_end A P B Q C hP hQ)
  have HLen := Lib.hid (swapping_len A P B Q C hP hQ)
  have HStep := Lib.hid (fun i hi => swapping_step A P B Q C (i := i) (a := a + i) (b := b + i) hP hQ hi (by omega) (by omega))
  have HS0 : RowKit.Hid (SP4 w0 blk (swapping A P B Q C 0) w) := by unfold RowKit.Hid; rw [HStart.out]; exact hS
  have hlen : ∀ i, (swapping A P B Q C i).toArray.size = N := fun i => by rw [List.size_toArray, HLen.out]; omega
  have HLn := Lib.hid hlen
  rw [← HEnd.out]
  generalize swapping A P B Q C = T at *
  clear hS hlen HStart HEnd HLen
  have HR := Lib.hid R
  go_enter Tryz.func134, Tryz.ntmps134
  go_wp2
  go_loopg [10] n (fun g s10 wr => ∃ i : Nat, s10 = .int .i64 (i : Int) ∧ i ≤ n ∧ n - i ≤ g ∧ RowKit.Hid (SP4 w0 blk (T i) wr))
  case atStart => exact ⟨0, rfl, Nat.zero_le _, by omega, HS0⟩
  case round =>
    obtain ⟨i, rfl, hin, hg, HS⟩ := hrel
    by_cases hi : i < n
    · have i0 : (i : Int) < (n : Int) := by omega
      have S1 : SWK encP 4 w0 blk 0 (T i).toArray wr := HS.out
      have hds := HLn.out i
      have S2 : RowKit.Hid (SP4 w0 blk (T (i + 1)) ((wr.drew.setCells blk ((a + i) * 4) (encP (T i).toArray[b + i]!)).setCells blk ((b + i) * 4) (encP (T i).toArray[a + i]!))) := by
        have := S1.swapped HR.out (a + i) (b + i) (by omega) (by omega)
        rw [HStep.out i hi, Nat.zero_add, Nat.zero_add] at this
        exact this
      obtain ⟨⟨a0, a1, a2, a3⟩, ⟨f0, f1, f2, f3⟩⟩ := SP4.cells HR.out HS.out (by rw [hd, ← hds, List.size_toArray]) (a + i) (by rw [← List.size_toArray]; omega)
      obtain ⟨⟨b0, b1, b2, b3⟩, ⟨g0, g1, g2, g3⟩⟩ := SP4.cells HR.out HS.out (by rw [hd, ← hds, List.size_toArray]) (b + i) (by rw [← List.size_toArray]; omega)
      unfold encP at S2
      rw [setCells_four, setCells_four] at S2
      simp only [drew_set] at S2
      generalize (T i).toArray[a + i]! = xa at *
      generalize (T i).toArray[b + i]! = xb at *
      obtain ⟨⟨at0, at1, as2, at3⟩, ac0, ac1, ac2⟩ := xa
      obtain ⟨⟨bt0, bt1, bs2, bt3⟩, bc0, bc1, bc2⟩ := xb
      simp only at a0 a1 a2 a3 b0 b1 b2 b3
      generalize S at0 = ta at *
      generalize S at1 = ia at *
      generalize S bt0 = tb at *
      generalize S bt1 = ib at *
      have ra : IntKind.i64.wrap ((a : Int) + (i : Int)) = (a : Int) + (i : Int) := by rw [IntKind.wrap_i64]; omega
      have rb : IntKind.i64.wrap ((b : Int) + (i : Int)) = (b : Int) + (i : Int) := by rw [IntKind.wrap_i64]; omega
      have ea : ((a : Int) + (i : Int)).toNat = a + i := by omega
      have eb : ((b : Int) + (i : Int)).toNat = b + i := by omega
      have pa : (0 : Int) ≤ (a : Int) + (i : Int) := by omega
      have pb : (0 : Int) ≤ (b : Int) + (i : Int) := by omega
      have qa : (a : Int) + (i : Int) < (N : Int) := by omega
      have qb : (b : Int) + (i : Int) < (N : Int) := by omega
      clear S1 HS hds
      go_wp2_with fail
      go_big_region
      go_wp2
      go_roundg (n - (i + 1))
      case measure => omega
      case rel =>
        exact ⟨i + 1, by go_num, by omega, Nat.le_refl _, S2⟩
    · obtain rfl : i = n := by omega
      go_wp2
      go_end0
      exact ⟨rfl, HS.out⟩
end

section
open Go.RowKit Go.PlainAid Go.Sort
set_option maxHeartbeats 4000000 in
set_option maxRecDepth 100000 in
theorem rotate_any (w0 : World) (blk N cap : Nat) (d0 : Array FU) (hd : d0.size = N) (hN : N ≤ 100000) (R : RowK encP 4 w0 blk 0 d0) (fv : Value) (A X Y C : List FU) (a m b : Nat) (ha : A.length = a) (hm : a + X.length = m) (hb : m + Y.length = b) (hl : b + C.length = N) (hX : 0 < X.length) (hY : 0 < Y.length)
    (w : World) (hS : SP4 w0 blk (A ++ (X ++ (Y ++ C))) w) :
    Calls Tryz.prog 119 #[.slice (some ⟨blk, 0, none⟩) N cap, .int .i64 (a : Int), .int .i64 (m : Int), .int .i64 (b : Int), fv] w fun e w' => e = .returned (.tuple #[]) ∧ SP4 w0 blk (A ++ (Y ++ (X ++ C))) w' := by
  have cS := Lib.hid (fun A P B Q C n a b h1 h2 h3 h4 h5 w h => swapRange_any w0 blk N cap d0 hd hN R fv A P B Q C n a b h1 h2 h3 h4 h5 w h)
  obtain ⟨T, hT⟩ : ∃ T, A ++ (Y ++ (X ++ C)) = T := ⟨_, rfl⟩
  rw [hT]
  -- what is still to be exchanged
  obtain ⟨I, hI⟩ : ∃ I : Nat → Nat → World → Prop, (fun (i j : Nat) (W : World) => ∃ A' U V C' : List FU, U.length = i ∧ V.length = j ∧ A'.length + i = m ∧ m + j + C'.length = N ∧ A' ++ (V ++ (U ++ C')) = T ∧ SP4 w0 blk (A' ++ (U ++ (V ++ C'))) W) = I := ⟨_, rfl⟩
  have h0 : I X.length Y.length w := by rw [← hI]; exact ⟨A, X, Y, C, rfl, rfl, by omega, by omega, hT, hS⟩
  have HGt : RowKit.Hid (∀ i j W, I i j W → 0 < j → j < i → i ≤ m ∧ Calls Tryz.prog 134 #[.slice (some ⟨blk, 0, none⟩) N cap, .int .i64 ((m : Int) - (i : Int)), .int .i64 (m : Int), .int .i64 (j : Int), fv] W fun e w' => e = .returned (.tuple #[]) ∧ I (i - j) j w') := by
    intro i j W h hj hij
    rw [← hI] at h ⊢
    obtain ⟨A', U, V, C', h1, h2, h3, h4, h5, h6⟩ := h
    refine ⟨by omega, ?_⟩
    have hc := cS.out A' (U.take j) (U.drop j) V C' j (m - i) m (by rw [List.length_take]; omega) h2 (by omega) (by rw [List.length_drop]; omega) (by omega) W (by rwa [← List.append_assoc (U.take j), List.take_append_drop])
    rw [show ((m - i : Nat) : Int) = (m : Int) - (i : Int) by omega] at hc
    refine hc.mono fun e w' hh => ⟨hh.1, A' ++ V, U.drop j, U.take j, C', by rw [List.length_drop]; omega, by rw [List.length_take]; omega, by rw [List.length_append]; omega, by omega, ?_, ?_⟩
    · rw [← h5, List.append_assoc, ← List.append_assoc (U.take j), List.take_append_drop]
    · rw [List.append_assoc]; exact hh.2
  have HLt : RowKit.Hid (∀ i j W, I i j W → 0 < i → i < j → i ≤ m ∧ Calls Tryz.prog 134 #[.slice (some ⟨blk, 0, none⟩) N cap, .int .i64 ((m : Int) - (i : Int)), .int .i64 ((m : Int) + (j : Int) - (i : Int)), .int .i64 (i : Int), fv] W fun e w' => e = .returned (.tuple #[]) ∧ I i (j - i) w') := by
    intro i j W h hi hij
    rw [← hI] at h ⊢
    obtain ⟨A', U, V, C', h1, h2, h3, h4, h5, h6⟩ := h
    refine ⟨by omega, ?_⟩
    have hc := cS.out A' U (V.take (j - i)) (V.drop (j - i)) C' i (m - i) (m + j - i) h1 (by rw [List.length_drop]; omega) (by omega) (by rw [List.length_take]; omega) (by omega) W (by rwa [← List.append_assoc (V.take (j - i)), List.take_append_drop])
    rw [show ((m - i : Nat) : Int) = (m : Int) - (i : Int) by omega, show ((m + j - i : Nat) : Int) = (m : Int) + (j : Int) - (i : Int) by omega] at hc
    refine hc.mono fun e w' hh => ⟨hh.1, A', V.drop (j - i), V.take (j - i), U ++ C', by rw [List.length_drop]; omega, by rw [List.length_take]; omega, by omega, by rw [List.length_append]; omega, ?_, hh.2⟩
    rw [← h5, ← List.append_assoc (V.take (j - i)), List.take_append_drop]
  have HEq : RowKit.Hid (∀ i W, I i i W → i ≤ m ∧ Calls Tryz.prog 134 #[.slice (some ⟨blk, 0, none⟩) N cap, .int .i64 ((m : Int) - (i : Int)), .int .i64 (m : Int), .int .i64 (i : Int), fv] W fun e w' => e = .returned (.tuple #[]) ∧ SP4 w0 blk T w') := by
    intro i W h
    rw [← hI] at h
    obtain ⟨A', U, V, C', h1, h2, h3, h4, h5, h6⟩ := h
    refine ⟨by omega, ?_⟩
    have hc := cS.out A' U [] V C' i (m - i) m h1 h2 (by omega) (by rw [List.length_nil]; omega) (by omega) W (by simpa using h6)
    rw [show ((m - i : Nat) : Int) = (m : Int) - (i : Int) by omega] at hc
    refine hc.mono fun e w' hh => ⟨hh.1, ?_⟩
    rw [← h5]
    simpa using hh.2
  have HBnd : RowKit.Hid (∀ i j W, I i j W → i ≤ m ∧ m + j ≤ N) := by
    intro i j W h
    rw [← hI] at h
    obtain ⟨A', U, V, C', h1, h2, h3, h4, h5, h6⟩ := h
    exact ⟨by omega, by omega⟩
  have H0 := Lib.hid h0
  obtain ⟨x, hx⟩ : ∃ x, X.length = x := ⟨_, rfl⟩
  obtain ⟨y, hy⟩ : ∃ y, Y.length = y := ⟨_, rfl⟩
  rw [hx] at hm hX H0
  rw [hy] at hb hY H0
  have hmx : (m : Int) - (a : Int) = (x : Int) := by omega
  have hby : (b : Int) - (m : Int) = (y : Int) := by omega
  have hmN : m + y ≤ N := by omega
  clear hS hT hI h0 hx hy ha hl hd R
  go_enter Tryz.func119, Tryz.ntmps119
  go_wp2
  go_loopw [10, 11] (fun i j wr => ∃ p q : Nat, i = .int .i64 (p : Int) ∧ j = .int .i64 (q : Int) ∧ 0 < p ∧ 0 < q ∧ RowKit.Hid (I p q wr)) (fun i j _ => (intOf i).toNat + (intOf j).toNat)
  case atStart => exact ⟨x, y, rfl, rfl, hX, hY, H0⟩
  case round =>
    obtain ⟨p, q, rfl, rfl, hp, hq, hI⟩ := hrel
    obtain ⟨e1, e2⟩ := HBnd.out p q wr hI.out
    rcases Nat.lt_trichotomy p q with hlt | heq | hgt
    · obtain ⟨hpm, hc⟩ := HLt.out p q wr hI.out hp hlt
      have d1 : ((p : Int) != (q : Int)) = true := by simp; omega
      have d2 : decide ((q : Int) < (p : Int)) = false := decide_eq_false (by omega)
      have d3 : ¬ p = q := by omega
      have d4 : ¬ q < p := by omega
      have HC := Lib.hid hc
      clear hc hI
      go_wp2_with fail
      refine (HC.out).mono ?_
      rintro e w2 ⟨rfl, h2⟩
      go_wp2
      go_roundw
      case rel => exact ⟨p, q - p, rfl, by go_num, hp, by omega, h2⟩
      case measure => simp [intOf]; omega
    · subst heq
      obtain ⟨hpm, hc⟩ := HEq.out p wr hI.out
      have d1 : ((p : Int) != (p : Int)) = false := by simp
      have HC := Lib.hid hc
      clear hc hI
      go_wp2_with fail
      refine (HC.out).mono ?_
      rintro e w2 ⟨rfl, h2⟩
      go_wp2
      go_end0
      exact ⟨rfl, h2⟩
    · obtain ⟨hpm, hc⟩ := HGt.out p q wr hI.out hq hgt
      have d1 : ((p : Int) != (q : Int)) = true := by simp; omega
      have d2 : decide ((q : Int) < (p : Int)) = true := decide_eq_true (by omega)
      have d3 : ¬ p = q := by omega
      have d4 : q < p := by omega
      have HC := Lib.hid hc
      clear hc hI
      go_wp2_with fail
      refine (HC.out).mono ?_
      rintro e w2 ⟨rfl, h2⟩
      go_wp2
      go_roundw
      case rel => exact ⟨p - q, q, by go_num, rfl, by omega, hq, h2⟩
      case measure => simp [intOf]; omega
end

end Go.Proofs.YtcnjjdbpcobolaaGreatDoor
