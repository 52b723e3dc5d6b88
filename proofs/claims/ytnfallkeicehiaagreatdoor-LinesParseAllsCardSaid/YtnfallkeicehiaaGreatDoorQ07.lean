/- Merged: R07G. -/
import Derived.Test.YtnfallkeicehiaaGreatDoorQ03
import Derived.Test.YtnfallkeicehiaaGreatDoorQ06
namespace Go.Proofs.YtnfallkeicehiaaGreatDoor

section
open Go.RowKit Go.PlainAid
def subE (s : Sub) : Int := if codeB s.1 = false then 1 else if s.2 = [] then 8 else if validT s.2 = false then 3 else if 200 < s.2.length then 4 else 0
def firstE : List Sub → Int
  | [] => 0
  | s :: t => if subE s ≠ 0 then subE s else firstE t
def indB (x : UInt8) : Bool := decide (x = 32) || digB x
def indsB (l : List UInt8) : Bool := decide (l.length = 2) && indB (l.getD 0 0) && indB (l.getD 1 0)
def rightI (f : Fld) : Int :=
  if tagB f.tag = false then 6 else if indsB f.ind = false then 3 else if f.subs.length = 0 then 8 else if 16 < f.subs.length then 4
  else if firstE f.subs ≠ 0 then firstE f.subs else if f.auth < 0 ∨ 9999 < f.auth then 2 else 0
theorem firstE_hit : ∀ (L : List Sub) (k : Nat), k < L.length → (∀ j, j < k → subE (L.getD j sub0) = 0) → subE (L.getD k sub0) ≠ 0 → firstE L = subE (L.getD k sub0)
  | [], _, hk, _, _ => by cases hk
  | s :: t, 0, _, _, he => by
    have he : subE s ≠ 0 := he
    rw [firstE, if_pos he]
    rfl
  | s :: t, k + 1, hk, h, he => by
    have h0 : subE s = 0 := h 0 (Nat.succ_pos k)
    rw [firstE, if_neg (fun h => h h0)]
    exact firstE_hit t k (by simpa using hk) (fun j hj => h (j + 1) (by omega)) he
theorem firstE_miss : ∀ (L : List Sub), (∀ j, j < L.length → subE (L.getD j sub0) = 0) → firstE L = 0
  | [], _ => rfl
  | s :: t, h => by
    have h0 : subE s = 0 := h 0 (by simp)
    rw [firstE, if_neg (fun h => h h0)]
    exact firstE_miss t (fun j hj => h (j + 1) (by simpa using hj))

set_option maxHeartbeats 16000000 in
theorem refRight_any (f : Fld) (u : Value) (w : World) (hu : QL u f.subs w) (hz : ∀ i, i < f.subs.length → (f.subs.getD i sub0).2.length ≤ 1000000) (er : Int) (hb : rightI f = er) :
    Calls Tryz.prog 40 #[FV f u] w fun e w' => e = .returned (.int .i64 er) ∧ Below w.heap.size w w' := by
  obtain ⟨a, cap, rfl, hcap, hmax, _, hcell⟩ := hu
  unfold maxLen at hmax
  unfold FV
  unfold rightI at hb
  obtain ⟨n, hn⟩ : ∃ n, f.subs.length = n := ⟨_, rfl⟩
  have HCell := Lib.hid hcell
  have HZ := Lib.hid hz
  rw [hn] at hcap hb ⊢
  have HN := Lib.hid hn
  clear hcell hn hz
  obtain ⟨W0, hW0⟩ : ∃ W0, w.alloc (.cells #[.string (S f.tag), .string (S f.ind), .slice a n cap, .int .i64 f.auth] 44) = W0 := ⟨_, rfl⟩
  have b0 : Below w.heap.size w W0 := by rw [← hW0]; exact (Below.refl w.heap.size w).alloc (Nat.le_refl _) _
  have hlt : w.heap.size < W0.heap.size := by rw [← hW0]; simp
  have k2 : W0.cell? ⟨w.heap.size, 2, none⟩ = some (.slice a n cap) := by rw [← hW0]; simp
  have k3 : W0.cell? ⟨w.heap.size, 3, none⟩ = some (.int .i64 f.auth) := by rw [← hW0]; simp
  have HW0 := Lib.hid hW0
  clear hW0
  cases ht : tagB f.tag
  · have cT := Lib.hid (fun W => refTag_any f.tag false ht W)
    rw [ht, if_pos rfl] at hb
    subst hb
    clear ht
    go_enter Tryz.func40, Tryz.ntmps40
    go_wp2_with fail
    refine (cT.out _).mono ?_
    rintro e w1 ⟨rfl, rfl⟩
    go_wp2
    go_ret
    rw [HW0.out]
    exact ⟨rfl, b0⟩
  have cT := Lib.hid (fun W => refTag_any f.tag true ht W)
  rw [ht, if_neg (fun h => by cases h)] at hb
  clear ht
  have hbt := get_bt (S f.ind)
  have hsi := S_size f.ind
  have q0 := bt_S f.ind 0
  have q1 := bt_S f.ind 1
  have hcase : ∀ x : UInt8, ((((x.toNat : Nat) : Int) != 32) = false ∧ indB x = true) ∨ ((((x.toNat : Nat) : Int) != 32) = true ∧ indB x = digB x) := by
    intro x
    unfold indB
    by_cases h : x = 32
    · exact .inl ⟨by rw [h]; rfl, by rw [decide_eq_true h]; rfl⟩
    · refine .inr ⟨?_, by rw [decide_eq_false h, Bool.false_or]⟩
      have : x.toNat ≠ 32 := fun e => h (UInt8.toNat_inj.1 e)
      simp; omega
  have D0 := Lib.hid (fun W => refdigit_any (f.ind.getD 0 0) _ rfl W)
  have D1 := Lib.hid (fun W => refdigit_any (f.ind.getD 1 0) _ rfl W)
  have p0 := hcase (f.ind.getD 0 0)
  have p1 := hcase (f.ind.getD 1 0)
  rw [← q0] at p0 D0
  rw [← q1] at p1 D1
  clear q0 q1 hcase
  have hib : indsB f.ind = (decide (f.ind.length = 2) && indB (f.ind.getD 0 0) && indB (f.ind.getD 1 0)) := rfl
  rw [hib] at hb
  clear hib
  by_cases h2 : f.ind.length ≠ 2
  · rw [decide_eq_false h2, Bool.false_and, Bool.false_and, if_pos rfl] at hb
    subst hb
    have t1 : (((f.ind.length : Nat) : Int) != 2) = true := by simp; omega
    clear p0 p1 h2
    generalize f.ind.length = il at *
    go_enter Tryz.func40, Tryz.ntmps40
    go_wp2_with fail
    refine (cT.out _).mono ?_
    rintro e w1 ⟨rfl, rfl⟩
    go_wp2
    go_ret
    rw [HW0.out]
    exact ⟨rfl, b0⟩
  have h2 : f.ind.length = 2 := Decidable.not_not.1 h2
  rw [decide_eq_true h2, Bool.true_and] at hb
  rw [h2] at hsi
  clear h2
  generalize indB (f.ind.getD 0 0) = i0 at *
  generalize indB (f.ind.getD 1 0) = i1 at *
  generalize digB (f.ind.getD 0 0) = g0 at *
  generalize digB (f.ind.getD 1 0) = g1 at *
  have hbad : ((i0 && i1) = false) ∨ ((i0 && i1) = true) := by cases (i0 && i1) <;> simp
  rcases hbad with hi | hi
  · rw [hi, if_pos rfl] at hb
    subst hb
    rcases p0 with ⟨p0, rfl⟩ | ⟨p0, rfl⟩ <;> rcases p1 with ⟨p1, rfl⟩ | ⟨p1, rfl⟩
    · cases hi
    · obtain rfl : i1 = false := by simpa using hi
      go_enter Tryz.func40, Tryz.ntmps40
      go_wp2_with fail
      refine (cT.out _).mono ?_
      rintro e w1 ⟨rfl, rfl⟩
      go_wp2_with fail
      refine (D1.out _).mono ?_
      rintro e w1 ⟨rfl, rfl⟩
      go_wp2
      go_ret
      rw [HW0.out]
      exact ⟨rfl, b0⟩
    · cases i0
      · go_enter Tryz.func40, Tryz.ntmps40
        go_wp2_with fail
        refine (cT.out _).mono ?_
        rintro e w1 ⟨rfl, rfl⟩
        go_wp2_with fail
        refine (D0.out _).mono ?_
        rintro e w1 ⟨rfl, rfl⟩
        go_wp2
        go_ret
        rw [HW0.out]
        exact ⟨rfl, b0⟩
      · cases hi
    · cases i0
      · go_enter Tryz.func40, Tryz.ntmps40
        go_wp2_with fail
        refine (cT.out _).mono ?_
        rintro e w1 ⟨rfl, rfl⟩
        go_wp2_with fail
        refine (D0.out _).mono ?_
        rintro e w1 ⟨rfl, rfl⟩
        go_wp2
        go_ret
        rw [HW0.out]
        exact ⟨rfl, b0⟩
      · obtain rfl : i1 = false := by simpa using hi
        go_enter Tryz.func40, Tryz.ntmps40
        go_wp2_with fail
        refine (cT.out _).mono ?_
        rintro e w1 ⟨rfl, rfl⟩
        go_wp2_with fail
        refine (D0.out _).mono ?_
        rintro e w1 ⟨rfl, rfl⟩
        go_wp2_with fail
        refine (D1.out _).mono ?_
        rintro e w1 ⟨rfl, rfl⟩
        go_wp2
        go_ret
        rw [HW0.out]
        exact ⟨rfl, b0⟩
  rw [hi, if_neg (fun h => by cases h)] at hb
  obtain ⟨rfl, rfl⟩ : i0 = true ∧ i1 = true := by simpa using hi
  clear hi
  by_cases hn0 : n = 0
  · rw [if_pos hn0] at hb
    subst hb
    have t2 : ((n : Int) == 0) = true := by rw [hn0]; rfl
    clear hn0
    rcases p0 with ⟨p0, h0⟩ | ⟨p0, h0⟩ <;> rcases p1 with ⟨p1, h1⟩ | ⟨p1, h1⟩
    · clear h0 h1
      go_enter Tryz.func40, Tryz.ntmps40
      go_wp2_with fail
      refine (cT.out _).mono ?_
      rintro e w1 ⟨rfl, rfl⟩
      go_wp2
      go_ret
      rw [HW0.out]
      exact ⟨rfl, b0⟩
    · subst h1
      clear h0
      go_enter Tryz.func40, Tryz.ntmps40
      go_wp2_with fail
      refine (cT.out _).mono ?_
      rintro e w1 ⟨rfl, rfl⟩
      go_wp2_with fail
      refine (D1.out _).mono ?_
      rintro e w1 ⟨rfl, rfl⟩
      go_wp2
      go_ret
      rw [HW0.out]
      exact ⟨rfl, b0⟩
    · subst h0
      clear h1
      go_enter Tryz.func40, Tryz.ntmps40
      go_wp2_with fail
      refine (cT.out _).mono ?_
      rintro e w1 ⟨rfl, rfl⟩
      go_wp2_with fail
      refine (D0.out _).mono ?_
      rintro e w1 ⟨rfl, rfl⟩
      go_wp2
      go_ret
      rw [HW0.out]
      exact ⟨rfl, b0⟩
    · subst h0 h1
      go_enter Tryz.func40, Tryz.ntmps40
      go_wp2_with fail
      refine (cT.out _).mono ?_
      rintro e w1 ⟨rfl, rfl⟩
      go_wp2_with fail
      refine (D0.out _).mono ?_
      rintro e w1 ⟨rfl, rfl⟩
      go_wp2_with fail
      refine (D1.out _).mono ?_
      rintro e w1 ⟨rfl, rfl⟩
      go_wp2
      go_ret
      rw [HW0.out]
      exact ⟨rfl, b0⟩
  have t2 : ((n : Int) == 0) = false := by simp; omega
  rw [if_neg hn0] at hb
  by_cases hn16 : 16 < n
  · rw [if_pos hn16] at hb
    subst hb
    have t3 : decide ((16 : Int) < (n : Int)) = true := by simp; omega
    clear hn16 hn0
    rcases p0 with ⟨p0, h0⟩ | ⟨p0, h0⟩ <;> rcases p1 with ⟨p1, h1⟩ | ⟨p1, h1⟩
    · clear h0 h1
      go_enter Tryz.func40, Tryz.ntmps40
      go_wp2_with fail
      refine (cT.out _).mono ?_
      rintro e w1 ⟨rfl, rfl⟩
      go_wp2
      go_ret
      rw [HW0.out]
      exact ⟨rfl, b0⟩
    · subst h1
      clear h0
      go_enter Tryz.func40, Tryz.ntmps40
      go_wp2_with fail
      refine (cT.out _).mono ?_
      rintro e w1 ⟨rfl, rfl⟩
      go_wp2_with fail
      refine (D1.out _).mono ?_
      rintro e w1 ⟨rfl, rfl⟩
      go_wp2
      go_ret
      rw [HW0.out]
      exact ⟨rfl, b0⟩
    · subst h0
      clear h1
      go_enter Tryz.func40, Tryz.ntmps40
      go_wp2_with fail
      refine (cT.out _).mono ?_
      rintro e w1 ⟨rfl, rfl⟩
      go_wp2_with fail
      refine (D0.out _).mono ?_
      rintro e w1 ⟨rfl, rfl⟩
      go_wp2
      go_ret
      rw [HW0.out]
      exact ⟨rfl, b0⟩
    · subst h0 h1
      go_enter Tryz.func40, Tryz.ntmps40
      go_wp2_with fail
      refine (cT.out _).mono ?_
      rintro e w1 ⟨rfl, rfl⟩
      go_wp2_with fail
      refine (D0.out _).mono ?_
      rintro e w1 ⟨rfl, rfl⟩
      go_wp2_with fail
      refine (D1.out _).mono ?_
      rintro e w1 ⟨rfl, rfl⟩
      go_wp2
      go_ret
      rw [HW0.out]
      exact ⟨rfl, b0⟩
  have t3 : decide ((16 : Int) < (n : Int)) = false := by simp; omega
  rw [if_neg hn16] at hb
  have HB := Lib.hid hb
  clear hb hn0 hn16
  rcases p0 with ⟨p0, h0⟩ | ⟨p0, h0⟩ <;> rcases p1 with ⟨p1, h1⟩ | ⟨p1, h1⟩
  · clear h0 h1
    go_enter Tryz.func40, Tryz.ntmps40
    go_wp2_with fail
    refine (cT.out _).mono ?_
    rintro e w1 ⟨rfl, rfl⟩
    go_wp2
    rw [HW0.out]
    clear p0 p1
    go_loopw [3] (fun i wr => ∃ k : Nat, k ≤ n ∧ i = .int .i64 (k : Int) ∧ RowKit.Hid (∀ j, j < k → subE (f.subs.getD j sub0) = 0) ∧ Below W0.heap.size W0 wr) (fun i _ => n - (intOf i).toNat)
    case atStart => exact ⟨0, Nat.zero_le _, rfl, (fun j hj => by omega), Below.refl _ _⟩
    case round =>
      obtain ⟨k, hk, rfl, HJ, hbw⟩ := hrel
      have j2 := (hbw.cell (p := ⟨w.heap.size, 2, none⟩) hlt).trans k2
      have j3 := (hbw.cell (p := ⟨w.heap.size, 3, none⟩) hlt).trans k3
      by_cases hkn : k < n
      · obtain ⟨g, o, rfl, hg, c1, c2⟩ := HCell.out k (by rw [HN.out]; exact hkn)
        have hg0 : g < W0.heap.size := by omega
        have c1 : wr.cell? ⟨g, o + k * 2, none⟩ = some (.int .u8 ((f.subs.getD k sub0).1.toNat : Int)) := ((hbw.cell (p := ⟨g, o + k * 2, none⟩) hg0).trans (b0.cell (p := ⟨g, o + k * 2, none⟩) hg)).trans c1
        have c2 : wr.cell? ⟨g, o + k * 2 + 1, none⟩ = some (.string (S (f.subs.getD k sub0).2)) := ((hbw.cell (p := ⟨g, o + k * 2 + 1, none⟩) hg0).trans (b0.cell (p := ⟨g, o + k * 2 + 1, none⟩) hg)).trans c2
        have i1 : (0 : Int) ≤ (k : Int) := by omega
        have i2 : (k : Int) < (n : Int) := by omega
        have hsz := hbw.size
        have hx := firstE_hit f.subs k (by rw [HN.out]; exact hkn) HJ.out
        have hval := HZ.out k (by rw [HN.out]; exact hkn)
        have HJ2 : RowKit.Hid (subE (f.subs.getD k sub0) = 0 → ∀ j, j < k + 1 → subE (f.subs.getD j sub0) = 0) := by
          intro h0 j hj
          rcases Nat.lt_or_ge j k with h | h
          · exact HJ.out j h
          · rw [show j = k by omega]; exact h0
        obtain ⟨⟨code, val⟩, hsub⟩ : ∃ z, f.subs.getD k sub0 = z := ⟨_, rfl⟩
        rw [hsub] at c1 c2 hx hval HJ2
        have HX := Lib.hid hx
        have hb1 : Below W0.heap.size W0 (wr.alloc (.cells #[.int .u8 (code.toNat : Int), .string (S val)] 46)) := hbw.alloc hsz _
        have Keep := Lib.hid (fun wx (h : Below (wr.alloc (.cells #[.int .u8 (code.toNat : Int), .string (S val)] 46)).heap.size (wr.alloc (.cells #[.int .u8 (code.toNat : Int), .string (S val)] 46)) wx) => hb1.trans (h.mono hb1.size))
        have Fin := Lib.hid (fun wx (h : Below (wr.alloc (.cells #[.int .u8 (code.toNat : Int), .string (S val)] 46)).heap.size (wr.alloc (.cells #[.int .u8 (code.toNat : Int), .string (S val)] 46)) wx) => b0.trans ((Keep.out wx h).mono b0.size))
        clear hx hsub HJ hbw hb1
        have hE : ((S val).toList == []) = decide (val = []) := by
          rw [ByteArray.toList_eq]
          show (val == []) = _
          cases val with
          | nil => rfl
          | cons y t => simp
        have hE2 : (S val).toList.isEmpty = decide (val = []) := by
          rw [ByteArray.toList_eq]
          show val.isEmpty = _
          cases val with
          | nil => rfl
          | cons y t => simp
        have hvs := S_size val
        cases hc : codeB code
        · have cC := Lib.hid (fun W => refCode_any code false hc W)
          have he : subE (code, val) = 1 := by
            unfold subE
            rw [if_pos hc]
          have hb := HB.out
          rw [HX.out (by rw [he]; decide), he, if_pos (by decide)] at hb
          subst hb
          clear HB HX he HJ2
          go_wp2_with fail
          refine (cC.out _).mono ?_
          rintro e w5 ⟨rfl, rfl⟩
          go_wp2
          go_ret
          exact ⟨rfl, Fin.out _ (Below.refl _ _)⟩
        have cC := Lib.hid (fun W => refCode_any code true hc W)
        by_cases hv0 : val = []
        · rw [decide_eq_true hv0] at hE hE2
          have he : subE (code, val) = 8 := by
            unfold subE
            rw [if_neg (by rw [hc]; decide), if_pos hv0]
          have hb := HB.out
          rw [HX.out (by rw [he]; decide), he, if_pos (by decide)] at hb
          subst hb
          clear HB HX he HJ2 hv0
          go_wp2_with fail
          refine (cC.out _).mono ?_
          rintro e w5 ⟨rfl, rfl⟩
          go_wp2
          go_ret
          exact ⟨rfl, Fin.out _ (Below.refl _ _)⟩
        rw [decide_eq_false hv0] at hE hE2
        cases hvt : validT val
        · have cV := Lib.hid (fun W => refValid_any (S val) (by rw [S_size]; exact hval) W)
          rw [show (S val).data.toList = val from rfl, hvt] at cV
          have he : subE (code, val) = 3 := by
            unfold subE
            rw [if_neg (by rw [hc]; decide), if_neg hv0, if_pos hvt]
          have hb := HB.out
          rw [HX.out (by rw [he]; decide), he, if_pos (by decide)] at hb
          subst hb
          clear HB HX he HJ2
          go_wp2_with fail
          refine (cC.out _).mono ?_
          rintro e w5 ⟨rfl, rfl⟩
          go_wp2_with fail
          have k1 : (wr.alloc (.cells #[.int .u8 (code.toNat : Int), .string (S val)] 46)).cell? ⟨wr.heap.size, 1, none⟩ = some (.string (S val)) := by simp
          have hlx : wr.heap.size < (wr.alloc (.cells #[.int .u8 (code.toNat : Int), .string (S val)] 46)).heap.size := by simp
          refine (cV.out _).mono ?_
          rintro e w6 ⟨rfl, c⟩
          have hfin := Fin.out _ c
          have k1b := (c.cell (p := ⟨wr.heap.size, 1, none⟩) hlx).trans k1
          clear c k1 hlx
          go_wp2
          go_ret
          exact ⟨rfl, hfin⟩
        have cV := Lib.hid (fun W => refValid_any (S val) (by rw [S_size]; exact hval) W)
        rw [show (S val).data.toList = val from rfl, hvt] at cV
        by_cases hlong : 200 < val.length
        · have d1 : decide ((200 : Int) < (val.length : Int)) = true := by simp; omega
          have he : subE (code, val) = 4 := by
            unfold subE
            rw [if_neg (by rw [hc]; decide), if_neg hv0, if_neg (by rw [hvt]; decide), if_pos hlong]
          have hb := HB.out
          rw [HX.out (by rw [he]; decide), he, if_pos (by decide)] at hb
          subst hb
          clear HB HX he HJ2 hlong hval
          go_wp2_with fail
          refine (cC.out _).mono ?_
          rintro e w5 ⟨rfl, rfl⟩
          go_wp2_with fail
          have k1 : (wr.alloc (.cells #[.int .u8 (code.toNat : Int), .string (S val)] 46)).cell? ⟨wr.heap.size, 1, none⟩ = some (.string (S val)) := by simp
          have hlx : wr.heap.size < (wr.alloc (.cells #[.int .u8 (code.toNat : Int), .string (S val)] 46)).heap.size := by simp
          refine (cV.out _).mono ?_
          rintro e w6 ⟨rfl, c⟩
          have hfin := Fin.out _ c
          have k1b := (c.cell (p := ⟨wr.heap.size, 1, none⟩) hlx).trans k1
          clear c k1 hlx
          go_wp2
          go_ret
          exact ⟨rfl, hfin⟩
        have d1 : decide ((200 : Int) < (val.length : Int)) = false := by simp; omega
        have he : subE (code, val) = 0 := by
          unfold subE
          rw [if_neg (by rw [hc]; decide), if_neg hv0, if_neg (by rw [hvt]; decide), if_neg hlong]
        have HJ3 := Lib.hid (HJ2.out he)
        clear HJ2 HX he hlong hval hv0
        go_wp2_with fail
        refine (cC.out _).mono ?_
        rintro e w5 ⟨rfl, rfl⟩
        go_wp2_with fail
        have k1 : (wr.alloc (.cells #[.int .u8 (code.toNat : Int), .string (S val)] 46)).cell? ⟨wr.heap.size, 1, none⟩ = some (.string (S val)) := by simp
        have hlx : wr.heap.size < (wr.alloc (.cells #[.int .u8 (code.toNat : Int), .string (S val)] 46)).heap.size := by simp
        refine (cV.out _).mono ?_
        rintro e w6 ⟨rfl, c⟩
        have hkeep := Keep.out _ c
        have k1b := (c.cell (p := ⟨wr.heap.size, 1, none⟩) hlx).trans k1
        clear c k1 hlx
        go_wp2
        go_roundw
        case rel => exact ⟨k + 1, by omega, by go_num, HJ3.out, hkeep⟩
        case measure => simp [intOf]; omega
      · obtain rfl : k = n := by omega
        have hb := HB.out
        rw [firstE_miss f.subs (fun j hj => HJ.out j (by rw [HN.out] at hj; exact hj)), if_neg (fun h => h rfl)] at hb
        have Fin := Lib.hid (b0.trans (hbw.mono b0.size))
        clear HB HJ hbw
        by_cases ha : f.auth < 0 ∨ 9999 < f.auth
        · rw [if_pos ha] at hb
          subst hb
          by_cases ha0 : f.auth < 0
          · have e1 : decide (f.auth < 0) = true := decide_eq_true ha0
            clear ha ha0
            go_wp2
            go_ret
            exact ⟨rfl, Fin.out⟩
          · have e1 : decide (f.auth < 0) = false := decide_eq_false ha0
            have e2 : decide (9999 < f.auth) = true := decide_eq_true (by omega)
            clear ha ha0
            go_wp2
            go_ret
            exact ⟨rfl, Fin.out⟩
        · rw [if_neg ha] at hb
          subst hb
          have e1 : decide (f.auth < 0) = false := decide_eq_false (fun h => ha (.inl h))
          have e2 : decide (9999 < f.auth) = false := decide_eq_false (fun h => ha (.inr h))
          clear ha
          go_wp2
          go_ret
          exact ⟨rfl, Fin.out⟩
  · subst h1
    clear h0
    go_enter Tryz.func40, Tryz.ntmps40
    go_wp2_with fail
    refine (cT.out _).mono ?_
    rintro e w1 ⟨rfl, rfl⟩
    go_wp2_with fail
    refine (D1.out _).mono ?_
    rintro e w1 ⟨rfl, rfl⟩
    go_wp2
    rw [HW0.out]
    clear p0 p1
    go_loopw [3] (fun i wr => ∃ k : Nat, k ≤ n ∧ i = .int .i64 (k : Int) ∧ RowKit.Hid (∀ j, j < k → subE (f.subs.getD j sub0) = 0) ∧ Below W0.heap.size W0 wr) (fun i _ => n - (intOf i).toNat)
    case atStart => exact ⟨0, Nat.zero_le _, rfl, (fun j hj => by omega), Below.refl _ _⟩
    case round =>
      obtain ⟨k, hk, rfl, HJ, hbw⟩ := hrel
      have j2 := (hbw.cell (p := ⟨w.heap.size, 2, none⟩) hlt).trans k2
      have j3 := (hbw.cell (p := ⟨w.heap.size, 3, none⟩) hlt).trans k3
      by_cases hkn : k < n
      · obtain ⟨g, o, rfl, hg, c1, c2⟩ := HCell.out k (by rw [HN.out]; exact hkn)
        have hg0 : g < W0.heap.size := by omega
        have c1 : wr.cell? ⟨g, o + k * 2, none⟩ = some (.int .u8 ((f.subs.getD k sub0).1.toNat : Int)) := ((hbw.cell (p := ⟨g, o + k * 2, none⟩) hg0).trans (b0.cell (p := ⟨g, o + k * 2, none⟩) hg)).trans c1
        have c2 : wr.cell? ⟨g, o + k * 2 + 1, none⟩ = some (.string (S (f.subs.getD k sub0).2)) := ((hbw.cell (p := ⟨g, o + k * 2 + 1, none⟩) hg0).trans (b0.cell (p := ⟨g, o + k * 2 + 1, none⟩) hg)).trans c2
        have i1 : (0 : Int) ≤ (k : Int) := by omega
        have i2 : (k : Int) < (n : Int) := by omega
        have hsz := hbw.size
        have hx := firstE_hit f.subs k (by rw [HN.out]; exact hkn) HJ.out
        have hval := HZ.out k (by rw [HN.out]; exact hkn)
        have HJ2 : RowKit.Hid (subE (f.subs.getD k sub0) = 0 → ∀ j, j < k + 1 → subE (f.subs.getD j sub0) = 0) := by
          intro h0 j hj
          rcases Nat.lt_or_ge j k with h | h
          · exact HJ.out j h
          · rw [show j = k by omega]; exact h0
        obtain ⟨⟨code, val⟩, hsub⟩ : ∃ z, f.subs.getD k sub0 = z := ⟨_, rfl⟩
        rw [hsub] at c1 c2 hx hval HJ2
        have HX := Lib.hid hx
        have hb1 : Below W0.heap.size W0 (wr.alloc (.cells #[.int .u8 (code.toNat : Int), .string (S val)] 46)) := hbw.alloc hsz _
        have Keep := Lib.hid (fun wx (h : Below (wr.alloc (.cells #[.int .u8 (code.toNat : Int), .string (S val)] 46)).heap.size (wr.alloc (.cells #[.int .u8 (code.toNat : Int), .string (S val)] 46)) wx) => hb1.trans (h.mono hb1.size))
        have Fin := Lib.hid (fun wx (h : Below (wr.alloc (.cells #[.int .u8 (code.toNat : Int), .string (S val)] 46)).heap.size (wr.alloc (.cells #[.int .u8 (code.toNat : Int), .string (S val)] 46)) wx) => b0.trans ((Keep.out wx h).mono b0.size))
        clear hx hsub HJ hbw hb1
        have hE : ((S val).toList == []) = decide (val = []) := by
          rw [ByteArray.toList_eq]
          show (val == []) = _
          cases val with
          | nil => rfl
          | cons y t => simp
        have hE2 : (S val).toList.isEmpty = decide (val = []) := by
          rw [ByteArray.toList_eq]
          show val.isEmpty = _
          cases val with
          | nil => rfl
          | cons y t => simp
        have hvs := S_size val
        cases hc : codeB code
        · have cC := Lib.hid (fun W => refCode_any code false hc W)
          have he : subE (code, val) = 1 := by
            unfold subE
            rw [if_pos hc]
          have hb := HB.out
          rw [HX.out (by rw [he]; decide), he, if_pos (by decide)] at hb
          subst hb
          clear HB HX he HJ2
          go_wp2_with fail
          refine (cC.out _).mono ?_
          rintro e w5 ⟨rfl, rfl⟩
          go_wp2
          go_ret
          exact ⟨rfl, Fin.out _ (Below.refl _ _)⟩
        have cC := Lib.hid (fun W => refCode_any code true hc W)
        by_cases hv0 : val = []
        · rw [decide_eq_true hv0] at hE hE2
          have he : subE (code, val) = 8 := by
            unfold subE
            rw [if_neg (by rw [hc]; decide), if_pos hv0]
          have hb := HB.out
          rw [HX.out (by rw [he]; decide), he, if_pos (by decide)] at hb
          subst hb
          clear HB HX he HJ2 hv0
          go_wp2_with fail
          refine (cC.out _).mono ?_
          rintro e w5 ⟨rfl, rfl⟩
          go_wp2
          go_ret
          exact ⟨rfl, Fin.out _ (Below.refl _ _)⟩
        rw [decide_eq_false hv0] at hE hE2
        cases hvt : validT val
        · have cV := Lib.hid (fun W => refValid_any (S val) (by rw [S_size]; exact hval) W)
          rw [show (S val).data.toList = val from rfl, hvt] at cV
          have he : subE (code, val) = 3 := by
            unfold subE
            rw [if_neg (by rw [hc]; decide), if_neg hv0, if_pos hvt]
          have hb := HB.out
          rw [HX.out (by rw [he]; decide), he, if_pos (by decide)] at hb
          subst hb
          clear HB HX he HJ2
          go_wp2_with fail
          refine (cC.out _).mono ?_
          rintro e w5 ⟨rfl, rfl⟩
          go_wp2_with fail
          have k1 : (wr.alloc (.cells #[.int .u8 (code.toNat : Int), .string (S val)] 46)).cell? ⟨wr.heap.size, 1, none⟩ = some (.string (S val)) := by simp
          have hlx : wr.heap.size < (wr.alloc (.cells #[.int .u8 (code.toNat : Int), .string (S val)] 46)).heap.size := by simp
          refine (cV.out _).mono ?_
          rintro e w6 ⟨rfl, c⟩
          have hfin := Fin.out _ c
          have k1b := (c.cell (p := ⟨wr.heap.size, 1, none⟩) hlx).trans k1
          clear c k1 hlx
          go_wp2
          go_ret
          exact ⟨rfl, hfin⟩
        have cV := Lib.hid (fun W => refValid_any (S val) (by rw [S_size]; exact hval) W)
        rw [show (S val).data.toList = val from rfl, hvt] at cV
        by_cases hlong : 200 < val.length
        · have d1 : decide ((200 : Int) < (val.length : Int)) = true := by simp; omega
          have he : subE (code, val) = 4 := by
            unfold subE
            rw [if_neg (by rw [hc]; decide), if_neg hv0, if_neg (by rw [hvt]; decide), if_pos hlong]
          have hb := HB.out
          rw [HX.out (by rw [he]; decide), he, if_pos (by decide)] at hb
          subst hb
          clear HB HX he HJ2 hlong hval
          go_wp2_with fail
          refine (cC.out _).mono ?_
          rintro e w5 ⟨rfl, rfl⟩
          go_wp2_with fail
          have k1 : (wr.alloc (.cells #[.int .u8 (code.toNat : Int), .string (S val)] 46)).cell? ⟨wr.heap.size, 1, none⟩ = some (.string (S val)) := by simp
          have hlx : wr.heap.size < (wr.alloc (.cells #[.int .u8 (code.toNat : Int), .string (S val)] 46)).heap.size := by simp
          refine (cV.out _).mono ?_
          rintro e w6 ⟨rfl, c⟩
          have hfin := Fin.out _ c
          have k1b := (c.cell (p := ⟨wr.heap.size, 1, none⟩) hlx).trans k1
          clear c k1 hlx
          go_wp2
          go_ret
          exact ⟨rfl, hfin⟩
        have d1 : decide ((200 : Int) < (val.length : Int)) = false := by simp; omega
        have he : subE (code, val) = 0 := by
          unfold subE
          rw [if_neg (by rw [hc]; decide), if_neg hv0, if_neg (by rw [hvt]; decide), if_neg hlong]
        have HJ3 := Lib.hid (HJ2.out he)
        clear HJ2 HX he hlong hval hv0
        go_wp2_with fail
        refine (cC.out _).mono ?_
        rintro e w5 ⟨rfl, rfl⟩
        go_wp2_with fail
        have k1 : (wr.alloc (.cells #[.int .u8 (code.toNat : Int), .string (S val)] 46)).cell? ⟨wr.heap.size, 1, none⟩ = some (.string (S val)) := by simp
        have hlx : wr.heap.size < (wr.alloc (.cells #[.int .u8 (code.toNat : Int), .string (S val)] 46)).heap.size := by simp
        refine (cV.out _).mono ?_
        rintro e w6 ⟨rfl, c⟩
        have hkeep := Keep.out _ c
        have k1b := (c.cell (p := ⟨wr.heap.size, 1, none⟩) hlx).trans k1
        clear c k1 hlx
        go_wp2
        go_roundw
        case rel => exact ⟨k + 1, by omega, by go_num, HJ3.out, hkeep⟩
        case measure => simp [intOf]; omega
      · obtain rfl : k = n := by omega
        have hb := HB.out
        rw [firstE_miss f.subs (fun j hj => HJ.out j (by rw [HN.out] at hj; exact hj)), if_neg (fun h => h rfl)] at hb
        have Fin := Lib.hid (b0.trans (hbw.mono b0.size))
        clear HB HJ hbw
        by_cases ha : f.auth < 0 ∨ 9999 < f.auth
        · rw [if_pos ha] at hb
          subst hb
          by_cases ha0 : f.auth < 0
          · have e1 : decide (f.auth < 0) = true := decide_eq_true ha0
            clear ha ha0
            go_wp2
            go_ret
            exact ⟨rfl, Fin.out⟩
          · have e1 : decide (f.auth < 0) = false := decide_eq_false ha0
            have e2 : decide (9999 < f.auth) = true := decide_eq_true (by omega)
            clear ha ha0
            go_wp2
            go_ret
            exact ⟨rfl, Fin.out⟩
        · rw [if_neg ha] at hb
          subst hb
          have e1 : decide (f.auth < 0) = false := decide_eq_false (fun h => ha (.inl h))
          have e2 : decide (9999 < f.auth) = false := decide_eq_false (fun h => ha (.inr h))
          clear ha
          go_wp2
          go_ret
          exact ⟨rfl, Fin.out⟩
  · subst h0
    clear h1
    go_enter Tryz.func40, Tryz.ntmps40
    go_wp2_with fail
    refine (cT.out _).mono ?_
    rintro e w1 ⟨rfl, rfl⟩
    go_wp2_with fail
    refine (D0.out _).mono ?_
    rintro e w1 ⟨rfl, rfl⟩
    go_wp2
    rw [HW0.out]
    clear p0 p1
    go_loopw [3] (fun i wr => ∃ k : Nat, k ≤ n ∧ i = .int .i64 (k : Int) ∧ RowKit.Hid (∀ j, j < k → subE (f.subs.getD j sub0) = 0) ∧ Below W0.heap.size W0 wr) (fun i _ => n - (intOf i).toNat)
    case atStart => exact ⟨0, Nat.zero_le _, rfl, (fun j hj => by omega), Below.refl _ _⟩
    case round =>
      obtain ⟨k, hk, rfl, HJ, hbw⟩ := hrel
      have j2 := (hbw.cell (p := ⟨w.heap.size, 2, none⟩) hlt).trans k2
      have j3 := (hbw.cell (p := ⟨w.heap.size, 3, none⟩) hlt).trans k3
      by_cases hkn : k < n
      · obtain ⟨g, o, rfl, hg, c1, c2⟩ := HCell.out k (by rw [HN.out]; exact hkn)
        have hg0 : g < W0.heap.size := by omega
        have c1 : wr.cell? ⟨g, o + k * 2, none⟩ = some (.int .u8 ((f.subs.getD k sub0).1.toNat : Int)) := ((hbw.cell (p := ⟨g, o + k * 2, none⟩) hg0).trans (b0.cell (p := ⟨g, o + k * 2, none⟩) hg)).trans c1
        have c2 : wr.cell? ⟨g, o + k * 2 + 1, none⟩ = some (.string (S (f.subs.getD k sub0).2)) := ((hbw.cell (p := ⟨g, o + k * 2 + 1, none⟩) hg0).trans (b0.cell (p := ⟨g, o + k * 2 + 1, none⟩) hg)).trans c2
        have i1 : (0 : Int) ≤ (k : Int) := by omega
        have i2 : (k : Int) < (n : Int) := by omega
        have hsz := hbw.size
        have hx := firstE_hit f.subs k (by rw [HN.out]; exact hkn) HJ.out
        have hval := HZ.out k (by rw [HN.out]; exact hkn)
        have HJ2 : RowKit.Hid (subE (f.subs.getD k sub0) = 0 → ∀ j, j < k + 1 → subE (f.subs.getD j sub0) = 0) := by
          intro h0 j hj
          rcases Nat.lt_or_ge j k with h | h
          · exact HJ.out j h
          · rw [show j = k by omega]; exact h0
        obtain ⟨⟨code, val⟩, hsub⟩ : ∃ z, f.subs.getD k sub0 = z := ⟨_, rfl⟩
        rw [hsub] at c1 c2 hx hval HJ2
        have HX := Lib.hid hx
        have hb1 : Below W0.heap.size W0 (wr.alloc (.cells #[.int .u8 (code.toNat : Int), .string (S val)] 46)) := hbw.alloc hsz _
        have Keep := Lib.hid (fun wx (h : Below (wr.alloc (.cells #[.int .u8 (code.toNat : Int), .string (S val)] 46)).heap.size (wr.alloc (.cells #[.int .u8 (code.toNat : Int), .string (S val)] 46)) wx) => hb1.trans (h.mono hb1.size))
        have Fin := Lib.hid (fun wx (h : Below (wr.alloc (.cells #[.int .u8 (code.toNat : Int), .string (S val)] 46)).heap.size (wr.alloc (.cells #[.int .u8 (code.toNat : Int), .string (S val)] 46)) wx) => b0.trans ((Keep.out wx h).mono b0.size))
        clear hx hsub HJ hbw hb1
        have hE : ((S val).toList == []) = decide (val = []) := by
          rw [ByteArray.toList_eq]
          show (val == []) = _
          cases val with
          | nil => rfl
          | cons y t => simp
        have hE2 : (S val).toList.isEmpty = decide (val = []) := by
          rw [ByteArray.toList_eq]
          show val.isEmpty = _
          cases val with
          | nil => rfl
          | cons y t => simp
        have hvs := S_size val
        cases hc : codeB code
        · have cC := Lib.hid (fun W => refCode_any code false hc W)
          have he : subE (code, val) = 1 := by
            unfold subE
            rw [if_pos hc]
          have hb := HB.out
          rw [HX.out (by rw [he]; decide), he, if_pos (by decide)] at hb
          subst hb
          clear HB HX he HJ2
          go_wp2_with fail
          refine (cC.out _).mono ?_
          rintro e w5 ⟨rfl, rfl⟩
          go_wp2
          go_ret
          exact ⟨rfl, Fin.out _ (Below.refl _ _)⟩
        have cC := Lib.hid (fun W => refCode_any code true hc W)
        by_cases hv0 : val = []
        · rw [decide_eq_true hv0] at hE hE2
          have he : subE (code, val) = 8 := by
            unfold subE
            rw [if_neg (by rw [hc]; decide), if_pos hv0]
          have hb := HB.out
          rw [HX.out (by rw [he]; decide), he, if_pos (by decide)] at hb
          subst hb
          clear HB HX he HJ2 hv0
          go_wp2_with fail
          refine (cC.out _).mono ?_
          rintro e w5 ⟨rfl, rfl⟩
          go_wp2
          go_ret
          exact ⟨rfl, Fin.out _ (Below.refl _ _)⟩
        rw [decide_eq_false hv0] at hE hE2
        cases hvt : validT val
        · have cV := Lib.hid (fun W => refValid_any (S val) (by rw [S_size]; exact hval) W)
          rw [show (S val).data.toList = val from rfl, hvt] at cV
          have he : subE (code, val) = 3 := by
            unfold subE
            rw [if_neg (by rw [hc]; decide), if_neg hv0, if_pos hvt]
          have hb := HB.out
          rw [HX.out (by rw [he]; decide), he, if_pos (by decide)] at hb
          subst hb
          clear HB HX he HJ2
          go_wp2_with fail
          refine (cC.out _).mono ?_
          rintro e w5 ⟨rfl, rfl⟩
          go_wp2_with fail
          have k1 : (wr.alloc (.cells #[.int .u8 (code.toNat : Int), .string (S val)] 46)).cell? ⟨wr.heap.size, 1, none⟩ = some (.string (S val)) := by simp
          have hlx : wr.heap.size < (wr.alloc (.cells #[.int .u8 (code.toNat : Int), .string (S val)] 46)).heap.size := by simp
          refine (cV.out _).mono ?_
          rintro e w6 ⟨rfl, c⟩
          have hfin := Fin.out _ c
          have k1b := (c.cell (p := ⟨wr.heap.size, 1, none⟩) hlx).trans k1
          clear c k1 hlx
          go_wp2
          go_ret
          exact ⟨rfl, hfin⟩
        have cV := Lib.hid (fun W => refValid_any (S val) (by rw [S_size]; exact hval) W)
        rw [show (S val).data.toList = val from rfl, hvt] at cV
        by_cases hlong : 200 < val.length
        · have d1 : decide ((200 : Int) < (val.length : Int)) = true := by simp; omega
          have he : subE (code, val) = 4 := by
            unfold subE
            rw [if_neg (by rw [hc]; decide), if_neg hv0, if_neg (by rw [hvt]; decide), if_pos hlong]
          have hb := HB.out
          rw [HX.out (by rw [he]; decide), he, if_pos (by decide)] at hb
          subst hb
          clear HB HX he HJ2 hlong hval
          go_wp2_with fail
          refine (cC.out _).mono ?_
          rintro e w5 ⟨rfl, rfl⟩
          go_wp2_with fail
          have k1 : (wr.alloc (.cells #[.int .u8 (code.toNat : Int), .string (S val)] 46)).cell? ⟨wr.heap.size, 1, none⟩ = some (.string (S val)) := by simp
          have hlx : wr.heap.size < (wr.alloc (.cells #[.int .u8 (code.toNat : Int), .string (S val)] 46)).heap.size := by simp
          refine (cV.out _).mono ?_
          rintro e w6 ⟨rfl, c⟩
          have hfin := Fin.out _ c
          have k1b := (c.cell (p := ⟨wr.heap.size, 1, none⟩) hlx).trans k1
          clear c k1 hlx
          go_wp2
          go_ret
          exact ⟨rfl, hfin⟩
        have d1 : decide ((200 : Int) < (val.length : Int)) = false := by simp; omega
        have he : subE (code, val) = 0 := by
          unfold subE
          rw [if_neg (by rw [hc]; decide), if_neg hv0, if_neg (by rw [hvt]; decide), if_neg hlong]
        have HJ3 := Lib.hid (HJ2.out he)
        clear HJ2 HX he hlong hval hv0
        go_wp2_with fail
        refine (cC.out _).mono ?_
        rintro e w5 ⟨rfl, rfl⟩
        go_wp2_with fail
        have k1 : (wr.alloc (.cells #[.int .u8 (code.toNat : Int), .string (S val)] 46)).cell? ⟨wr.heap.size, 1, none⟩ = some (.string (S val)) := by simp
        have hlx : wr.heap.size < (wr.alloc (.cells #[.int .u8 (code.toNat : Int), .string (S val)] 46)).heap.size := by simp
        refine (cV.out _).mono ?_
        rintro e w6 ⟨rfl, c⟩
        have hkeep := Keep.out _ c
        have k1b := (c.cell (p := ⟨wr.heap.size, 1, none⟩) hlx).trans k1
        clear c k1 hlx
        go_wp2
        go_roundw
        case rel => exact ⟨k + 1, by omega, by go_num, HJ3.out, hkeep⟩
        case measure => simp [intOf]; omega
      · obtain rfl : k = n := by omega
        have hb := HB.out
        rw [firstE_miss f.subs (fun j hj => HJ.out j (by rw [HN.out] at hj; exact hj)), if_neg (fun h => h rfl)] at hb
        have Fin := Lib.hid (b0.trans (hbw.mono b0.size))
        clear HB HJ hbw
        by_cases ha : f.auth < 0 ∨ 9999 < f.auth
        · rw [if_pos ha] at hb
          subst hb
          by_cases ha0 : f.auth < 0
          · have e1 : decide (f.auth < 0) = true := decide_eq_true ha0
            clear ha ha0
            go_wp2
            go_ret
            exact ⟨rfl, Fin.out⟩
          · have e1 : decide (f.auth < 0) = false := decide_eq_false ha0
            have e2 : decide (9999 < f.auth) = true := decide_eq_true (by omega)
            clear ha ha0
            go_wp2
            go_ret
            exact ⟨rfl, Fin.out⟩
        · rw [if_neg ha] at hb
          subst hb
          have e1 : decide (f.auth < 0) = false := decide_eq_false (fun h => ha (.inl h))
          have e2 : decide (9999 < f.auth) = false := decide_eq_false (fun h => ha (.inr h))
          clear ha
          go_wp2
          go_ret
          exact ⟨rfl, Fin.out⟩
  · subst h0 h1
    go_enter Tryz.func40, Tryz.ntmps40
    go_wp2_with fail
    refine (cT.out _).mono ?_
    rintro e w1 ⟨rfl, rfl⟩
    go_wp2_with fail
    refine (D0.out _).mono ?_
    rintro e w1 ⟨rfl, rfl⟩
    go_wp2_with fail
    refine (D1.out _).mono ?_
    rintro e w1 ⟨rfl, rfl⟩
    go_wp2
    rw [HW0.out]
    clear p0 p1
    go_loopw [3] (fun i wr => ∃ k : Nat, k ≤ n ∧ i = .int .i64 (k : Int) ∧ RowKit.Hid (∀ j, j < k → subE (f.subs.getD j sub0) = 0) ∧ Below W0.heap.size W0 wr) (fun i _ => n - (intOf i).toNat)
    case atStart => exact ⟨0, Nat.zero_le _, rfl, (fun j hj => by omega), Below.refl _ _⟩
    case round =>
      obtain ⟨k, hk, rfl, HJ, hbw⟩ := hrel
      have j2 := (hbw.cell (p := ⟨w.heap.size, 2, none⟩) hlt).trans k2
      have j3 := (hbw.cell (p := ⟨w.heap.size, 3, none⟩) hlt).trans k3
      by_cases hkn : k < n
      · obtain ⟨g, o, rfl, hg, c1, c2⟩ := HCell.out k (by rw [HN.out]; exact hkn)
        have hg0 : g < W0.heap.size := by omega
        have c1 : wr.cell? ⟨g, o + k * 2, none⟩ = some (.int .u8 ((f.subs.getD k sub0).1.toNat : Int)) := ((hbw.cell (p := ⟨g, o + k * 2, none⟩) hg0).trans (b0.cell (p := ⟨g, o + k * 2, none⟩) hg)).trans c1
        have c2 : wr.cell? ⟨g, o + k * 2 + 1, none⟩ = some (.string (S (f.subs.getD k sub0).2)) := ((hbw.cell (p := ⟨g, o + k * 2 + 1, none⟩) hg0).trans (b0.cell (p := ⟨g, o + k * 2 + 1, none⟩) hg)).trans c2
        have i1 : (0 : Int) ≤ (k : Int) := by omega
        have i2 : (k : Int) < (n : Int) := by omega
        have hsz := hbw.size
        have hx := firstE_hit f.subs k (by rw [HN.out]; exact hkn) HJ.out
        have hval := HZ.out k (by rw [HN.out]; exact hkn)
        have HJ2 : RowKit.Hid (subE (f.subs.getD k sub0) = 0 → ∀ j, j < k + 1 → subE (f.subs.getD j sub0) = 0) := by
          intro h0 j hj
          rcases Nat.lt_or_ge j k with h | h
          · exact HJ.out j h
          · rw [show j = k by omega]; exact h0
        obtain ⟨⟨code, val⟩, hsub⟩ : ∃ z, f.subs.getD k sub0 = z := ⟨_, rfl⟩
        rw [hsub] at c1 c2 hx hval HJ2
        have HX := Lib.hid hx
        have hb1 : Below W0.heap.size W0 (wr.alloc (.cells #[.int .u8 (code.toNat : Int), .string (S val)] 46)) := hbw.alloc hsz _
        have Keep := Lib.hid (fun wx (h : Below (wr.alloc (.cells #[.int .u8 (code.toNat : Int), .string (S val)] 46)).heap.size (wr.alloc (.cells #[.int .u8 (code.toNat : Int), .string (S val)] 46)) wx) => hb1.trans (h.mono hb1.size))
        have Fin := Lib.hid (fun wx (h : Below (wr.alloc (.cells #[.int .u8 (code.toNat : Int), .string (S val)] 46)).heap.size (wr.alloc (.cells #[.int .u8 (code.toNat : Int), .string (S val)] 46)) wx) => b0.trans ((Keep.out wx h).mono b0.size))
        clear hx hsub HJ hbw hb1
        have hE : ((S val).toList == []) = decide (val = []) := by
          rw [ByteArray.toList_eq]
          show (val == []) = _
          cases val with
          | nil => rfl
          | cons y t => simp
        have hE2 : (S val).toList.isEmpty = decide (val = []) := by
          rw [ByteArray.toList_eq]
          show val.isEmpty = _
          cases val with
          | nil => rfl
          | cons y t => simp
        have hvs := S_size val
        cases hc : codeB code
        · have cC := Lib.hid (fun W => refCode_any code false hc W)
          have he : subE (code, val) = 1 := by
            unfold subE
            rw [if_pos hc]
          have hb := HB.out
          rw [HX.out (by rw [he]; decide), he, if_pos (by decide)] at hb
          subst hb
          clear HB HX he HJ2
          go_wp2_with fail
          refine (cC.out _).mono ?_
          rintro e w5 ⟨rfl, rfl⟩
          go_wp2
          go_ret
          exact ⟨rfl, Fin.out _ (Below.refl _ _)⟩
        have cC := Lib.hid (fun W => refCode_any code true hc W)
        by_cases hv0 : val = []
        · rw [decide_eq_true hv0] at hE hE2
          have he : subE (code, val) = 8 := by
            unfold subE
            rw [if_neg (by rw [hc]; decide), if_pos hv0]
          have hb := HB.out
          rw [HX.out (by rw [he]; decide), he, if_pos (by decide)] at hb
          subst hb
          clear HB HX he HJ2 hv0
          go_wp2_with fail
          refine (cC.out _).mono ?_
          rintro e w5 ⟨rfl, rfl⟩
          go_wp2
          go_ret
          exact ⟨rfl, Fin.out _ (Below.refl _ _)⟩
        rw [decide_eq_false hv0] at hE hE2
        cases hvt : validT val
        · have cV := Lib.hid (fun W => refValid_any (S val) (by rw [S_size]; exact hval) W)
          rw [show (S val).data.toList = val from rfl, hvt] at cV
          have he : subE (code, val) = 3 := by
            unfold subE
            rw [if_neg (by rw [hc]; decide), if_neg hv0, if_pos hvt]
          have hb := HB.out
          rw [HX.out (by rw [he]; decide), he, if_pos (by decide)] at hb
          subst hb
          clear HB HX he HJ2
          go_wp2_with fail
          refine (cC.out _).mono ?_
          rintro e w5 ⟨rfl, rfl⟩
          go_wp2_with fail
          have k1 : (wr.alloc (.cells #[.int .u8 (code.toNat : Int), .string (S val)] 46)).cell? ⟨wr.heap.size, 1, none⟩ = some (.string (S val)) := by simp
          have hlx : wr.heap.size < (wr.alloc (.cells #[.int .u8 (code.toNat : Int), .string (S val)] 46)).heap.size := by simp
          refine (cV.out _).mono ?_
          rintro e w6 ⟨rfl, c⟩
          have hfin := Fin.out _ c
          have k1b := (c.cell (p := ⟨wr.heap.size, 1, none⟩) hlx).trans k1
          clear c k1 hlx
          go_wp2
          go_ret
          exact ⟨rfl, hfin⟩
        have cV := Lib.hid (fun W => refValid_any (S val) (by rw [S_size]; exact hval) W)
        rw [show (S val).data.toList = val from rfl, hvt] at cV
        by_cases hlong : 200 < val.length
        · have d1 : decide ((200 : Int) < (val.length : Int)) = true := by simp; omega
          have he : subE (code, val) = 4 := by
            unfold subE
            rw [if_neg (by rw [hc]; decide), if_neg hv0, if_neg (by rw [hvt]; decide), if_pos hlong]
          have hb := HB.out
          rw [HX.out (by rw [he]; decide), he, if_pos (by decide)] at hb
          subst hb
          clear HB HX he HJ2 hlong hval
          go_wp2_with fail
          refine (cC.out _).mono ?_
          rintro e w5 ⟨rfl, rfl⟩
          go_wp2_with fail
          have k1 : (wr.alloc (.cells #[.int .u8 (code.toNat : Int), .string (S val)] 46)).cell? ⟨wr.heap.size, 1, none⟩ = some (.string (S val)) := by simp
          have hlx : wr.heap.size < (wr.alloc (.cells #[.int .u8 (code.toNat : Int), .string (S val)] 46)).heap.size := by simp
          refine (cV.out _).mono ?_
          rintro e w6 ⟨rfl, c⟩
          have hfin := Fin.out _ c
          have k1b := (c.cell (p := ⟨wr.heap.size, 1, none⟩) hlx).trans k1
          clear c k1 hlx
          go_wp2
          go_ret
          exact ⟨rfl, hfin⟩
        have d1 : decide ((200 : Int) < (val.length : Int)) = false := by simp; omega
        have he : subE (code, val) = 0 := by
          unfold subE
          rw [if_neg (by rw [hc]; decide), if_neg hv0, if_neg (by rw [hvt]; decide), if_neg hlong]
        have HJ3 := Lib.hid (HJ2.out he)
        clear HJ2 HX he hlong hval hv0
        go_wp2_with fail
        refine (cC.out _).mono ?_
        rintro e w5 ⟨rfl, rfl⟩
        go_wp2_with fail
        have k1 : (wr.alloc (.cells #[.int .u8 (code.toNat : Int), .string (S val)] 46)).cell? ⟨wr.heap.size, 1, none⟩ = some (.string (S val)) := by simp
        have hlx : wr.heap.size < (wr.alloc (.cells #[.int .u8 (code.toNat : Int), .string (S val)] 46)).heap.size := by simp
        refine (cV.out _).mono ?_
        rintro e w6 ⟨rfl, c⟩
        have hkeep := Keep.out _ c
        have k1b := (c.cell (p := ⟨wr.heap.size, 1, none⟩) hlx).trans k1
        clear c k1 hlx
        go_wp2
        go_roundw
        case rel => exact ⟨k + 1, by omega, by go_num, HJ3.out, hkeep⟩
        case measure => simp [intOf]; omega
      · obtain rfl : k = n := by omega
        have hb := HB.out
        rw [firstE_miss f.subs (fun j hj => HJ.out j (by rw [HN.out] at hj; exact hj)), if_neg (fun h => h rfl)] at hb
        have Fin := Lib.hid (b0.trans (hbw.mono b0.size))
        clear HB HJ hbw
        by_cases ha : f.auth < 0 ∨ 9999 < f.auth
        · rw [if_pos ha] at hb
          subst hb
          by_cases ha0 : f.auth < 0
          · have e1 : decide (f.auth < 0) = true := decide_eq_true ha0
            clear ha ha0
            go_wp2
            go_ret
            exact ⟨rfl, Fin.out⟩
          · have e1 : decide (f.auth < 0) = false := decide_eq_false ha0
            have e2 : decide (9999 < f.auth) = true := decide_eq_true (by omega)
            clear ha ha0
            go_wp2
            go_ret
            exact ⟨rfl, Fin.out⟩
        · rw [if_neg ha] at hb
          subst hb
          have e1 : decide (f.auth < 0) = false := decide_eq_false (fun h => ha (.inl h))
          have e2 : decide (9999 < f.auth) = false := decide_eq_false (fun h => ha (.inr h))
          clear ha
          go_wp2
          go_ret
          exact ⟨rfl, Fin.out⟩
end

end Go.Proofs.YtnfallkeicehiaaGreatDoor
