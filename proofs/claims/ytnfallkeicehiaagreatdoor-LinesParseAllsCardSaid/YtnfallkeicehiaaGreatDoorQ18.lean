/- Merged: R07O, R07P0, R07P. -/
import Derived.Test.YtnfallkeicehiaaGreatDoorQ17
import Derived.Test.YtnfallkeicehiaaGreatDoorQ10
namespace Go.Proofs.YtnfallkeicehiaaGreatDoor

section
open Go.RowKit Go.PlainAid
theorem drop_at (s : List UInt8) (p : Nat) (h : p < s.length) : s.drop p = s.getD p 0 :: s.drop (p + 1) := by
  rw [List.drop_eq_getElem_cons h, List.getD_eq_getElem?_getD, List.getElem?_eq_getElem h]
  rfl
theorem getD_drop (s : List UInt8) (p j : Nat) : (s.drop p).getD j 0 = s.getD (p + j) 0 := by
  simp [List.getD_eq_getElem?_getD]
theorem subs_more : ∀ (k k' : Nat) (l : List UInt8), l.length ≤ k → l.length ≤ k' → subsF k l = subsF k' l
  | k, k', [], _, _ => by cases k <;> cases k' <;> rfl
  | 0, _, _ :: _, h, _ => by simp at h
  | _ + 1, 0, _ :: _, _, h => by simp at h
  | k + 1, k' + 1, [_], _, _ => rfl
  | k + 1, k' + 1, c :: d :: t, h, h' => by
    have h1 := valL_le t
    rw [subsF, subsF]
    split
    · rfl
    · rw [subs_more k k' (valL t).2 (by simp at h; omega) (by simp at h'; omega)]
theorem subs_bad (s : List UInt8) (k p : Nat) (hk : s.length ≤ k) (hp : p < s.length) (h : s.getD p 0 ≠ 36 ∨ s.length ≤ p + 1) : subsF k (s.drop p) = none := by
  rw [drop_at s p hp]
  cases k with
  | zero => rfl
  | succ k =>
    rcases Nat.lt_or_ge (p + 1) s.length with h1 | h1
    · rw [drop_at s (p + 1) h1, subsF, if_pos]
      exact h.elim id (fun h => by omega)
    · rw [List.drop_of_length_le h1]
      rfl
theorem subs_go (s : List UInt8) (k p : Nat) (hk : s.length ≤ k) (hp : p + 1 < s.length) (h : s.getD p 0 = 36) :
    subsF k (s.drop p) = (subsF k (valL (s.drop (p + 2))).2).map fun M => (s.getD (p + 1) 0, (valL (s.drop (p + 2))).1) :: M := by
  have h1 := valL_le (s.drop (p + 2))
  rw [List.length_drop] at h1
  rw [drop_at s p (by omega), drop_at s (p + 1) hp, h]
  cases k with
  | zero => omega
  | succ k =>
    rw [show p + 1 + 1 = p + 2 from rfl, subsF, if_neg (fun h => h rfl), subs_more k (k + 1) _ (by omega) (by omega)]
def boolN : Value → Nat
  | .bool true => 1
  | _ => 0
/-- A subfield in its block. -/
def XB (xb : Nat) (d : Int) (v : ByteArray) (wr : World) : Prop := wr.heap[xb]? = some (.cells #[.int .u8 d, .string v] 46 (0, 0))
theorem XB.c0 {xb : Nat} {d : Int} {v : ByteArray} {wr : World} (h : XB xb d v wr) : wr.cell? ⟨xb, 0, none⟩ = some (.int .u8 d) := by rw [Lib.cell_of_heap h]; rfl
theorem XB.c1 {xb : Nat} {d : Int} {v : ByteArray} {wr : World} (h : XB xb d v wr) : wr.cell? ⟨xb, 1, none⟩ = some (.string v) := by rw [Lib.cell_of_heap h]; rfl
theorem XB.fz {xb : Nat} {d : Int} {v : ByteArray} {wr : World} (h : XB xb d v wr) (i : Nat) : wr.frozen? ⟨xb, i, none⟩ = false := Lib.frozen_of_heap h i
theorem XB.set {xb : Nat} {d : Int} {v : ByteArray} {wr : World} (h : XB xb d v wr) (u : ByteArray) : XB xb d u (wr.setCell ⟨xb, 1, none⟩ (.string u)) := by
  unfold XB at h ⊢
  simp [World.setCell, Array.getElem?_modify, h]
/-- The two indicators in their block. -/
def IB (ib : Nat) (x y : UInt8) (wr : World) : Prop := wr.heap[ib]? = some (.cells #[.int .u8 ((x.toNat : Nat) : Int), .int .u8 ((y.toNat : Nat) : Int)] 5 (0, 0))
theorem IB.c0 {ib : Nat} {x y : UInt8} {wr : World} (h : IB ib x y wr) : wr.cell? ⟨ib, 0, none⟩ = some (.int .u8 ((x.toNat : Nat) : Int)) := by rw [Lib.cell_of_heap h]; rfl
theorem IB.c1 {ib : Nat} {x y : UInt8} {wr : World} (h : IB ib x y wr) : wr.cell? ⟨ib, 1, none⟩ = some (.int .u8 ((y.toNat : Nat) : Int)) := by rw [Lib.cell_of_heap h]; rfl
theorem IB.fz {ib : Nat} {x y : UInt8} {wr : World} (h : IB ib x y wr) (i : Nat) : wr.frozen? ⟨ib, i, none⟩ = false := Lib.frozen_of_heap h i
theorem IB.s0 {ib : Nat} {x y : UInt8} {wr : World} (h : IB ib x y wr) : IB ib 32 y (wr.setCell ⟨ib, 0, none⟩ (.int .u8 32)) := by
  unfold IB at h ⊢
  simp [World.setCell, Array.getElem?_modify, h]
theorem IB.s1 {ib : Nat} {x y : UInt8} {wr : World} (h : IB ib x y wr) : IB ib x 32 (wr.setCell ⟨ib, 1, none⟩ (.int .u8 32)) := by
  unfold IB at h ⊢
  simp [World.setCell, Array.getElem?_modify, h]
theorem IB.str {ib : Nat} {x y : UInt8} {wr : World} (h : IB ib x y wr) : (convert 49 9 (.slice (some ⟨ib, 0, none⟩) 2 2)).run Tryz.prog wr = .ok (.string (S [x, y])) wr := by
  rw [← strOfNums_S]
  have h2 := run_convert_bytes_arg (P := Tryz.prog) wr 49 5 Tryz.underlying49 Tryz.underlying5 ib 0 2 2 ([x, y].map fun x => (x.toNat : Int)) rfl (fun i hi => by
    match i, hi with
    | 0, _ => exact h.c0
    | 1, _ => exact h.c1) 9 Tryz.underlying9
  exact h2
theorem unB_35 : unB 35 = 32 := rfl
theorem unB_not (x : UInt8) (h : x ≠ 35) : unB x = x := if_neg h
theorem byte_cases (x : UInt8) (y : Int) (h : y = ((x.toNat : Nat) : Int)) : (x = 35 ∧ y = 35) ∨ (x = 32 ∧ y = 32) ∨ (x ≠ 35 ∧ x ≠ 32 ∧ (y == 35) = false ∧ (y == 32) = false) := by
  subst h
  by_cases h1 : x = 35
  · exact .inl ⟨h1, by rw [h1]; rfl⟩
  · by_cases h2 : x = 32
    · exact .inr (.inl ⟨h2, by rw [h2]; rfl⟩)
    · have n1 : x.toNat ≠ 35 := fun e => h1 (UInt8.toNat_inj.1 e)
      have n2 : x.toNat ≠ 32 := fun e => h2 (UInt8.toNat_inj.1 e)
      refine .inr (.inr ⟨h1, h2, ?_, ?_⟩)
      · generalize x.toNat = q at *
        simp; omega
      · generalize x.toNat = q at *
        simp; omega
theorem authL_stop (s : List UInt8) (p a : Nat) (h : s.length ≤ p ∨ digB (s.getD p 0) = false ∨ 9999 < a) : authL (s.drop p) a = (a, s.drop p) := by
  rcases Nat.lt_or_ge p s.length with hp | hp
  · rw [drop_at s p hp, authL, if_neg]
    rintro ⟨h1, h2⟩
    rcases h with h | h | h
    · omega
    · rw [h] at h1; cases h1
    · omega
  · rw [List.drop_of_length_le hp]
    rfl
theorem authL_go (s : List UInt8) (p a : Nat) (hp : p < s.length) (h1 : digB (s.getD p 0) = true) (h2 : a ≤ 9999) : authL (s.drop p) a = authL (s.drop (p + 1)) (a * 10 + ((s.getD p 0).toNat - 48)) := by
  rw [drop_at s p hp, authL, if_pos ⟨h1, h2⟩]

set_option maxHeartbeats 32000000 in
set_option maxRecDepth 100000 in
theorem refread_long (s : List UInt8) (hs : s.length ≤ 1000000) (h8 : 8 ≤ s.length) (w : World) :
    Calls Tryz.prog 68 #[.string (S s)] w fun e w' => ReadEnd w s e w' := by
  have HRS0 := Lib.hid (RS.first w)
  obtain ⟨W0, hW0⟩ : ∃ W0, (w.alloc (.cells #[.string ⟨#[]⟩, .string ⟨#[]⟩, .slice none 0 0, .int .i64 0] 44)).alloc (.cells #[.string ⟨#[]⟩, .string ⟨#[]⟩, .slice none 0 0, .int .i64 0] 44) = W0 := ⟨_, rfl⟩
  rw [hW0] at HRS0
  have HW0 := Lib.hid hW0
  clear hW0
  obtain ⟨n, hn⟩ : ∃ n, s.length = n := ⟨_, rfl⟩
  have hsz := S_size s
  have HN := Lib.hid hn
  rw [hn] at hsz h8 hs
  have HBS := Lib.hid (fun i => bt_S s i)
  have hbt := get_bt (S s)
  have HT3 : RowKit.Hid ((S s).extract 0 3 = S (s.take 3)) := by
    unfold RowKit.Hid
    rw [S_extract, List.drop_zero]
  have ht3z : (S (s.take 3)).size = 3 := by rw [S_size, List.length_take]; omega
  clear hn
  obtain ⟨Q, hQ⟩ : ∃ Q, (fun e w' => ReadEnd w s e w') = Q := ⟨_, rfl⟩
  rw [hQ]
  have HQ : RowKit.Hid (∀ e w', ReadEnd w s e w' → Q e w') := by rw [← hQ]; exact fun _ _ h => h
  clear hQ
  obtain ⟨st, hst⟩ : ∃ st, S s = st := ⟨_, rfl⟩
  rw [hst] at HBS hbt hsz HT3 ⊢
  have HST := Lib.hid hst
  clear hst
  have d0 : decide ((n : Int) < 8) = false := decide_eq_false (by omega)
  have hcs := HRS0.out.cells
  have HRS1 := Lib.hid (HRS0.out.setTag (S (s.take 3)))
  obtain ⟨⟨a0, a1, a2, a3⟩, ⟨f0, f1, f2, f3⟩, ⟨r0, r1, r2, r3⟩, ⟨g0, g1, g2, g3⟩⟩ := hcs
  have i3 : (3 : Int) ≤ (n : Int) := by omega
  have i4 : (3 : Int) < (n : Int) := by omega
  have i5 : 3 < n := by omega
  have ht3 : st.extract 0 3 = S (s.take 3) := HT3.out
  obtain ⟨tg, htg⟩ : ∃ tg, S (s.take 3) = tg := ⟨_, rfl⟩
  rw [htg] at ht3 ht3z HRS1
  have HTG := Lib.hid htg
  clear htg
  go_enter Tryz.func68, Tryz.ntmps68
  go_upto_region 4 with fail
  rw [HW0.out]
  go_upto_if 21 with fail
  obtain ⟨W1, hW1⟩ : ∃ W1, W0.setCell ⟨w.heap.size + 1, 0, none⟩ (.string tg) = W1 := ⟨_, rfl⟩
  rw [hW1] at HRS1
  rw [hW1]
  clear hW1 a0 a1 a2 a3 f0 f1 f2 f3 r0 r1 r2 r3 g0 g1 g2 g3 HRS0 HW0 ht3 HT3 d0 i3 i4 i5
  go_cut [5, 21] from 22 to 51 (fun p q wx => ∃ k a : Nat, p = .int .i64 (k : Int) ∧ (∃ x, q = .bool x) ∧ RowKit.Hid (authR (s.drop 3) = (a, s.drop k)) ∧ 3 ≤ k ∧ k ≤ n ∧ RowKit.Hid (RS w tg ⟨#[]⟩ (.slice none 0 0) (a : Int) [] wx))
  case first =>
    have hb3 := HBS.out 3
    by_cases h64 : s.getD 3 0 = 64
    · have t : (bt st 3 == 64) = true := by rw [hb3, h64]; rfl
      have HAR : RowKit.Hid (authR (s.drop 3) = authL (s.drop 4) 0) := by
        unfold RowKit.Hid authR
        rw [getD_drop, h64, if_pos rfl, List.drop_drop]
      have i4 : (4 : Int) ≤ (n : Int) := by omega
      clear hb3 h64
      rw [t]
      clear t
      go_wp2
      go_loopw [5] (fun p wr => ∃ k a : Nat, p = .int .i64 (k : Int) ∧ 4 ≤ k ∧ k ≤ n ∧ a ≤ 99999 ∧ RowKit.Hid (authL (s.drop 4) 0 = authL (s.drop k) a) ∧ RowKit.Hid (RS w tg ⟨#[]⟩ (.slice none 0 0) (a : Int) [] wr)) (fun p _ => n - (intOf p).toNat)
      case atStart => exact ⟨4, 0, rfl, Nat.le_refl _, by omega, by omega, rfl, HRS1⟩
      case round =>
        obtain ⟨k, a, rfl, hk4, hkn, ha, HA, HRS⟩ := hrel
        obtain ⟨⟨a0, a1, a2, a3⟩, ⟨f0, f1, f2, f3⟩, _, _⟩ := HRS.out.cells
        by_cases hk : k < n
        · have hd := refdigit_any (s.getD k 0) _ rfl
          rw [← HBS.out k] at hd
          have hv := HBS.out k
          have hki : (k : Int) < (n : Int) := by omega
          by_cases hdig : digB (s.getD k 0) = true
          · rw [hdig] at hd
            have cD := Lib.hid hd
            clear hd
            by_cases ha9 : a ≤ 9999
            · have d1 : decide ((a : Int) ≤ 9999) = true := decide_eq_true (by omega)
              have hgo := authL_go s k a (by rw [HN.out]; exact hk) hdig ha9
              have h48 := (digB_iff _).1 hdig
              obtain ⟨d, hd48⟩ : ∃ d : Nat, (s.getD k 0).toNat = 48 + d := ⟨(s.getD k 0).toNat - 48, by omega⟩
              have hd9 : d ≤ 9 := by omega
              rw [hd48, Nat.add_sub_cancel_left] at hgo
              have hv2 : bt st k = 48 + (d : Int) := by rw [hv, hd48]; omega
              have HGo : RowKit.Hid (authL (s.drop 4) 0 = authL (s.drop (k + 1)) (a * 10 + d)) := by unfold RowKit.Hid; rw [HA.out, hgo]
              rw [hv2] at cD
              clear hgo h48 hd48 hdig hv HA
              go_wp2_with fail
              refine (cD.out _).mono ?_
              rintro e w2 ⟨rfl, hw2⟩
              rw [hw2]
              clear hw2
              go_wp2
              go_region
              all_goals
                go_wp2
                go_roundw
                case rel =>
                  refine ⟨k + 1, a * 10 + d, by go_num, by omega, by omega, by omega, HGo, ?_⟩
                  rw [show ((a * 10 + d : Nat) : Int) = (a : Int) * 10 + (48 + (d : Int)) - 48 by omega]
                  exact (HRS.out.setAuth _).drew
                case measure => simp [intOf]; omega
            · have d1 : decide ((a : Int) ≤ 9999) = false := decide_eq_false (by omega)
              have HStop := Lib.hid (authL_stop s k a (.inr (.inr (by omega))))
              clear hdig hv
              go_wp2_with fail
              refine (cD.out _).mono ?_
              rintro e w2 ⟨rfl, hw2⟩
              rw [hw2]
              clear hw2
              go_wp2
              go_meet
              exact ⟨k, a, rfl, ⟨_, rfl⟩, by unfold RowKit.Hid; rw [HAR.out, HA.out, HStop.out], by omega, by omega, HRS⟩
          · have hdf : digB (s.getD k 0) = false := by simpa using hdig
            rw [hdf] at hd
            have cD := Lib.hid hd
            have HStop := Lib.hid (authL_stop s k a (.inr (.inl hdf)))
            clear hd hdig hdf hv
            go_wp2_with fail
            refine (cD.out _).mono ?_
            rintro e w2 ⟨rfl, hw2⟩
            rw [hw2]
            clear hw2
            go_wp2
            go_meet
            exact ⟨k, a, rfl, ⟨_, rfl⟩, by unfold RowKit.Hid; rw [HAR.out, HA.out, HStop.out], by omega, by omega, HRS⟩
        · have HStop := Lib.hid (authL_stop s k a (.inl (by rw [HN.out]; omega)))
          go_wp2
          go_meet
          exact ⟨k, a, rfl, ⟨_, rfl⟩, by unfold RowKit.Hid; rw [HAR.out, HA.out, HStop.out], by omega, by omega, HRS⟩
    · have t : (bt st 3 == 64) = false := by
        rw [hb3]
        have : (s.getD 3 0).toNat ≠ 64 := fun e => h64 (UInt8.toNat_inj.1 e)
        clear hb3 h64
        generalize (s.getD 3 0).toNat = q at *
        simp; omega
      have HAR : RowKit.Hid (authR (s.drop 3) = (0, s.drop 3)) := by
        unfold RowKit.Hid authR
        rw [getD_drop, if_neg h64]
      clear hb3 h64
      rw [t]
      clear t
      go_wp2
      go_meet
      exact ⟨3, 0, rfl, ⟨_, rfl⟩, HAR, by omega, by omega, HRS1⟩
  case rest =>
    obtain ⟨k, a, rfl, ⟨x21, rfl⟩, HAR, hk3, hkn, HRS⟩ := hcut
    clear HRS1
    have HRL : RowKit.Hid (readL s = if n < k + 4 ∨ s.getD k 0 ≠ 32 ∨ s.getD (k + 3) 0 ≠ 32 then none else if s.getD (k + 1) 0 = 32 ∨ s.getD (k + 2) 0 = 32 then none
        else (subsF n (s.drop (k + 4))).map fun L => ⟨s.take 3, [unB (s.getD (k + 1) 0), unB (s.getD (k + 2) 0)], L, (a : Nat)⟩) := by
      unfold RowKit.Hid readL
      rw [HAR.out, HN.out, if_neg (by omega)]
      simp only [getD_drop, List.length_drop, HN.out, List.drop_drop, Nat.add_zero]
      by_cases h : n < k + 4 ∨ s.getD k 0 ≠ 32 ∨ s.getD (k + 3) 0 ≠ 32
      · rw [if_pos h, if_pos (h.elim (fun h => .inl (by omega)) .inr)]
      · rw [if_neg h, if_neg (fun h' => h (h'.elim (fun h => .inl (by omega)) .inr))]
    have HBad : RowKit.Hid (∀ e w', (∃ tg ix ao m cp au, e = .returned (.tuple #[.agg #[.string tg, .string ix, .slice ao m cp, .int .i64 au], .bool false]) ∧ Below w.heap.size w w') → readL s = none → Q e w') := by
      rintro e w' ⟨tg, ix, ao, m, cp, au, h1, h2⟩ hr
      exact HQ.out e w' ⟨tg, ix, ao, m, cp, au, false, h1, h2, fun _ => rfl, fun f hf => by rw [hr] at hf; cases hf⟩
    obtain ⟨⟨a0, a1, a2, a3⟩, ⟨f0, f1, f2, f3⟩, ⟨r0, r1, r2, r3⟩, ⟨g0, g1, g2, g3⟩⟩ := HRS.out.cells
    obtain ⟨hfin, _, hbl⟩ := HRS.out.ret
    have b0 := HBS.out k
    have b3 := HBS.out (k + 3)
    have hne : ∀ x : UInt8, x ≠ 32 → (((x.toNat : Nat) : Int) != 32) = true := by
      intro x hx
      have : x.toNat ≠ 32 := fun e => hx (UInt8.toNat_inj.1 e)
      generalize x.toNat = q at *
      simp; omega
    by_cases h1 : n < k + 4
    · have HNone : RowKit.Hid (readL s = none) := by unfold RowKit.Hid; rw [HRL.out, if_pos (.inl h1)]
      have d1 : decide ((n : Int) < (k : Int) + 4) = true := decide_eq_true (by omega)
      clear b0 b3 hne
      go_wp2
      refine bodyPost_ret (results_row_tmp rfl _ _ w.heap.size _ _ _ _ rfl hfin.out Tryz.underlying44 rfl (by kernel_rfl)) rfl ?_
      exact HBad.out _ _ ⟨_, _, _, _, _, _, rfl, hbl.out⟩ HNone.out
    have d1 : decide ((n : Int) < (k : Int) + 4) = false := decide_eq_false (by omega)
    have i0 : (0 : Int) ≤ (k : Int) := by omega
    have i1 : (k : Int) < (n : Int) := by omega
    have i2 : (k : Int) + 3 < (n : Int) := by omega
    have i2' : k + 3 < n := by omega
    have i1' : k < n := by omega
    by_cases h2 : s.getD k 0 ≠ 32
    · have HNone : RowKit.Hid (readL s = none) := by unfold RowKit.Hid; rw [HRL.out, if_pos (.inr (.inl h2))]
      have d2 : (bt st k != 32) = true := by rw [b0]; exact hne _ h2
      clear b0 b3 hne h1 h2
      go_wp2
      refine bodyPost_ret (results_row_tmp rfl _ _ w.heap.size _ _ _ _ rfl hfin.out Tryz.underlying44 rfl (by kernel_rfl)) rfl ?_
      exact HBad.out _ _ ⟨_, _, _, _, _, _, rfl, hbl.out⟩ HNone.out
    have d2 : bt st k = 32 := by rw [b0, Decidable.not_not.1 h2]; rfl
    by_cases h3 : s.getD (k + 3) 0 ≠ 32
    · have HNone : RowKit.Hid (readL s = none) := by unfold RowKit.Hid; rw [HRL.out, if_pos (.inr (.inr h3))]
      have d3 : (bt st (k + 3) != 32) = true := by rw [b3]; exact hne _ h3
      clear b0 b3 hne h1 h2 h3
      go_wp2
      refine bodyPost_ret (results_row_tmp rfl _ _ w.heap.size _ _ _ _ rfl hfin.out Tryz.underlying44 rfl (by kernel_rfl)) rfl ?_
      exact HBad.out _ _ ⟨_, _, _, _, _, _, rfl, hbl.out⟩ HNone.out
    have d3 : bt st (k + 3) = 32 := by rw [b3, Decidable.not_not.1 h3]; rfl
    have HRL2 : RowKit.Hid (readL s = if s.getD (k + 1) 0 = 32 ∨ s.getD (k + 2) 0 = 32 then none
        else (subsF n (s.drop (k + 4))).map fun L => ⟨s.take 3, [unB (s.getD (k + 1) 0), unB (s.getD (k + 2) 0)], L, (a : Nat)⟩) := by
      unfold RowKit.Hid
      rw [HRL.out, if_neg]
      rintro (h | h | h)
      · exact h1 h
      · exact h2 h
      · exact h3 h
    clear b0 b3 hne h1 h2 h3 HRL
    clear a0 a1 a2 a3 f0 f1 f2 f3 r0 r1 r2 r3 g0 g1 g2 g3 hfin hbl
    have e1 : IntKind.i64.wrap ((k : Int) + 1) = ((k + 1 : Nat) : Int) := by rw [IntKind.wrap_i64]; omega
    have e2 : IntKind.i64.wrap ((k : Int) + 2) = ((k + 2 : Nat) : Int) := by rw [IntKind.wrap_i64]; omega
    have j1 : (0 : Int) ≤ ((k + 1 : Nat) : Int) := by omega
    have j2 : ((k + 1 : Nat) : Int) < (n : Int) := by omega
    have j3 : (0 : Int) ≤ ((k + 2 : Nat) : Int) := by omega
    have j4 : ((k + 2 : Nat) : Int) < (n : Int) := by omega
    have j5 : k + 1 < n := by omega
    have j6 : k + 2 < n := by omega
    go_upto_region 13 with fail
    go_cut [6] from 70 to 79 (fun p wx => ∃ ib : Nat, p = .slice (some ⟨ib, 0, none⟩) 2 2 ∧ w.heap.size + 2 ≤ ib ∧ RowKit.Hid (wx.heap[ib]? = some (.cells #[.int .u8 (bt st (k + 1)), .int .u8 (bt st (k + 2))] 5 (0, 0))) ∧ RowKit.Hid (RS w tg ⟨#[]⟩ (.slice none 0 0) (a : Int) [] wx))
    case first =>
      go_region
      all_goals
        go_wp2_with fail
        go_meet
        exact ⟨_, rfl, HRS.out.lt, heap_alloc_new wc _, (HRS.out.alloc _).drew⟩
    case rest =>
      obtain ⟨ib, rfl, hib, HI, HRSi⟩ := hcut
      have HI2 : RowKit.Hid (IB ib (s.getD (k + 1) 0) (s.getD (k + 2) 0) wc) := by
        have := HI.out
        rw [HBS.out, HBS.out] at this
        exact this
      have hk4 : k + 4 ≤ n := by omega
      clear HI e1 e2 j1 j2 j3 j4 j5 j6 d1 d2 d3 i0 i1 i2 i2' i1' HAR
      generalize s.getD (k + 1) 0 = x at *
      generalize s.getD (k + 2) 0 = y at *
      go_wp2
      go_loopw [7] (fun i wr => ∃ (q : Nat) (x' y' : UInt8), q ≤ 2 ∧ i = .int .i64 (q : Int) ∧ RowKit.Hid (IB ib x' y' wr) ∧ RowKit.Hid (RS w tg ⟨#[]⟩ (.slice none 0 0) (a : Int) [] wr) ∧
        RowKit.Hid ((q = 0 → x' = x ∧ y' = y) ∧ (q = 1 → x' = unB x ∧ x ≠ 32 ∧ y' = y) ∧ (q = 2 → x' = unB x ∧ x ≠ 32 ∧ y' = unB y ∧ y ≠ 32))) (fun i _ => 2 - (intOf i).toNat)
      case atStart => exact ⟨0, x, y, by omega, rfl, HI2, HRSi, ⟨fun _ => ⟨rfl, rfl⟩, fun h => by omega, fun h => by omega⟩⟩
      case round =>
        obtain ⟨q, x', y', hq, rfl, HI, HRSr, HC⟩ := hrel
        obtain ⟨⟨a0, a1, a2, a3⟩, ⟨f0, f1, f2, f3⟩, ⟨r0, r1, r2, r3⟩, ⟨g0, g1, g2, g3⟩⟩ := HRSr.out.cells
        obtain ⟨hfin, _, hbl⟩ := HRSr.out.ret
        have hq012 : q = 0 ∨ q = 1 ∨ q = 2 := by omega
        rcases hq012 with rfl | rfl | rfl
        · obtain ⟨rfl, rfl⟩ := HC.out.1 rfl
          have c0 := HI.out.c0
          have z0 := HI.out.fz 0
          rcases byte_cases x' _ rfl with ⟨hx, hy⟩ | ⟨hx, hy⟩ | ⟨h35, h32, t1, t2⟩
          · rw [hy] at c0
            have HI3 := Lib.hid HI.out.s0
            have HRS3 := Lib.hid (HRSr.out.setOther ⟨ib, 0, none⟩ (.int .u8 32) hib (fun h => by cases h))
            clear hy
            go_wp2
            go_roundw
            case rel => exact ⟨1, 32, y', by omega, rfl, HI3, HRS3, ⟨fun h => by omega, fun _ => ⟨by rw [hx]; rfl, by rw [hx]; decide, rfl⟩, fun h => by omega⟩⟩
            case measure => simp [intOf]
          · rw [hy] at c0
            have HNone : RowKit.Hid (readL s = none) := by unfold RowKit.Hid; rw [HRL2.out, if_pos (.inl hx)]
            clear hx hy
            go_wp2
            refine bodyPost_ret (results_row_tmp rfl _ _ w.heap.size _ _ _ _ rfl hfin.out Tryz.underlying44 rfl (by kernel_rfl)) rfl ?_
            exact HBad.out _ _ ⟨_, _, _, _, _, _, rfl, hbl.out⟩ HNone.out
          · have HC3 : RowKit.Hid (x' = unB x' ∧ x' ≠ 32) := ⟨(unB_not _ h35).symm, h32⟩
            clear h35 h32
            generalize ((x'.toNat : Nat) : Int) = xi at c0 t1 t2
            go_wp2
            go_roundw
            case rel => exact ⟨1, x', y', by omega, rfl, HI, HRSr, ⟨fun h => by omega, fun _ => ⟨HC3.out.1, HC3.out.2, rfl⟩, fun h => by omega⟩⟩
            case measure => simp [intOf]
        · obtain ⟨hx1, hx2, rfl⟩ := HC.out.2.1 rfl
          have HX := Lib.hid (And.intro hx1 hx2)
          have c1 := HI.out.c1
          have z1 := HI.out.fz 1
          clear hx1 hx2
          rcases byte_cases y' _ rfl with ⟨hx, hy⟩ | ⟨hx, hy⟩ | ⟨h35, h32, t1, t2⟩
          · rw [hy] at c1
            have HI3 := Lib.hid HI.out.s1
            have HRS3 := Lib.hid (HRSr.out.setOther ⟨ib, 1, none⟩ (.int .u8 32) hib (fun h => by cases h))
            clear hy
            go_wp2
            go_roundw
            case rel => exact ⟨2, x', 32, by omega, rfl, HI3, HRS3, ⟨fun h => by omega, fun h => by omega, fun _ => ⟨HX.out.1, HX.out.2, by rw [hx]; rfl, by rw [hx]; decide⟩⟩⟩
            case measure => simp [intOf]
          · rw [hy] at c1
            have HNone : RowKit.Hid (readL s = none) := by unfold RowKit.Hid; rw [HRL2.out, if_pos (.inr hx)]
            clear hx hy
            go_wp2
            refine bodyPost_ret (results_row_tmp rfl _ _ w.heap.size _ _ _ _ rfl hfin.out Tryz.underlying44 rfl (by kernel_rfl)) rfl ?_
            exact HBad.out _ _ ⟨_, _, _, _, _, _, rfl, hbl.out⟩ HNone.out
          · have HC3 : RowKit.Hid (y' = unB y' ∧ y' ≠ 32) := ⟨(unB_not _ h35).symm, h32⟩
            clear h35 h32
            generalize ((y'.toNat : Nat) : Int) = xi at c1 t1 t2
            go_wp2
            go_roundw
            case rel => exact ⟨2, x', y', by omega, rfl, HI, HRSr, ⟨fun h => by omega, fun h => by omega, fun _ => ⟨HX.out.1, HX.out.2, HC3.out.1, HC3.out.2⟩⟩⟩
            case measure => simp [intOf]
        · obtain ⟨rfl, hx, rfl, hy⟩ := HC.out.2.2 rfl
          rw [show (((2 : Nat) : Int)) = 2 from rfl]
          have HRL3 : RowKit.Hid (readL s = (subsF n (s.drop (k + 4))).map fun L => ⟨s.take 3, [unB x, unB y], L, (a : Nat)⟩) := by
            unfold RowKit.Hid
            rw [HRL2.out, if_neg (fun h => h.elim hx hy)]
          have hcv := HI.out.str
          have HRS3 := Lib.hid (HRSr.out.setInd (S [unB x, unB y]))
          clear hx hy HC hfin hbl HI HI2 HRSi HRL2
          obtain ⟨ix, hix⟩ : ∃ ix, S [unB x, unB y] = ix := ⟨_, rfl⟩
          rw [hix] at hcv HRS3
          have HIX := Lib.hid hix
          have HTl : RowKit.Hid (∃ T, readL s = T.map (fun L => ⟨s.take 3, [unB x, unB y], L, (a : Nat)⟩) ∧ subsF n (s.drop (k + 4)) = T) := ⟨_, HRL3.out, rfl⟩
          obtain ⟨T, hT1, hT2⟩ := HTl.out
          have HT1 := Lib.hid hT1
          have HT2 : RowKit.Hid ((subsF n (s.drop (k + 4))).map (fun M => [] ++ M) = T) := by
            unfold RowKit.Hid
            rw [hT2]
            cases T <;> rfl
          clear hix hT1 hT2 HTl HRL3 HRSr r0 r1 r2 r3 g0 g1 g2 g3
          go_wp2
          clear hcv a0 a1 a2 a3 f0 f1 f2 f3
          go_loopw [5] (fun i wr => ∃ (p : Nat) (L : List Sub) (ao : Option Addr) (cp : Nat), i = .int .i64 (p : Int) ∧ k + 4 ≤ p ∧ p ≤ n ∧ L.length ≤ p ∧ RowKit.Hid (RS w tg ix (.slice ao L.length cp) (a : Int) L wr) ∧
            RowKit.Hid ((subsF n (s.drop p)).map (fun M => L ++ M) = T)) (fun i _ => n - (intOf i).toNat)
          case atStart => exact ⟨k + 4, [], Option.none, 0, by go_num, by omega, by omega, Nat.zero_le _, HRS3, HT2⟩
          case round =>
            obtain ⟨p, L, ao, cp, rfl, hkp, hpn, hLp, HRSp, HT⟩ := hrel
            clear HRS3 HT2
            obtain ⟨⟨a0, a1, a2, a3⟩, ⟨f0, f1, f2, f3⟩, ⟨r0, r1, r2, r3⟩, ⟨g0, g1, g2, g3⟩⟩ := HRSp.out.cells
            by_cases hpn2 : p < n
            · have b0 := HBS.out p
              have i0 : (0 : Int) ≤ (p : Int) := by omega
              have i1 : (p : Int) < (n : Int) := by omega
              by_cases hbad : s.getD p 0 ≠ 36 ∨ n ≤ p + 1
              · obtain ⟨hfin, _, hbl⟩ := HRSp.out.ret
                have HNone : RowKit.Hid (readL s = none) := by
                  unfold RowKit.Hid
                  rw [HT1.out, ← HT.out, subs_bad s n p (by rw [HN.out]; exact Nat.le_refl _) (by rw [HN.out]; exact hpn2) (by rw [HN.out]; exact hbad)]
                  rfl
                by_cases h36 : s.getD p 0 = 36
                · have d1 : bt st p = 36 := by rw [b0, h36]; rfl
                  have d2 : decide ((n : Int) ≤ (p : Int) + 1) = true := decide_eq_true (by
                    have := hbad.elim (fun h => absurd h36 h) id
                    omega)
                  clear b0 hbad h36
                  go_wp2
                  refine bodyPost_ret (results_row_tmp rfl _ _ w.heap.size _ _ _ _ rfl hfin.out Tryz.underlying44 rfl (by kernel_rfl)) rfl ?_
                  exact HBad.out _ _ ⟨_, _, _, _, _, _, rfl, hbl.out⟩ HNone.out
                · have d1 : (bt st p != 36) = true := by
                    rw [b0]
                    have : (s.getD p 0).toNat ≠ 36 := fun e => h36 (UInt8.toNat_inj.1 e)
                    clear b0 hbad h36
                    generalize (s.getD p 0).toNat = q at *
                    simp; omega
                  clear b0 hbad h36
                  go_wp2
                  refine bodyPost_ret (results_row_tmp rfl _ _ w.heap.size _ _ _ _ rfl hfin.out Tryz.underlying44 rfl (by kernel_rfl)) rfl ?_
                  exact HBad.out _ _ ⟨_, _, _, _, _, _, rfl, hbl.out⟩ HNone.out
              · have h36 : s.getD p 0 = 36 := Decidable.byContradiction fun h => hbad (.inl h)
                have hp1 : p + 1 < n := by
                  rcases Nat.lt_or_ge (p + 1) n with h | h
                  · exact h
                  · exact absurd (.inr h) hbad
                have d1 : bt st p = 36 := by rw [b0, h36]; rfl
                have d2 : decide ((n : Int) ≤ (p : Int) + 1) = false := decide_eq_false (by omega)
                have i3 : (p : Int) + 1 < (n : Int) := by omega
                have i4 : p + 1 < n := hp1
                have HGo := Lib.hid (subs_go s n p (by rw [HN.out]; exact Nat.le_refl _) (by rw [HN.out]; exact hp1) h36)
                have HBX := Lib.hid (HBS.out (p + 1))
                have hlt := HRSp.out.lt
                have hXB0 : XB wr.heap.size (bt st (p + 1)) ⟨#[]⟩ (wr.alloc (.cells #[.int .u8 (bt st (p + 1)), .string ⟨#[]⟩] 46)) := heap_alloc_new wr _
                have HXB0 := Lib.hid hXB0
                have HRSa := Lib.hid (HRSp.out.alloc (.cells #[.int .u8 (bt st (p + 1)), .string ⟨#[]⟩] 46))
                have HNe : RowKit.Hid ((Value.slice ao L.length cp).ownBlock ≠ some wr.heap.size) := by
                  intro h
                  have := (HRSp.out.own.lt _ h).2
                  omega
                obtain ⟨xb, hxb⟩ : ∃ xb, wr.heap.size = xb := ⟨_, rfl⟩
                have HXbE := Lib.hid hxb
                rw [hxb] at HNe hlt HXB0
                clear b0 hbad h36 hXB0
                go_wp2
                clear hxb
                go_loopw [5, 9] (fun i o w2 => ∃ (p' : Nat) (v : List UInt8) (op : Bool), i = .int .i64 (p' : Int) ∧ o = .bool op ∧ p + 2 ≤ p' ∧ p' ≤ n ∧ v.length ≤ p' ∧ RowKit.Hid (XB xb (bt st (p + 1)) (S v) w2) ∧ RowKit.Hid (RS w tg ix (.slice ao L.length cp) (a : Int) L w2) ∧
                  RowKit.Hid (valL (s.drop (p + 2)) = (v ++ (valL (s.drop p')).1, (valL (s.drop p')).2)) ∧ RowKit.Hid (op = false → valL (s.drop p') = ([], s.drop p'))) (fun i o _ => 2 * (n - (intOf i).toNat) + boolN o)
                case atStart => exact ⟨p + 2, [], true, by go_num, rfl, Nat.le_refl _, by omega, Nat.zero_le _, HXB0, HRSa, rfl, fun h => by cases h⟩
                case round =>
                  obtain ⟨p', v, op, rfl, rfl, hpp, hpn', hvl, HX, HRSx, HV, HOp⟩ := hrel
                  have x0 := HX.out.c0
                  have x1 := HX.out.c1
                  have xf := HX.out.fz 1
                  have hvz := S_size v
                  cases op with
                  | true =>
                    by_cases hpq : p' < n
                    · have b1 := HBS.out p'
                      have k0 : (0 : Int) ≤ (p' : Int) := by omega
                      have k1 : (p' : Int) < (n : Int) := by omega
                      have k2 : (p' : Int) ≤ (p' : Int) + 1 := by omega
                      have k3 : (p' : Int) + 1 ≤ (n : Int) := by omega
                      have k4 : ((p' : Int) + 1).toNat = p' + 1 := by omega
                      have k5 : IntKind.i64.wrap ((p' : Int) + 1) = (p' : Int) + 1 := by rw [IntKind.wrap_i64]; omega
                      have hdp := drop_at s p' (by rw [HN.out]; exact hpq)
                      by_cases h36 : s.getD p' 0 = 36
                      · have t1 : bt st p' = 36 := by rw [b1, h36]; rfl
                        by_cases hnx : p' + 1 < n ∧ s.getD (p' + 1) 0 = 36
                        · have t2 : bt st (p' + 1) = 36 := by rw [HBS.out, hnx.2]; rfl
                          have k6 : (p' : Int) + 1 < (n : Int) := by omega
                          have k7 : p' + 1 < n := hnx.1
                          have hdp2 := drop_at s (p' + 1) (by rw [HN.out]; exact hnx.1)
                          have HV2 : RowKit.Hid (valL (s.drop (p + 2)) = ((v ++ [36]) ++ (valL (s.drop (p' + 2))).1, (valL (s.drop (p' + 2))).2)) := by
                            unfold RowKit.Hid
                            rw [HV.out, hdp, hdp2, h36, hnx.2, valL_two]
                            simp
                          have HSv : RowKit.Hid (S v ++ (⟨#[36]⟩ : ByteArray) = S (v ++ [36])) := by unfold RowKit.Hid; rw [show (⟨#[36]⟩ : ByteArray) = S [36] from rfl, S_append]
                          clear b1 h36 hnx hdp hdp2
                          generalize S v = sv at *
                          go_wp2
                          go_roundw
                          case rel =>
                            refine ⟨p' + 2, v ++ [36], true, by go_num, rfl, by omega, by omega, by rw [List.length_append]; simp; omega, ?_, ?_, HV2, fun h => by cases h⟩
                            · rw [← HSv.out]; exact HX.out.set _
                            · exact HRSx.out.setOther _ _ hlt HNe.out
                          case measure => simp [intOf, boolN]; omega
                        · have HEnd : RowKit.Hid (valL (s.drop p') = ([], s.drop p')) := by
                            refine valL_end _ ?_
                            rw [hdp, h36]
                            rcases Nat.lt_or_ge (p' + 1) n with h | h
                            · refine .inr (.inr ⟨_, _, by rw [drop_at s (p' + 1) (by rw [HN.out]; exact h)], fun e => hnx ⟨h, e⟩⟩)
                            · refine .inr (.inl ?_)
                              rw [List.drop_of_length_le (by rw [HN.out]; exact h)]
                          by_cases hl : p' + 1 < n
                          · have k6 : (p' : Int) + 1 < (n : Int) := by omega
                            have b2 := HBS.out (p' + 1)
                            have t2 : (bt st (p' + 1) == 36) = false := by
                              rw [b2]
                              have : (s.getD (p' + 1) 0).toNat ≠ 36 := fun e => hnx ⟨hl, UInt8.toNat_inj.1 e⟩
                              clear b2 hnx
                              generalize (s.getD (p' + 1) 0).toNat = q at *
                              simp; omega
                            clear b1 b2 h36 hnx hdp
                            go_wp2
                            go_roundw
                            case rel => exact ⟨p', v, false, rfl, rfl, by omega, by omega, hvl, HX, HRSx, HV, fun _ => HEnd.out⟩
                            case measure => simp [intOf, boolN]
                          · have k6 : ¬ ((p' : Int) + 1 < (n : Int)) := by omega
                            have k7 : decide ((p' : Int) + 1 < (n : Int)) = false := decide_eq_false k6
                            clear b1 h36 hnx hdp
                            go_wp2
                            go_roundw
                            case rel => exact ⟨p', v, false, rfl, rfl, by omega, by omega, hvl, HX, HRSx, HV, fun _ => HEnd.out⟩
                            case measure => simp [intOf, boolN]
                      · have t1 : (bt st p' != 36) = true := by
                          rw [b1]
                          have : (s.getD p' 0).toNat ≠ 36 := fun e => h36 (UInt8.toNat_inj.1 e)
                          clear b1 h36 hdp
                          generalize (s.getD p' 0).toNat = q at *
                          simp; omega
                        have hex : st.extract p' (p' + 1) = S [s.getD p' 0] := by
                          rw [← HST.out, S_extract, take_byte s p' (by rw [HN.out]; exact hpq), List.drop_append_of_le_length (by rw [List.length_take, HN.out]; omega), List.drop_of_length_le (by rw [List.length_take]; omega)]
                          rfl
                        have hez : (S [s.getD p' 0]).size = 1 := rfl
                        have HV2 : RowKit.Hid (valL (s.drop (p + 2)) = ((v ++ [s.getD p' 0]) ++ (valL (s.drop (p' + 1))).1, (valL (s.drop (p' + 1))).2)) := by
                          unfold RowKit.Hid
                          rw [HV.out, hdp, valL_other _ _ h36]
                          simp
                        have HSv : RowKit.Hid (S v ++ S [s.getD p' 0] = S (v ++ [s.getD p' 0])) := S_append _ _
                        have z1 : ¬ 9223372036854775807 < (S v).size + 1 := by omega
                        have hv2 : (v ++ [s.getD p' 0]).length ≤ p' + 1 := by rw [List.length_append]; simp; omega
                        clear b1 h36 hdp
                        generalize v ++ [s.getD p' 0] = v2 at *
                        generalize S [s.getD p' 0] = se at *
                        generalize S v = sv at *
                        go_wp2
                        go_region
                        all_goals
                          go_wp2
                          go_roundw
                          case rel =>
                            refine ⟨p' + 1, v2, true, by go_num, rfl, by omega, by omega, by omega, ?_, ?_, HV2, fun h => by cases h⟩
                            · rw [← HSv.out]; exact HX.out.set _
                            · exact (HRSx.out.setOther _ _ hlt HNe.out).drew
                          case measure => simp [intOf, boolN]; omega
                    · have HEnd : RowKit.Hid (valL (s.drop (p + 2)) = (v, s.drop p')) := by
                        unfold RowKit.Hid
                        rw [HV.out, List.drop_of_length_le (by rw [HN.out]; omega)]
                        simp [valL]
                      have d4 : decide ((p' : Int) < (n : Int)) = false := decide_eq_false (by omega)
                      have HNext : RowKit.Hid ((subsF n (s.drop p')).map (fun M => (L ++ [(s.getD (p + 1) 0, v)]) ++ M) = T) := by
                        unfold RowKit.Hid
                        rw [← HT.out, HGo.out, HEnd.out]
                        cases subsF n (s.drop p') <;> simp
                      obtain ⟨⟨y0, y1, y2, y3⟩, ⟨n0, n1, n2, n3⟩, _, _⟩ := HRSx.out.cells
                      have HRSb := Lib.hid (HRSx.out.alloc (.cells #[.int .u8 (bt st (p + 1)), .string (S v)] 46))
                      have HCT := Lib.hid (cells_two wr (.int .u8 (bt st (p + 1))) (.string (S v)) 46)
                      have hlt2 := HRSx.out.lt
                      obtain ⟨i9, hi9, hz0, hz1, hz2⟩ := info_sub
                      have HZ0 := Lib.hid hz0
                      have HZ1 := Lib.hid hz1
                      have HZ2 := Lib.hid hz2
                      have HI9 := Lib.hid hi9
                      obtain ⟨ll, hll⟩ : ∃ ll, L.length = ll := ⟨_, rfl⟩
                      have HownB := Lib.hid HRSb.out.own
                      rw [hll] at hLp y2 HRSb HownB
                      have HLL := Lib.hid hll
                      rw [hll]
                      clear hz0 hz1 hz2 hi9 hll HV HOp a0 a1 a2 a3 f0 f1 f2 f3 r0 r1 r2 r3 g0 g1 g2 g3
                      go_wp2_with (at_builtin; refine wpList_append_own _ rfl _ _ 42 rfl (w.heap.size + 2) 46 i9 (.agg #[.int .u8 0, .string ⟨#[]⟩]) 2 24 Tryz.underlying42 HI9.out HZ0.out HZ1.out HZ2.out rfl (by decide) _ _ _ rfl HownB.out ⟨wr.heap.size, 0, none⟩ 1 1 [.int .u8 (bt st (p + 1)), .string (S v)] rfl rfl HCT.out (by intro u hu; simp at hu; rcases hu with rfl | rfl <;> rfl) (by unfold maxLen; omega) (by omega) (by simp; omega) ?_; intro v3 w3 hown3 hgrow3 hnil3; clear hnil3; obtain ⟨ao3, cp3, rfl⟩ := own_form hown3; obtain ⟨u2, uf⟩ := HRSb.out.keepF hgrow3)
                      go_roundw
                      case rel =>
                        refine ⟨p', L ++ [(s.getD (p + 1) 0, v)], ao3, cp3, rfl, by omega, by omega, by rw [List.length_append, HLL.out]; simp; omega, ?_, HNext⟩
                        rw [List.length_append, HLL.out]
                        refine HRSb.out.push hgrow3 ?_
                        rw [HLL.out, show encS (s.getD (p + 1) 0, v) = [.int .u8 (((s.getD (p + 1) 0).toNat : Nat) : Int), .string (S v)] from rfl, ← HBX.out]
                        exact hown3
                      case measure => simp [intOf]; omega
                  | false =>
                    have HEnd : RowKit.Hid (valL (s.drop (p + 2)) = (v, s.drop p')) := by
                      unfold RowKit.Hid
                      rw [HV.out, HOp.out rfl]
                      simp
                    have HNext : RowKit.Hid ((subsF n (s.drop p')).map (fun M => (L ++ [(s.getD (p + 1) 0, v)]) ++ M) = T) := by
                      unfold RowKit.Hid
                      rw [← HT.out, HGo.out, HEnd.out]
                      cases subsF n (s.drop p') <;> simp
                    obtain ⟨⟨y0, y1, y2, y3⟩, ⟨n0, n1, n2, n3⟩, _, _⟩ := HRSx.out.cells
                    have HRSb := Lib.hid (HRSx.out.alloc (.cells #[.int .u8 (bt st (p + 1)), .string (S v)] 46))
                    have HCT := Lib.hid (cells_two wr (.int .u8 (bt st (p + 1))) (.string (S v)) 46)
                    have hlt2 := HRSx.out.lt
                    obtain ⟨i9, hi9, hz0, hz1, hz2⟩ := info_sub
                    have HZ0 := Lib.hid hz0
                    have HZ1 := Lib.hid hz1
                    have HZ2 := Lib.hid hz2
                    have HI9 := Lib.hid hi9
                    obtain ⟨ll, hll⟩ : ∃ ll, L.length = ll := ⟨_, rfl⟩
                    have HownB := Lib.hid HRSb.out.own
                    rw [hll] at hLp y2 HRSb HownB
                    have HLL := Lib.hid hll
                    rw [hll]
                    clear hz0 hz1 hz2 hi9 hll HV HOp a0 a1 a2 a3 f0 f1 f2 f3 r0 r1 r2 r3 g0 g1 g2 g3
                    go_wp2_with (at_builtin; refine wpList_append_own _ rfl _ _ 42 rfl (w.heap.size + 2) 46 i9 (.agg #[.int .u8 0, .string ⟨#[]⟩]) 2 24 Tryz.underlying42 HI9.out HZ0.out HZ1.out HZ2.out rfl (by decide) _ _ _ rfl HownB.out ⟨wr.heap.size, 0, none⟩ 1 1 [.int .u8 (bt st (p + 1)), .string (S v)] rfl rfl HCT.out (by intro u hu; simp at hu; rcases hu with rfl | rfl <;> rfl) (by unfold maxLen; omega) (by omega) (by simp; omega) ?_; intro v3 w3 hown3 hgrow3 hnil3; clear hnil3; obtain ⟨ao3, cp3, rfl⟩ := own_form hown3; obtain ⟨u2, uf⟩ := HRSb.out.keepF hgrow3)
                    go_roundw
                    case rel =>
                      refine ⟨p', L ++ [(s.getD (p + 1) 0, v)], ao3, cp3, rfl, by omega, by omega, by rw [List.length_append, HLL.out]; simp; omega, ?_, HNext⟩
                      rw [List.length_append, HLL.out]
                      refine HRSb.out.push hgrow3 ?_
                      rw [HLL.out, show encS (s.getD (p + 1) 0, v) = [.int .u8 (((s.getD (p + 1) 0).toNat : Nat) : Int), .string (S v)] from rfl, ← HBX.out]
                      exact hown3
                    case measure => simp [intOf]; omega
            · obtain rfl : p = n := by omega
              have HSome : RowKit.Hid (readL s = some ⟨s.take 3, [unB x, unB y], L, (a : Nat)⟩) := by
                unfold RowKit.Hid
                rw [HT1.out, ← HT.out, List.drop_of_length_le (by rw [HN.out]; exact Nat.le_refl _)]
                cases p <;> simp [subsF]
              obtain ⟨hfin, hql, hbl⟩ := HRSp.out.ret
              go_wp2
              refine bodyPost_ret (results_row_tmp rfl _ _ w.heap.size _ _ _ _ rfl hfin.out Tryz.underlying44 rfl (by kernel_rfl)) rfl ?_
              refine HQ.out _ _ ⟨_, _, _, _, _, _, true, rfl, hbl.out, fun h => ?_, fun f hf => ?_⟩
              · rw [HSome.out] at h
                cases h
              · rw [HSome.out] at hf
                obtain rfl := Option.some.inj hf
                exact ⟨rfl, HTG.out.symm, HIX.out.symm, rfl, hql.out⟩
end

section
open Go.RowKit Go.PlainAid
def fld0 : Fld := ⟨[], [], [], 0⟩
/-- What Parse returns. -/
def parseR (s : List UInt8) : Fld × Int := match parseO s with
  | some f => (f, 0)
  | none => (fld0, 3)

/-- The four cells of a field are stored. -/
theorem field_set {w : World} {b : Nat} {c0 c1 c2 c3 x0 x1 x2 x3 : Value} (h : w.heap[b]? = some (.cells #[c0, c1, c2, c3] 44 (0, 0))) :
    ((((w.setCell ⟨b, 0, none⟩ x0).setCell ⟨b, 1, none⟩ x1).setCell ⟨b, 2, none⟩ x2).setCell ⟨b, 3, none⟩ x3).heap[b]? = some (.cells #[x0, x1, x2, x3] 44 (0, 0)) := by
  simp [World.setCell, Array.getElem?_modify, h]
theorem field_cells {w : World} {b : Nat} {c0 c1 c2 c3 : Value} (h : w.heap[b]? = some (.cells #[c0, c1, c2, c3] 44 (0, 0))) :
    (w.cell? ⟨b, 0, none⟩ = some c0 ∧ w.cell? ⟨b, 1, none⟩ = some c1 ∧ w.cell? ⟨b, 2, none⟩ = some c2 ∧ w.cell? ⟨b, 3, none⟩ = some c3) ∧
    (w.frozen? ⟨b, 0, none⟩ = false ∧ w.frozen? ⟨b, 1, none⟩ = false ∧ w.frozen? ⟨b, 2, none⟩ = false ∧ w.frozen? ⟨b, 3, none⟩ = false) := by
  refine ⟨⟨?_, ?_, ?_, ?_⟩, Lib.frozen_of_heap h 0, Lib.frozen_of_heap h 1, Lib.frozen_of_heap h 2, Lib.frozen_of_heap h 3⟩
  · rw [Lib.cell_of_heap h]; rfl
  · rw [Lib.cell_of_heap h]; rfl
  · rw [Lib.cell_of_heap h]; rfl
  · rw [Lib.cell_of_heap h]; rfl
end

section
open Go.RowKit Go.PlainAid
theorem refread_any (s : List UInt8) (hs : s.length ≤ 1000000) (w : World) :
    Calls Tryz.prog 68 #[.string (S s)] w fun e w' => ReadEnd w s e w' := by
  rcases Nat.lt_or_ge s.length 8 with h | h
  · exact refread_short s h w
  · exact refread_long s hs h w
theorem val_le : ∀ l : List UInt8, (valL l).1.length ≤ l.length
  | [] => Nat.le_refl _
  | [c] => by rw [valL]; split <;> simp
  | c :: d :: t => by
    have h1 := val_le (d :: t)
    have h2 := val_le t
    rw [valL]
    split
    · simp at h1 ⊢; omega
    · split
      · simp; omega
      · simp
theorem subs_le : ∀ (k : Nat) (l : List UInt8) (L : List Sub), subsF k l = some L → ∀ i, i < L.length → (L.getD i sub0).2.length ≤ l.length
  | k, [], L, h, i, hi => by
    have : L = [] := by cases k <;> simpa [subsF] using h.symm
    rw [this] at hi
    cases hi
  | 0, _ :: _, L, h, _, _ => by cases h
  | k + 1, [_], L, h, _, _ => by cases h
  | k + 1, c :: d :: t, L, h, i, hi => by
    rw [subsF] at h
    split at h
    · cases h
    · cases hM : subsF k (valL t).2 with
      | none => rw [hM] at h; cases h
      | some M =>
        rw [hM] at h
        obtain rfl := (Option.some.inj h).symm
        have h1 := val_le t
        have h2 := valL_le t
        cases i with
        | zero =>
          show (valL t).1.length ≤ _
          simp; omega
        | succ i =>
          have := subs_le k (valL t).2 M hM i (by simpa using hi)
          show (M.getD i sub0).2.length ≤ _
          simp only [List.length_cons]
          omega
theorem read_le (s : List UInt8) (f : Fld) (h : readL s = some f) : ∀ i, i < f.subs.length → (f.subs.getD i sub0).2.length ≤ s.length := by
  unfold readL at h
  split at h
  · cases h
  split at h
  · cases h
  split at h
  · cases h
  cases hM : subsF s.length ((authR (s.drop 3)).2.drop 4) with
  | none => rw [hM] at h; cases h
  | some M =>
    rw [hM] at h
    obtain rfl := (Option.some.inj h).symm
    intro i hi
    have h1 := subs_le _ _ _ hM i hi
    have hA : ∀ (l : List UInt8) (a : Nat), (authL l a).2.length ≤ l.length := by
      intro l
      induction l with
      | nil => intro a; simp [authL]
      | cons c t ih =>
        intro a
        rw [authL]
        split
        · have := ih (a * 10 + (c.toNat - 48)); simp; omega
        · simp
    have h2 : (authR (s.drop 3)).2.length ≤ s.length := by
      unfold authR
      split
      · have := hA ((s.drop 3).drop 1) 0
        simp at this ⊢
        omega
      · simp
    rw [List.length_drop] at h1
    show (M.getD i sub0).2.length ≤ _
    omega
set_option maxHeartbeats 16000000 in
set_option maxRecDepth 100000 in
theorem refParse_any (s : List UInt8) (hs : s.length ≤ 1000000) (w : World) (f : Fld) (er : Int) (h : parseR s = (f, er)) :
    Calls Tryz.prog 50 #[.string (S s)] w fun e w' => ∃ v, e = .returned (.tuple #[FV f v, .int .i64 er]) ∧ QL v f.subs w' ∧ Below w.heap.size w w' := by
  have cR := Lib.hid (fun W => refread_any s hs W)
  have hR0 : (w.alloc (.cells #[.string ⟨#[]⟩, .string ⟨#[]⟩, .slice none 0 0, .int .i64 0] 44)).heap[w.heap.size]? = some (.cells #[.string ⟨#[]⟩, .string ⟨#[]⟩, .slice none 0 0, .int .i64 0] 44 (0, 0)) := heap_alloc_new w _
  have b0 : Below w.heap.size w (w.alloc (.cells #[.string ⟨#[]⟩, .string ⟨#[]⟩, .slice none 0 0, .int .i64 0] 44)) := (Below.refl w.heap.size w).alloc (Nat.le_refl _) _
  have hlt0 : w.heap.size < (w.alloc (.cells #[.string ⟨#[]⟩, .string ⟨#[]⟩, .slice none 0 0, .int .i64 0] 44)).heap.size := by simp
  obtain ⟨Q, hQ⟩ : ∃ Q, (fun (e : Ending) (w' : World) => ∃ v, e = .returned (.tuple #[FV f v, .int .i64 er]) ∧ QL v f.subs w' ∧ Below w.heap.size w w') = Q := ⟨_, rfl⟩
  rw [hQ]
  have HQ : RowKit.Hid (∀ e w', (∃ v, e = .returned (.tuple #[FV f v, .int .i64 er]) ∧ QL v f.subs w' ∧ Below w.heap.size w w') → Q e w') := by rw [← hQ]; exact fun _ _ h => h
  clear hQ
  have H := Lib.hid h
  clear h
  obtain ⟨st, hst⟩ : ∃ st, S s = st := ⟨_, rfl⟩
  rw [hst] at cR ⊢
  have HST := Lib.hid hst
  clear hst
  go_enter Tryz.func50, Tryz.ntmps50
  go_wp2_with fail
  refine (cR.out _).mono ?_
  rintro e w1 ⟨tg, ix, ao, n, cp, au, b, rfl, hb, hnone, hsome⟩
  have hR1 := (hb.block w.heap.size hlt0).trans hR0
  have hb1 := b0.trans (hb.mono (Nat.le_of_lt hlt0))
  have hlt1 : w.heap.size < w1.heap.size := Nat.lt_of_lt_of_le hlt0 hb.size
  have HRB := Lib.hid hR1
  have HB1 := Lib.hid hb1
  have hR2 : (w1.alloc (.cells #[.string tg, .string ix, .slice ao n cp, .int .i64 au] 44)).heap[w.heap.size]? = some (.cells #[.string ⟨#[]⟩, .string ⟨#[]⟩, .slice none 0 0, .int .i64 0] 44 (0, 0)) := (Below.heap_alloc _ _ _ hlt1).trans hR1
  have hF2 : (w1.alloc (.cells #[.string tg, .string ix, .slice ao n cp, .int .i64 au] 44)).heap[w1.heap.size]? = some (.cells #[.string tg, .string ix, .slice ao n cp, .int .i64 au] 44 (0, 0)) := heap_alloc_new w1 _
  have hb2 := hb1.alloc (Nat.le_of_lt hlt1) (.cells #[.string tg, .string ix, .slice ao n cp, .int .i64 au] 44)
  have HB2 := Lib.hid hb2
  have HR2 := Lib.hid hR2
  have HF2 := Lib.hid hF2
  clear hR1 hb1 HRB HB1 hR0 b0 hb hb2
  cases hr : readL s with
  | none =>
    obtain rfl := hnone hr
    have hP : parseR s = (fld0, 3) := by unfold parseR parseO; rw [hr]
    have hH := H.out
    rw [hP] at hH
    obtain ⟨rfl, rfl⟩ := Prod.mk.inj hH
    obtain ⟨w2, hw2⟩ : ∃ w2, w1.alloc (.cells #[.string tg, .string ix, .slice ao n cp, .int .i64 au] 44) = w2 := ⟨_, rfl⟩
    rw [hw2] at HR2 HB2
    have HW2 := Lib.hid hw2
    clear hnone hsome hr hP hH hR2 hF2 hw2
    obtain ⟨⟨r0, r1, r2, r3⟩, g0, g1, g2, g3⟩ := field_cells HR2.out
    have hfin := Lib.hid (field_set (x0 := .string ⟨#[]⟩) (x1 := .string ⟨#[]⟩) (x2 := .slice Option.none 0 0) (x3 := .int .i64 0) HR2.out)
    have Fin := Lib.hid ((((HB2.out.setCell (p := ⟨w.heap.size, 0, Option.none⟩) (Nat.le_refl _) (.string ⟨#[]⟩)).setCell (p := ⟨w.heap.size, 1, Option.none⟩) (Nat.le_refl _) (.string ⟨#[]⟩)).setCell (p := ⟨w.heap.size, 2, Option.none⟩) (Nat.le_refl _) (.slice Option.none 0 0)).setCell (p := ⟨w.heap.size, 3, Option.none⟩) (Nat.le_refl _) (.int .i64 0))
    go_upto_if 14 with fail
    rw [HW2.out]
    go_wp2
    (try simp only [Exit.inBlock, Exit.then])
    refine bodyPost_ret (results_row_tmp rfl _ _ w.heap.size _ _ _ _ rfl hfin.out Tryz.underlying44 rfl (by kernel_rfl)) rfl ?_
    exact HQ.out _ _ ⟨_, rfl, ⟨Option.none, 0, rfl, Nat.le_refl _, Nat.zero_le _, fun _ => rfl, fun i hi => by cases hi⟩, Fin.out⟩
  | some f0 =>
    obtain ⟨rfl, rfl, rfl, rfl, hown⟩ := hsome f0 hr
    have hz := read_le s f0 hr
    have hown2 := hown.alloc (.cells #[.string (S f0.tag), .string (S f0.ind), .slice ao n cp, .int .i64 f0.auth] 44)
    obtain ⟨pr, hpr⟩ : ∃ pr, printR f0 = pr := ⟨_, rfl⟩
    obtain ⟨r, pe⟩ := pr
    have cP := Lib.hid (refPrint_any f0 _ _ (QL.of_row hown2) (fun i hi => by have := hz i hi; omega) r pe hpr)
    unfold FV at cP
    have hlt2 : w1.heap.size < (w1.alloc (.cells #[.string (S f0.tag), .string (S f0.ind), .slice ao n cp, .int .i64 f0.auth] 44)).heap.size := by simp
    have HOwn2 := Lib.hid hown2
    have HZ := Lib.hid hz
    obtain ⟨w2, hw2⟩ : ∃ w2, w1.alloc (.cells #[.string (S f0.tag), .string (S f0.ind), .slice ao n cp, .int .i64 f0.auth] 44) = w2 := ⟨_, rfl⟩
    rw [hw2] at cP HOwn2 HR2 HF2 HB2 hlt2
    have HW2 := Lib.hid hw2
    clear hz hown hown2 hR2 hF2 hnone hsome hw2
    go_wp2_with fail
    rw [HW2.out]
    refine (cP.out).mono ?_
    rintro e w3 ⟨rfl, b3⟩
    have hR3 := (b3.block w.heap.size (by omega)).trans HR2.out
    have hF3 := (b3.block w1.heap.size hlt2).trans HF2.out
    have HOwn3 := Lib.hid (own_after HOwn2.out b3)
    have HB3 := Lib.hid (HB2.out.trans (b3.mono (by omega)))
    clear b3
    have hq := S_eq r s
    rw [HST.out] at hq
    by_cases hok : rightI f0 = 0 ∧ lineL f0 = s
    · have hP : parseR s = (f0, 0) := by
        unfold parseR parseO
        rw [hr]
        show (match (if rightI f0 = 0 ∧ lineL f0 = s then some f0 else none) with | some f => (f, (0 : Int)) | none => (fld0, 3)) = _
        rw [if_pos hok]
      have hH := H.out
      rw [hP] at hH
      obtain ⟨rfl, rfl⟩ := Prod.mk.inj hH
      unfold printR at hpr
      rw [if_pos hok.1] at hpr
      obtain ⟨hr1, rfl⟩ := Prod.mk.inj hpr
      rw [← hr1, hok.2, decide_eq_true rfl, HST.out] at hq
      rw [← hr1, hok.2, HST.out]
      obtain ⟨⟨q0, q1, q2, q3⟩, p0, p1, p2, p3⟩ := field_cells hF3
      obtain ⟨⟨r0, r1, r2, r3⟩, g0, g1, g2, g3⟩ := field_cells hR3
      have hfin := Lib.hid (field_set (x0 := .string (S f0.tag)) (x1 := .string (S f0.ind)) (x2 := .slice ao n cp) (x3 := .int .i64 f0.auth) hR3)
      have Fin := Lib.hid ((((HB3.out.setCell (p := ⟨w.heap.size, 0, none⟩) (Nat.le_refl _) (.string (S f0.tag))).setCell (p := ⟨w.heap.size, 1, none⟩) (Nat.le_refl _) (.string (S f0.ind))).setCell (p := ⟨w.heap.size, 2, none⟩) (Nat.le_refl _) (.slice ao n cp)).setCell (p := ⟨w.heap.size, 3, none⟩) (Nat.le_refl _) (.int .i64 f0.auth))
      have hB' : ∀ k, k < 4 → (⟨w.heap.size, k, none⟩ : Addr).block < (w.alloc (.cells #[.string ⟨#[]⟩, .string ⟨#[]⟩, .slice none 0 0, .int .i64 0] 44)).heap.size + 2 := fun k _ => by show w.heap.size < _; omega
      have HQL := Lib.hid (QL.of_row (own_setCell (own_setCell (own_setCell (own_setCell HOwn3.out (hB' 0 (by decide)) (.string (S f0.tag))) (hB' 1 (by decide)) (.string (S f0.ind))) (hB' 2 (by decide)) (.slice ao n cp)) (hB' 3 (by decide)) (.int .i64 f0.auth)))
      clear hB' hr hok hP hH hpr hr1 hR3 hF3
      go_wp2
      (try simp only [Exit.inBlock, Exit.then])
      refine bodyPost_ret (results_row_tmp rfl _ _ w.heap.size _ _ _ _ rfl hfin.out Tryz.underlying44 rfl (by kernel_rfl)) rfl ?_
      exact HQ.out _ _ ⟨_, rfl, HQL.out, Fin.out⟩
    · have hP : parseR s = (fld0, 3) := by
        unfold parseR parseO
        rw [hr]
        show (match (if rightI f0 = 0 ∧ lineL f0 = s then some f0 else none) with | some f => (f, (0 : Int)) | none => (fld0, 3)) = _
        rw [if_neg hok]
      have hH := H.out
      rw [hP] at hH
      obtain ⟨rfl, rfl⟩ := Prod.mk.inj hH
      have hcase : pe ≠ 0 ∨ (pe = 0 ∧ r ≠ s) := by
        unfold printR at hpr
        by_cases h0 : rightI f0 = 0
        · rw [if_pos h0] at hpr
          obtain ⟨hr1, rfl⟩ := Prod.mk.inj hpr
          exact .inr ⟨rfl, fun e => hok ⟨h0, hr1.trans e⟩⟩
        · rw [if_neg h0] at hpr
          obtain ⟨_, rfl⟩ := Prod.mk.inj hpr
          exact .inl h0
      obtain ⟨⟨r0, r1, r2, r3⟩, g0, g1, g2, g3⟩ := field_cells hR3
      have hfin := Lib.hid (field_set (x0 := .string ⟨#[]⟩) (x1 := .string ⟨#[]⟩) (x2 := .slice none 0 0) (x3 := .int .i64 0) hR3)
      have Fin := Lib.hid ((((HB3.out.setCell (p := ⟨w.heap.size, 0, none⟩) (Nat.le_refl _) (.string ⟨#[]⟩)).setCell (p := ⟨w.heap.size, 1, none⟩) (Nat.le_refl _) (.string ⟨#[]⟩)).setCell (p := ⟨w.heap.size, 2, none⟩) (Nat.le_refl _) (.slice none 0 0)).setCell (p := ⟨w.heap.size, 3, none⟩) (Nat.le_refl _) (.int .i64 0))
      clear hr hok hP hH hpr hR3 hF3
      rcases hcase with h0 | ⟨rfl, hne⟩
      · have t0 : (pe != 0) = true := by simpa using h0
        clear hq
        go_wp2
        (try simp only [Exit.inBlock, Exit.then])
        refine bodyPost_ret (results_row_tmp rfl _ _ w.heap.size _ _ _ _ rfl hfin.out Tryz.underlying44 rfl (by kernel_rfl)) rfl ?_
        exact HQ.out _ _ ⟨_, rfl, ⟨Option.none, 0, rfl, Nat.le_refl _, Nat.zero_le _, fun _ => rfl, fun i hi => by cases hi⟩, Fin.out⟩
      · rw [decide_eq_false hne] at hq
        clear hne
        generalize S r = sr at *
        go_wp2
        (try simp only [Exit.inBlock, Exit.then])
        refine bodyPost_ret (results_row_tmp rfl _ _ w.heap.size _ _ _ _ rfl hfin.out Tryz.underlying44 rfl (by kernel_rfl)) rfl ?_
        exact HQ.out _ _ ⟨_, rfl, ⟨Option.none, 0, rfl, Nat.le_refl _, Nat.zero_le _, fun _ => rfl, fun i hi => by cases hi⟩, Fin.out⟩
end

end Go.Proofs.YtnfallkeicehiaaGreatDoor
