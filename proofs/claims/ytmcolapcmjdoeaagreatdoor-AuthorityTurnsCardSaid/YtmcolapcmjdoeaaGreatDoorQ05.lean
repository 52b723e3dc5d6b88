/- Merged: R12A, R13B, R13C. -/
import Derived.Test.YtmcolapcmjdoeaaGreatDoorQ03
import Derived.Test.YtmcolapcmjdoeaaGreatDoorQ01
import Derived.Test.YtmcolapcmjdoeaaGreatDoorQ04
import Derived.Lib.Builder
import Derived.Deep.Cut
import Derived.Deep.CutRange
import Derived.Laws.ResultCell
import Derived.Deep.RegionHeld
namespace Go.Proofs.YtmcolapcmjdoeaaGreatDoor

section
open Go.RowKit Go.PlainAid
theorem S_eq12 (a b : List UInt8) : ((S a).toList == (S b).toList) = decide (a = b) := by
  rw [ByteArray.toList_eq, ByteArray.toList_eq]
  show (a == b) = _
  by_cases h : a = b
  · simp [h]
  · simp [h]
theorem sr_form {B : Nat} {v : Value} {L : List (List UInt8)} {w : World} (h : SR B v L w) : ∃ g cap, v = .slice (some ⟨g, 0, none⟩) L.length cap := by
  obtain ⟨g, cap, rfl, _⟩ := h.open
  exact ⟨g, cap, rfl⟩
theorem cells_one12 (w : World) (x : Value) (t : TypeId) : ∀ j u, [x][j]? = some u → (w.alloc (.cells #[x] t)).cell? ((⟨w.heap.size, 0, none⟩ : Addr).add j) = some u := by
  intro j u hj
  match j, hj with
  | 0, hj => simp at hj; subst hj; simp [Addr.add]
/-- append of one text that has just been laid to a row of one's own. -/
theorem append_sr {ops : Array Oper} {rest : List Oper} {o : Oper} {a : Act} {Q : Exit → Act → World → Prop} (w : World) (hgd : o.guard = none) (s x : Operand)
    (ho : o.op = .call { callee := .builtin .append, args := #[s, x], argTypes := #[28, 28] })
    (B : Nat) (v : Value) (L : List (List UInt8)) (y : List UInt8) (hs : a.eval s = v) (h : SR B v L w) (hx : a.eval x = .slice (some ⟨w.heap.size, 0, none⟩) 1 1) (hz : L.length ≤ 10000000) (hB : B ≤ w.heap.size)
    (N : Nat) (W1 : World) (hNB : N ≤ B) (hb : Below N W1 w)
    (hk : ∀ v' w', SR B v' (L ++ [y]) w' → Below N W1 w' → B ≤ w'.heap.size → wpList Tryz.prog ops Q rest (a.put o.dst v') w') : wpList Tryz.prog ops Q (o :: rest) a (w.alloc (.cells #[strB y] 9)) := by
  obtain ⟨i0, hi, hz0, hz1, hz2⟩ := info_string
  have hrow := h.row.alloc (.cells #[strB y] 9)
  refine wpList_append_own _ hgd s x 28 ho B 9 i0 (.string ⟨#[]⟩) 1 16 Tryz.underlying28 hi hz0 hz1 hz2 rfl (by decide) v L.length _ hs hrow ⟨w.heap.size, 0, none⟩ 1 1 [strB y] hx rfl (cells_one12 _ _ _) (by intro u hu; simp at hu; subst hu; rfl) (by unfold maxLen; omega) (by omega) (by simp; omega) ?_
  intro v2 w2 hown2 hg2 hn2
  refine hk v2 w2 ⟨by rw [List.length_append, List.map_append]; exact hown2, fun e => by have := (hn2.1 e).2; omega⟩ ?_ (Nat.le_trans (by simp; omega) hg2.size)
  exact (hb.alloc (by omega) _).grown hg2 (by simp; omega) (fun j hj => Nat.le_trans hNB (hrow.lt j hj).1)
theorem pre_take (sep : List UInt8) : ∀ (t : List UInt8), sep.isPrefixOf t = decide (t.take sep.length = sep) := by
  intro t
  cases e : sep.isPrefixOf t with
  | true =>
    obtain ⟨r, rfl⟩ := List.isPrefixOf_iff_prefix.1 e
    rw [List.take_left]
    exact (decide_eq_true rfl).symm
  | false =>
    refine (decide_eq_false (fun g => ?_)).symm
    have : sep.isPrefixOf t = true := List.isPrefixOf_iff_prefix.2 ⟨t.drop sep.length, by
      conv => lhs; lhs; rw [← g]
      exact List.take_append_drop _ _⟩
    rw [this] at e
    cases e
theorem piece_snoc (l : List UInt8) (f k : Nat) (hf : f ≤ k) (hk : k < l.length) : (l.take (k + 1)).drop f = (l.take k).drop f ++ [l.getD k 0] := by
  rw [List.take_succ_eq_append_getElem hk, List.drop_append_of_le_length (by rw [List.length_take]; omega), List.getD_eq_getElem?_getD, List.getElem?_eq_getElem hk]
  rfl
theorem drop_cons12 (l : List UInt8) (i : Nat) (h : i < l.length) : l.drop i = l.getD i 0 :: l.drop (i + 1) := by
  rw [List.getD_eq_getElem?_getD, List.getElem?_eq_getElem h]
  exact List.drop_eq_getElem_cons h

set_option maxHeartbeats 8000000 in
theorem refSplit_any (sep l : List UInt8) (h1 : 1 ≤ sep.length) (h2 : sep.length ≤ 100) (hl : l.length ≤ 1000000) (w : World) :
    Calls Tryz.prog 85 #[.string (S l), .string (S sep)] w fun e w' => ∃ v, e = .returned v ∧ SR w.heap.size v (splG sep l) w' ∧ Below w.heap.size w w' := by
  obtain ⟨Q, hQ⟩ : ∃ Q, (fun (e : Ending) (w' : World) => ∃ v, e = .returned v ∧ SR w.heap.size v (splG sep l) w' ∧ Below w.heap.size w w') = Q := ⟨_, rfl⟩
  rw [hQ]
  have HQ : RowKit.Hid (∀ v W, SR w.heap.size v (splG sep l) W → Below w.heap.size w W → Q (.returned v) W) := by rw [← hQ]; exact fun v W h k => ⟨v, rfl, h, k⟩
  clear hQ
  have hne : sep ≠ [] := List.length_pos_iff.1 (by omega)
  have HNe := Lib.hid hne
  obtain ⟨n, hn⟩ : ∃ n, l.length = n := ⟨_, rfl⟩
  obtain ⟨m, hm⟩ : ∃ m, sep.length = m := ⟨_, rfl⟩
  have hsz : (S l).size = n := by rw [S_size, hn]
  have hsm : (S sep).size = m := by rw [S_size, hm]
  have HN := Lib.hid hn
  have HM := Lib.hid hm
  rw [hn] at hl
  rw [hm] at h1 h2
  have HX := Lib.hid (fun a b => S_extract l a b)
  have HEq := Lib.hid (fun k (hk : k + m ≤ n) => (show ((S ((l.take (k + m)).drop k)).toList == (S sep).toList) = sep.isPrefixOf (l.drop k) by
    rw [S_eq12, pre_take, hm]
    congr 1
    rw [List.drop_take, Nat.add_sub_cancel_left]))
  have HR0 := Lib.hid (SR.empty w)
  have HB0 : RowKit.Hid (Below w.heap.size w (w.alloc (.cells #[] 9))) := (Below.refl _ _).alloc (Nat.le_refl _) _
  have HD0 : RowKit.Hid (([] : List (List UInt8)) ++ addH ((l.take 0).drop 0) (splG sep (l.drop 0)) = splG sep l) := by
    unfold RowKit.Hid
    rw [List.take_zero, List.drop_zero, List.drop_zero, addH_nil _ (spl_ne sep _ l (Nat.le_refl _)), List.nil_append]
  clear hne hn hm
  generalize hs : S l = st at *
  generalize S sep = ss at *
  go_enter Tryz.func85, Tryz.ntmps85
  go_wp2
  go_loopw [5, 6, 7] (fun v5 v6 v7 wr => ∃ (f k : Nat) (D : List (List UInt8)) (g cp d : Nat), v5 = .slice (some ⟨g, 0, none⟩) d cp ∧ v6 = .int .i64 (f : Int) ∧ v7 = .int .i64 (k : Int) ∧ D.length = d ∧ d ≤ k ∧ f ≤ k ∧ k ≤ n ∧ RowKit.Hid (D ++ addH ((l.take k).drop f) (splG sep (l.drop k)) = splG sep l) ∧ RowKit.Hid (SR w.heap.size (.slice (some ⟨g, 0, none⟩) d cp) D wr) ∧ RowKit.Hid (Below w.heap.size w wr)) (fun _ _ v7 _ => n - (intOf v7).toNat)
  case atStart => exact ⟨0, 0, [], _, _, _, rfl, rfl, rfl, rfl, by omega, by omega, by omega, HD0, HR0, HB0⟩
  case round =>
    obtain ⟨f, k, D, g, cp, d, rfl, rfl, rfl, hDd, hdk, hfk, hkn, HD, HR, HB⟩ := hrel
    clear HD0 HR0 HB0
    have hbs := HB.out.size
    by_cases hc : k + m ≤ n
    · have t1 : decide ((k : Int) + (m : Int) ≤ (n : Int)) = true := decide_eq_true (by omega)
      have t1n : decide (k + m ≤ n) = true := decide_eq_true hc
      obtain ⟨km, hkm⟩ : ∃ km, k + m = km := ⟨_, rfl⟩
      have heq := HEq.out k hc
      have hx := HX.out k (k + m)
      rw [hkm] at heq hx
      have hkmi : (k : Int) + (m : Int) = (km : Int) := by omega
      have HKm := Lib.hid hkm
      have hx2 := HX.out f k
      have j1 : (0 : Int) ≤ (k : Int) := by omega
      have j2 : (km : Int) ≤ (n : Int) := by omega
      have j6 : (k : Int) ≤ (km : Int) := by omega
      have t2 : decide ((km : Int) ≤ (n : Int)) = true := decide_eq_true (by omega)
      have t2n : decide (km ≤ n) = true := decide_eq_true (by omega)
      have j3 : (0 : Int) ≤ (f : Int) := by omega
      have j4 : (f : Int) ≤ (k : Int) := by omega
      have j5 : (k : Int) ≤ (n : Int) := by omega
      cases hp : sep.isPrefixOf (l.drop k) with
      | true =>
        rw [hp] at heq
        have hkm2 := HKm.out
        have HD2 : RowKit.Hid ((D ++ [(l.take k).drop f]) ++ addH ((l.take (k + m)).drop (k + m)) (splG sep (l.drop (k + m))) = splG sep l) := by
          unfold RowKit.Hid
          have h0 : (l.take (k + m)).drop (k + m) = [] := List.drop_of_length_le (by rw [List.length_take]; omega)
          rw [← HD.out, spl_hit sep _ HNe.out hp, List.drop_drop, HM.out, h0, addH_nil _ (spl_ne sep _ _ (Nat.le_refl _)), List.append_assoc]
          show _ = D ++ ((l.take k).drop f ++ []) :: _
          rw [List.append_nil]
          rfl
        generalize (l.take km).drop k = x1 at *
        clear hp HEq hkm hc
        go_wp2_with (at_builtin; go_loud (refine append_sr _ rfl _ _ rfl w.heap.size (.slice (some ⟨g, 0, none⟩) d cp) D ((l.take k).drop f) rfl HR.out rfl (by omega) hbs w.heap.size w (Nat.le_refl _) HB.out ?_))
        intro v2 w2 hr2 hb2
        (try intro _)
        obtain ⟨g2, cp2, rfl⟩ := sr_form hr2
        have hl2 : (D ++ [(l.take k).drop f]).length = d + 1 := by rw [List.length_append, hDd]; rfl
        have HR2 := Lib.hid hr2
        have HB2 := Lib.hid hb2
        have HL2 := Lib.hid hl2
        rw [hl2] at HR2 ⊢
        clear hr2 hb2 hl2
        go_wp2
        go_roundw
        case rel => exact ⟨km, km, D ++ [(l.take k).drop f], g2, cp2, d + 1, rfl, by go_num, by go_num, HL2.out, by omega, by omega, by omega, by rw [hkm2] at HD2; exact HD2, HR2, HB2⟩
        case measure => simp [intOf]; omega
      | false =>
        rw [hp] at heq
        have HD2 : RowKit.Hid (D ++ addH ((l.take (k + 1)).drop f) (splG sep (l.drop (k + 1))) = splG sep l) := by
          unfold RowKit.Hid
          have hlt : k < l.length := by rw [HN.out]; omega
          rw [piece_snoc l f k hfk hlt, ← addH_app, ← HD.out]
          have := spl_miss sep (l.getD k 0) (l.drop (k + 1)) (by rw [← drop_cons12 l k hlt]; exact hp)
          rw [drop_cons12 l k hlt, this]
        generalize (l.take km).drop k = x1 at *
        clear hp HEq hkm hc
        go_wp2
        go_roundw
        case rel => exact ⟨f, k + 1, D, g, cp, d, rfl, rfl, by go_num, hDd, by omega, by omega, by omega, HD2, HR, HB⟩
        case measure => simp [intOf]; omega
    · have t1 : decide ((k : Int) + (m : Int) ≤ (n : Int)) = false := decide_eq_false (by omega)
      have t1n : decide (k + m ≤ n) = false := decide_eq_false hc
      have hx2 := HX.out f n
      have j3 : (0 : Int) ≤ (f : Int) := by omega
      have j4 : (f : Int) ≤ (n : Int) := by omega
      have HD2 : RowKit.Hid (D ++ [(l.take n).drop f] = splG sep l) := by
        unfold RowKit.Hid
        have hsh : (l.drop k).length < sep.length := by rw [List.length_drop, HN.out, HM.out]; omega
        rw [← HD.out, spl_short sep _ hsh]
        show _ = D ++ [(l.take k).drop f ++ l.drop k]
        congr 2
        rw [← HN.out, List.take_length]
        have : l.drop f = (l.take k ++ l.drop k).drop f := by rw [List.take_append_drop]
        rw [this, List.drop_append_of_le_length (by rw [List.length_take, HN.out]; omega)]
      clear HEq
      go_wp2_with (at_builtin; go_loud (refine append_sr _ rfl _ _ rfl w.heap.size (.slice (some ⟨g, 0, none⟩) d cp) D ((l.take n).drop f) rfl HR.out rfl (by omega) hbs w.heap.size w (Nat.le_refl _) HB.out ?_))
      intro v2 w2 hr2 hb2
      (try intro _)
      rw [HD2.out] at hr2
      have HR2 := Lib.hid hr2
      have HB2 := Lib.hid hb2
      clear hr2 hb2
      go_wp2
      first | exact HQ.out _ _ HR2.out HB2.out | (go_ret; exact HQ.out _ _ HR2.out HB2.out)

theorem glu_take (sep : List UInt8) (L : List (List UInt8)) (k : Nat) (h : k < L.length) : gluX sep (L.take (k + 1)) = (if k = 0 then gluX sep (L.take k) else gluX sep (L.take k) ++ sep) ++ L.getD k [] := by
  rw [List.take_succ_eq_append_getElem h, glu_snoc, List.getD_eq_getElem?_getD, List.getElem?_eq_getElem h]
  by_cases hk : k = 0
  · subst hk
    rw [if_pos (by rw [List.take_zero]), if_pos rfl, List.take_zero]
    rfl
  · rw [if_neg (by intro e; have := congrArg List.length e; rw [List.length_take, List.length_nil] at this; omega), if_neg hk]
    rfl
theorem glu_le (sep : List UInt8) (m : Nat) (hs : sep.length ≤ 100) : ∀ (L : List (List UInt8)), (∀ x ∈ L, x.length ≤ m) → (gluX sep L).length ≤ (m + 100) * L.length
  | [], _ => by simp [gluX]
  | [x], h => by
    have := h x (by simp)
    show x.length ≤ _
    simp
    omega
  | x :: y :: r, h => by
    have h0 := h x (by simp)
    have ih := glu_le sep m hs (y :: r) (fun z hz => h z (by simp [hz]))
    show (x ++ sep ++ gluX sep (y :: r)).length ≤ _
    rw [List.length_append, List.length_append, List.length_cons (a := x), Nat.mul_add]
    omega
set_option maxHeartbeats 8000000 in
theorem refGlue_any (sep : List UInt8) (L : List (List UInt8)) (v : Value) (w : World) (hv : BL v L w) (hs : sep.length ≤ 100) (m : Nat) (hm : m ≤ 1000000) (hL : ∀ x ∈ L, x.length ≤ m) (hn : L.length ≤ 1000000) :
    Calls Tryz.prog 70 #[v, .string (S sep)] w fun e w' => e = .returned (.string (S (gluX sep L))) ∧ w' = w := by
  obtain ⟨res, hres⟩ : ∃ r, gluX sep L = r := ⟨_, rfl⟩
  have HRes := Lib.hid hres
  rw [hres]
  have HV := Lib.hid hv
  obtain ⟨a, cap, rfl, -, -⟩ := hv.length
  obtain ⟨n, hn2⟩ : ∃ n, L.length = n := ⟨_, rfl⟩
  rw [hn2] at HV hn ⊢
  have HN := Lib.hid hn2
  have HSt := Lib.hid (fun k (h : k < n) => glu_take sep L k (by rw [hn2]; exact h))
  have HLe := Lib.hid (fun k => glu_le sep m hs (L.take k) (fun x hx => hL x (List.mem_of_mem_take hx)))
  have HLx := Lib.hid (fun k (h : k < n) => (show (L.getD k []).length ≤ m by
    rw [List.getD_eq_getElem?_getD, List.getElem?_eq_getElem (by rw [hn2]; exact h)]
    exact hL _ (List.getElem_mem _)))
  have hss := S_size sep
  have HAp := Lib.hid S_append
  obtain ⟨sl, hsl⟩ : ∃ n, sep.length = n := ⟨_, rfl⟩
  rw [hsl] at hs hss
  clear hv hn2 hres hL hsl
  obtain ⟨ss, hse⟩ : ∃ x, S sep = x := ⟨_, rfl⟩
  have HSe := Lib.hid hse
  rw [hse] at hss ⊢
  clear hse
  go_enter Tryz.func70, Tryz.ntmps70
  go_wp2
  go_loopw [5, 6] (fun v5 v6 wr => ∃ k : Nat, v5 = .string (S (gluX sep (L.take k))) ∧ v6 = .int .i64 (k : Int) ∧ k ≤ n ∧ w = wr) (fun _ v6 _ => n - (intOf v6).toNat)
  case atStart => exact ⟨0, by rw [List.take_zero]; rfl, rfl, by omega, rfl⟩
  case round =>
    obtain ⟨k, rfl, rfl, hk, rfl⟩ := hrel
    by_cases hkn : k < n
    · have i1 : (0 : Int) ≤ (k : Int) := by omega
      have i2 : (k : Int) < (n : Int) := by omega
      obtain ⟨g, o, he, hg, hcell⟩ : ∃ g o, a = some ⟨g, o, none⟩ ∧ g < w.heap.size ∧ w.cell? ⟨g, o + k, none⟩ = some (strB (L.getD k [])) := by
        obtain ⟨a', cap', he, _, _, _, hx⟩ := HV.out
        obtain ⟨rfl, -, rfl⟩ := Value.slice.inj he
        obtain ⟨g, o, e1, e2, e3⟩ := hx k (by rw [HN.out]; exact hkn)
        exact ⟨g, o, e1, e2, e3⟩
      subst he
      unfold strB at hcell
      have hle := HLe.out k
      have hlx := HLx.out k hkn
      have hst := HSt.out k hkn
      have hlt : (L.take k).length = k := by rw [List.length_take, HN.out]; omega
      rw [hlt] at hle
      have hbound : (m + 100) * k ≤ 1000100 * 1000000 := Nat.mul_le_mul (by omega) (by omega)
      obtain ⟨G, hG⟩ : ∃ G, gluX sep (L.take k) = G := ⟨_, rfl⟩
      obtain ⟨y, hy⟩ : ∃ y, L.getD k [] = y := ⟨_, rfl⟩
      rw [hG] at hle hst ⊢
      rw [hy] at hcell hlx hst
      have hz1 := S_size G
      have hz2 := S_size y
      by_cases hk0 : k = 0
      · rw [if_pos hk0] at hst
        have HR2 : RowKit.Hid (Value.string (S G ++ S y) = .string (S (gluX sep (L.take (k + 1))))) := by
          unfold RowKit.Hid
          rw [hst, HAp.out]
        have t1 : decide ((0 : Int) < (k : Int)) = false := decide_eq_false (by omega)
        have t1n : decide (0 < k) = false := decide_eq_false (by omega)
        have b1 : ¬ 9223372036854775807 < (S G).size + (S y).size := by rw [hz1, hz2]; omega
        clear hG hy hst hlt hk0
        generalize S G = sg at *
        generalize S y = sy at *
        go_wp2
        go_roundw
        case rel => exact ⟨k + 1, HR2.out, by go_num, by omega, by first | rfl | trivial⟩
        case measure => simp [intOf]; omega
      · rw [if_neg hk0] at hst
        have HR2 : RowKit.Hid (Value.string (S G ++ ss ++ S y) = .string (S (gluX sep (L.take (k + 1))))) := by
          unfold RowKit.Hid
          rw [hst, ← HSe.out, HAp.out, HAp.out]
        have t1 : decide ((0 : Int) < (k : Int)) = true := decide_eq_true (by omega)
        have t1n : decide (0 < k) = true := decide_eq_true (by omega)
        have b1 : ¬ 9223372036854775807 < (S G).size + sl := by rw [hz1]; omega
        have b2 : ¬ 9223372036854775807 < (S G).size + sl + (S y).size := by rw [hz1, hz2]; omega
        clear hG hy hst hlt
        generalize S G = sg at *
        generalize S y = sy at *
        go_wp2
        go_roundw
        case rel => exact ⟨k + 1, HR2.out, by go_num, by omega, by first | rfl | trivial⟩
        case measure => simp [intOf]; omega
    · obtain rfl : k = n := by omega
      have hfin : L.take k = L := by rw [← HN.out, List.take_length]
      rw [hfin, HRes.out]
      go_wp2
      first | exact ⟨rfl, rfl⟩ | (go_ret; exact ⟨rfl, rfl⟩)
end

section
open Go.RowKit Go.PlainAid
theorem acells {N : Nat} {x0 x1 x2 x3 x4 : Value} {w : World} (h : w.heap[N]? = some (.cells #[x0, x1, x2, x3, x4] 31 (0, 0))) :
    (w.cell? ⟨N, 0, none⟩ = some x0 ∧ w.cell? ⟨N, 1, none⟩ = some x1 ∧ w.cell? ⟨N, 2, none⟩ = some x2 ∧ w.cell? ⟨N, 3, none⟩ = some x3 ∧ w.cell? ⟨N, 4, none⟩ = some x4) ∧
    (w.frozen? ⟨N, 0, none⟩ = false ∧ w.frozen? ⟨N, 1, none⟩ = false ∧ w.frozen? ⟨N, 2, none⟩ = false ∧ w.frozen? ⟨N, 3, none⟩ = false ∧ w.frozen? ⟨N, 4, none⟩ = false) := by
  refine ⟨⟨?_, ?_, ?_, ?_, ?_⟩, Lib.frozen_of_heap h 0, Lib.frozen_of_heap h 1, Lib.frozen_of_heap h 2, Lib.frozen_of_heap h 3, Lib.frozen_of_heap h 4⟩ <;> (rw [Lib.cell_of_heap h]; rfl)
theorem SR.one13 (w : World) (x : List UInt8) : SR w.heap.size (.slice (some ⟨w.heap.size, 0, none⟩) 1 1) [x] (w.alloc (.cells #[strB x] 9)) :=
  ⟨⟨rfl, .inr ⟨w.heap.size, 1, #[strB x], rfl, Nat.le_refl _, heap_alloc_new w _, Nat.le_refl _, by unfold maxLen; omega, rfl, rfl⟩⟩, fun h => by cases h⟩
theorem BL.at13 {v : Value} {L : List (List UInt8)} {w : World} (h : BL v L w) (k : Nat) (hk : k < L.length) : ∃ g o cap, v = .slice (some ⟨g, o, none⟩) L.length cap ∧ g < w.heap.size ∧ w.cell? ⟨g, o + k, none⟩ = some (.string (S (L.getD k []))) := by
  obtain ⟨a, cap, rfl, _, _, _, hx⟩ := h
  obtain ⟨g, o, rfl, h1, h2⟩ := hx k hk
  exact ⟨g, o, cap, rfl, h1, h2⟩
theorem SR.mono13 {B B' : Nat} {v : Value} {L : List (List UInt8)} {w : World} (h : SR B' v L w) (hB : B ≤ B') : SR B v L w := by
  refine ⟨⟨h.row.1, ?_⟩, h.nn⟩
  rcases h.row.2 with hn | ⟨g, cap, cur, hv, hB', rest⟩
  · exact .inl hn
  · exact .inr ⟨g, cap, cur, hv, Nat.le_trans hB hB', rest⟩
theorem take_snoc13 (L : List (List UInt8)) (k : Nat) (h : k < L.length) : L.take (k + 1) = L.take k ++ [L.getD k []] := by
  rw [List.take_succ_eq_append_getElem h, List.getD_eq_getElem?_getD, List.getElem?_eq_getElem h]
  rfl
set_option maxHeartbeats 8000000 in
theorem refHeadings_any (a : Au) (s t : Value) (w : World) (h : AN a s t w) (hz : a.see.length ≤ 1000000) :
    Calls Tryz.prog 29 #[AV a s t] w fun e w' => ∃ v, e = .returned v ∧ SR w.heap.size v (hdsX a) w' ∧ Below w.heap.size w w' := by
  obtain ⟨Q, hQ⟩ : ∃ Q, (fun (e : Ending) (w' : World) => ∃ v, e = .returned v ∧ SR w.heap.size v (hdsX a) w' ∧ Below w.heap.size w w') = Q := ⟨_, rfl⟩
  rw [hQ]
  obtain ⟨W0, hW0⟩ : ∃ W, w.alloc (.cells #[.int .i64 a.id, .int .i64 a.kind, .string (S a.heading), s, t] 31) = W := ⟨_, rfl⟩
  have b0 : Below w.heap.size w W0 := by rw [← hW0]; exact (Below.refl _ _).alloc (Nat.le_refl _) _
  have hR0 : W0.heap[w.heap.size]? = some (.cells #[.int .i64 a.id, .int .i64 a.kind, .string (S a.heading), s, t] 31 (0, 0)) := by rw [← hW0]; exact heap_alloc_new w _
  have hlt0 : w.heap.size < W0.heap.size := by rw [← hW0]; simp
  have HQ : RowKit.Hid (∀ v W, SR W0.heap.size v (hdsX a) W → Below W0.heap.size W0 W → Q (.returned v) W) := by
    rw [← hQ]
    exact fun v W h1 h2 => ⟨v, rfl, h1.mono13 (Nat.le_of_lt hlt0), b0.trans (h2.mono b0.size)⟩
  have HBox := Lib.hid (fun (W : World) (h : Below W0.heap.size W0 W) => acells ((h.block w.heap.size hlt0).trans hR0))
  have HS := Lib.hid (h.1.after b0)
  have HW0 := Lib.hid hW0
  obtain ⟨sa, sc, hs, hc1, hc2⟩ := h.1.length
  subst hs
  obtain ⟨n, hn⟩ : ∃ n, a.see.length = n := ⟨_, rfl⟩
  have HN := Lib.hid hn
  rw [hn] at HS hc1 hz HBox HW0 ⊢
  obtain ⟨W1, hW1⟩ : ∃ W, W0.alloc (.cells #[.string (S a.heading)] 9) = W := ⟨_, rfl⟩
  have HR1 : RowKit.Hid (SR W0.heap.size (.slice (some ⟨W0.heap.size, 0, none⟩) 1 1) [a.heading] W1) := by rw [← hW1]; exact SR.one13 W0 a.heading
  have HB1 : RowKit.Hid (Below W0.heap.size W0 W1) := by rw [← hW1]; exact (Below.refl _ _).alloc (Nat.le_refl _) _
  have HW1 := Lib.hid hW1
  clear hQ hW0 hR0 b0 hlt0 h hn hW1
  unfold AV
  obtain ⟨⟨x0, x1, x2, x3, x4⟩, -⟩ := HBox.out W0 (Below.refl _ _)
  go_enter Tryz.func29, Tryz.ntmps29
  go_upto_region 1 with fail
  rw [HW0.out]
  clear HW0
  go_upto_region 2 with fail
  rw [HW1.out]
  clear HW1 x0 x1 x2 x3 x4
  go_wp2
  go_loopw [3, 4] (fun v3 v4 wr => ∃ (k d g cp : Nat) (D : List (List UInt8)), v3 = .slice (some ⟨g, 0, none⟩) d cp ∧ v4 = .int .i64 (k : Int) ∧ k ≤ n ∧ D.length = d ∧ d = k + 1 ∧ RowKit.Hid (D = a.heading :: a.see.take k) ∧ RowKit.Hid (SR W0.heap.size (.slice (some ⟨g, 0, none⟩) d cp) D wr) ∧ RowKit.Hid (Below W0.heap.size W0 wr)) (fun _ v4 _ => n - (intOf v4).toNat)
  case atStart => exact ⟨0, 1, _, _, [a.heading], rfl, rfl, Nat.zero_le _, rfl, rfl, by rw [List.take_zero]; rfl, HR1, HB1⟩
  case round =>
    obtain ⟨k, d, g, cp, D, rfl, rfl, hk, hDd, hdk, HD, HR, HB⟩ := hrel
    clear HR1 HB1
    obtain ⟨⟨x0, x1, x2, x3, x4⟩, -⟩ := HBox.out wr HB.out
    by_cases hkn : k < n
    · have i1 : (0 : Int) ≤ (k : Int) := by omega
      have i2 : (k : Int) < (n : Int) := by omega
      obtain ⟨g2, o2, cap2, he, hg2, c0⟩ := (HS.out.after HB.out).at13 k (by rw [HN.out]; exact hkn)
      obtain ⟨rfl, -, hcp⟩ := Value.slice.inj he
      have hst := take_snoc13 a.see k (by rw [HN.out]; exact hkn)
      have HSt := Lib.hid hst
      obtain ⟨y, hy⟩ : ∃ y, a.see.getD k [] = y := ⟨_, rfl⟩
      rw [hy] at c0 HSt
      have hsz := HB.out.size
      clear he hcp hst hy
      go_wp2_with (at_builtin; go_loud (refine append_sr _ rfl _ _ rfl W0.heap.size (.slice (some ⟨g, 0, none⟩) d cp) D y rfl HR.out rfl (by omega) hsz W0.heap.size W0 (Nat.le_refl _) HB.out ?_))
      intro v2 w3 hr3 hb3
      (try intro _)
      obtain ⟨g3, cp3, rfl⟩ := sr_form hr3
      have hl3 : (D ++ [y]).length = d + 1 := by rw [List.length_append, hDd]; rfl
      have HL3 := Lib.hid hl3
      have HD2 : RowKit.Hid (D ++ [y] = a.heading :: a.see.take (k + 1)) := by
        unfold RowKit.Hid
        rw [HD.out, HSt.out]
        rfl
      rw [hl3] at hr3 ⊢
      have HR3 := Lib.hid hr3
      have HB3 := Lib.hid hb3
      clear hr3 hb3 hl3 x0 x1 x2 x3 x4 HSt HR HB HD
      go_wp2
      go_roundw
      case rel => exact ⟨k + 1, d + 1, g3, cp3, D ++ [y], by first | rfl | trivial, by go_num, by omega, HL3.out, by omega, HD2, HR3, HB3⟩
      case measure => simp [intOf]; omega
    · obtain rfl : k = n := by omega
      have hD := HD.out
      rw [List.take_of_length_le (by rw [HN.out]; exact Nat.le_refl _)] at hD
      have hfin := Lib.hid (HQ.out _ _ (by rw [show hdsX a = D from hD.symm]; exact HR.out) HB.out)
      clear hD HQ HR HB HD
      go_wp2
      first | exact hfin.out | (go_ret; exact hfin.out)
end

section
open Go.RowKit Go.PlainAid
theorem getD_at13 (L : List Au) (k : Nat) (h : k < L.length) : L.getD k au0 = L[k] := by
  rw [List.getD_eq_getElem?_getD, List.getElem?_eq_getElem h]
  rfl
theorem get_first (L : List Au) (id : Int) (k : Nat) (hk : k < L.length) (h : ∀ j, j < k → (L.getD j au0).id ≠ id) (he : (L.getD k au0).id = id) : getA L id = some (L.getD k au0) := by
  unfold getA
  rw [List.find?_eq_some_iff_getElem]
  refine ⟨by simpa using he, k, hk, (getD_at13 L k hk).symm, fun j hj => ?_⟩
  have := h j hj
  rw [getD_at13 L j (by omega)] at this
  simpa using this
theorem get_nope (L : List Au) (id : Int) (h : ∀ j, j < L.length → (L.getD j au0).id ≠ id) : getA L id = none := by
  unfold getA
  rw [List.find?_eq_none]
  intro a ha
  obtain ⟨j, hj, rfl⟩ := List.mem_iff_getElem.1 ha
  have := h j hj
  rw [getD_at13 L j hj] at this
  simpa using this
def setA5 (w : World) (b : Nat) (x0 x1 x2 x3 x4 : Value) : World := ((((w.setCell ⟨b, 0, none⟩ x0).setCell ⟨b, 1, none⟩ x1).setCell ⟨b, 2, none⟩ x2).setCell ⟨b, 3, none⟩ x3).setCell ⟨b, 4, none⟩ x4
theorem au_set5 {w : World} {b : Nat} {c0 c1 c2 c3 c4 x0 x1 x2 x3 x4 : Value} (h : w.heap[b]? = some (.cells #[c0, c1, c2, c3, c4] 31 (0, 0))) :
    (setA5 w b x0 x1 x2 x3 x4).heap[b]? = some (.cells #[x0, x1, x2, x3, x4] 31 (0, 0)) := by
  simp [setA5, World.setCell, Array.getElem?_modify, h]
theorem au_below {n : Nat} {w W : World} {b : Nat} {x0 x1 x2 x3 x4 : Value} (h : Below n w W) (hb : n ≤ b) : Below n w (setA5 W b x0 x1 x2 x3 x4) :=
  ((((h.setCell (p := ⟨b, 0, none⟩) hb x0).setCell (p := ⟨b, 1, none⟩) hb x1).setCell (p := ⟨b, 2, none⟩) hb x2).setCell (p := ⟨b, 3, none⟩) hb x3).setCell (p := ⟨b, 4, none⟩) hb x4
theorem results_au {P : Program} {fn : Func} {p u : Tmp} {ty : TypeId} (h : fn.results = #[.cell p ty, .tmp u]) (tmps : Array Value) (w : World) (g : Nat) (t : TypeId) (cs : Array Value) (fr : Nat × Nat) (d : TypeDesc)
    (hp : tmps.getD p undef = .pointer (some ⟨g, 0, none⟩)) (hg : w.heap[g]? = some (.cells cs t fr))
    (hu : P.underlying ty = some d) (hd : (match d with | .struct _ | .array _ _ => true | _ => false) = true) (hi : (P.info? ty).map (·.size) = some cs.size) :
    (results fn tmps).run P w = .ok (.tuple #[.agg cs, tmps.getD u undef]) w := by
  rw [results_cell_tmp h, hp]
  simp [asAddr, run_loadVar_row w g t ty cs fr d hg hu hd hi, Result.andThen]
set_option maxHeartbeats 16000000 in
set_option maxRecDepth 100000 in
theorem refGet_any (v : Value) (L : List Au) (id : Int) (w : World) (hv : AL v L w) (hz : L.length ≤ 1000000) :
    Calls Tryz.prog 11 #[v, .int .i64 id] w fun e w' => ∃ s t, e = .returned (.tuple #[AV ((getA L id).getD au0) s t, .bool (getA L id).isSome]) ∧ AN ((getA L id).getD au0) s t w' ∧ Below w.heap.size w w' := by
  obtain ⟨Q, hQ⟩ : ∃ Q, (fun (e : Ending) (w' : World) => ∃ s t, e = .returned (.tuple #[AV ((getA L id).getD au0) s t, .bool (getA L id).isSome]) ∧ AN ((getA L id).getD au0) s t w' ∧ Below w.heap.size w w') = Q := ⟨_, rfl⟩
  rw [hQ]
  obtain ⟨W0, hW0⟩ : ∃ W, w.alloc (.cells #[.int .i64 0, .int .i64 0, .string ⟨#[]⟩, .slice none 0 0, .slice none 0 0] 31) = W := ⟨_, rfl⟩
  have b0 : Below w.heap.size w W0 := by rw [← hW0]; exact (Below.refl _ _).alloc (Nat.le_refl _) _
  have hR0 : W0.heap[w.heap.size]? = some (.cells #[.int .i64 0, .int .i64 0, .string ⟨#[]⟩, .slice none 0 0, .slice none 0 0] 31 (0, 0)) := by rw [← hW0]; exact heap_alloc_new w _
  have HG : RowKit.Hid (∀ a s t, getA L id = some a → AN a s t w → Q (.returned (.tuple #[.agg #[.int .i64 a.id, .int .i64 a.kind, .string (S a.heading), s, t], .bool true])) (setA5 W0 w.heap.size (.int .i64 a.id) (.int .i64 a.kind) (.string (S a.heading)) s t) ∧ (setA5 W0 w.heap.size (.int .i64 a.id) (.int .i64 a.kind) (.string (S a.heading)) s t).heap[w.heap.size]? = some (.cells #[.int .i64 a.id, .int .i64 a.kind, .string (S a.heading), s, t] 31 (0, 0))) := by
    intro a s t ha hn
    refine ⟨?_, au_set5 hR0⟩
    rw [← hQ]
    refine ⟨s, t, by rw [ha]; rfl, ?_, au_below b0 (Nat.le_refl _)⟩
    rw [ha]
    exact hn.after (au_below b0 (Nat.le_refl _))
  have HN0 : RowKit.Hid (getA L id = none → Q (.returned (.tuple #[.agg #[.int .i64 0, .int .i64 0, .string ⟨#[]⟩, .slice none 0 0, .slice none 0 0], .bool false])) (setA5 W0 w.heap.size (.int .i64 0) (.int .i64 0) (.string ⟨#[]⟩) (.slice none 0 0) (.slice none 0 0)) ∧ (setA5 W0 w.heap.size (.int .i64 0) (.int .i64 0) (.string ⟨#[]⟩) (.slice none 0 0) (.slice none 0 0)).heap[w.heap.size]? = some (.cells #[.int .i64 0, .int .i64 0, .string ⟨#[]⟩, .slice none 0 0, .slice none 0 0] 31 (0, 0))) := by
    intro ha
    refine ⟨?_, au_set5 hR0⟩
    rw [← hQ]
    refine ⟨.slice none 0 0, .slice none 0 0, by rw [ha]; rfl, ?_, au_below b0 (Nat.le_refl _)⟩
    rw [ha]
    exact ⟨⟨none, 0, rfl, Nat.le_refl _, Nat.zero_le _, fun _ => rfl, fun i hi => by cases hi⟩, IL.nil _⟩
  unfold setA5 at HG HN0
  have HV := Lib.hid hv
  have HB0 := Lib.hid b0
  have HBx := Lib.hid (acells hR0)
  have HW0 := Lib.hid hW0
  obtain ⟨va, vc, rfl, hc1, hc2⟩ := hv.length
  obtain ⟨n, hn⟩ : ∃ n, L.length = n := ⟨_, rfl⟩
  have HN := Lib.hid hn
  rw [hn] at HV hc1 hz ⊢
  clear hQ hn hW0 hR0 b0
  go_enter Tryz.func11, Tryz.ntmps11
  go_upto_region 1 with fail
  rw [HW0.out]
  clear HW0
  go_wp2
  go_loopw [6] (fun i wr => ∃ k : Nat, i = .int .i64 (k : Int) ∧ k ≤ n ∧ RowKit.Hid (∀ j, j < k → (L.getD j au0).id ≠ id) ∧ W0 = wr) (fun i _ => n - (intOf i).toNat)
  case atStart => exact ⟨0, rfl, Nat.zero_le _, (fun j hj => by omega), rfl⟩
  case round =>
    obtain ⟨k, rfl, hk, HJ, hwr⟩ := hrel
    rw [← hwr]
    clear hwr
    by_cases hkn : k < n
    · have i1 : (0 : Int) ≤ (k : Int) := by omega
      have i2 : (k : Int) < (n : Int) := by omega
      obtain ⟨g, o, cap', s, t, he, hg, c0, c1, c2, c3, c4, hq⟩ := HV.out.at k (by rw [HN.out]; exact hkn)
      obtain ⟨rfl, -, hcp⟩ := Value.slice.inj he
      replace c0 := (HB0.out.cell (p := ⟨g, o + k * 5, none⟩) hg).trans c0
      replace c1 := (HB0.out.cell (p := ⟨g, o + k * 5 + 1, none⟩) hg).trans c1
      replace c2 := (HB0.out.cell (p := ⟨g, o + k * 5 + 2, none⟩) hg).trans c2
      replace c3 := (HB0.out.cell (p := ⟨g, o + k * 5 + 3, none⟩) hg).trans c3
      replace c4 := (HB0.out.cell (p := ⟨g, o + k * 5 + 4, none⟩) hg).trans c4
      by_cases hx : (L.getD k au0).id = id
      · have hge := get_first L id k (by rw [HN.out]; exact hkn) HJ.out hx
        have hG := Lib.hid (HG.out _ s t hge hq)
        obtain ⟨⟨x0, x1, x2, x3, x4⟩, z0, z1, z2, z3, z4⟩ := HBx.out
        have hgn : g ≠ w.heap.size := Nat.ne_of_lt hg
        rw [hx] at c0 hG
        obtain ⟨as2, cs2, hs, -, -⟩ := hq.1.length
        obtain ⟨at2, ct2, ht, -⟩ := hq.2
        subst hs ht
        clear HG HN0 HJ HV he hcp hge hq hx
        generalize L.getD k au0 = a at *
        go_wp2
        (try simp only [Exit.inBlock, Exit.then])
        refine bodyPost_ret (results_au rfl _ _ w.heap.size _ _ _ _ rfl hG.out.2 Tryz.underlying31 rfl (by kernel_rfl)) rfl ?_
        exact hG.out.1
      · have HJ2 : RowKit.Hid (∀ j, j < k + 1 → (L.getD j au0).id ≠ id) := by
          intro j hj
          rcases Nat.lt_or_ge j k with h | h
          · exact HJ.out j h
          · rw [show j = k by omega]; exact hx
        have t0 : ((L.getD k au0).id == id) = false := by simpa using hx
        clear HG HN0 HJ he hcp hx c1 c2 c3 c4 hq
        generalize (L.getD k au0).id = y at *
        go_wp2
        go_roundw
        case rel => first | exact ⟨k + 1, by go_num, by omega, HJ2.out, rfl⟩ | exact ⟨k + 1, by go_num, by omega, HJ2.out, trivial⟩
        case measure => simp [intOf]; omega
    · obtain rfl : k = n := by omega
      have hN := Lib.hid (HN0.out (get_nope L id (by rw [HN.out]; exact HJ.out)))
      obtain ⟨⟨x0, x1, x2, x3, x4⟩, z0, z1, z2, z3, z4⟩ := HBx.out
      clear HG HN0 HJ HV
      go_wp2
      (try simp only [Exit.inBlock, Exit.then])
      refine bodyPost_ret (results_au rfl _ _ w.heap.size _ _ _ _ rfl hN.out.2 Tryz.underlying31 rfl (by kernel_rfl)) rfl ?_
      exact hN.out.1
end

end Go.Proofs.YtmcolapcmjdoeaaGreatDoor
