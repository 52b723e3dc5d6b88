/- Merged: R13A, Own2, R12A, R13B, R13C. -/
import Derived.Test.YthjdopnoophigaaGreatDoorQ02
import Derived.Laws.AppendOwn
import Derived.Below
import Derived.WalkKit
import Derived.Test.YthjdopnoophigaaGreatDoorQ01
import Derived.Lib.Builder
import Derived.Deep.Cut
import Derived.Deep.CutRange
import Derived.Laws.ResultCell
import Derived.Deep.RegionHeld
namespace Go.Proofs.YthjdopnoophigaaGreatDoor

section
open Go.RowKit Go.PlainAid
theorem IL.at13 {v : Value} {l : List Int} {w : World} (h : IL v l w) (k : Nat) (hk : k < l.length) : ∃ g o cap, v = .slice (some ⟨g, o, none⟩) l.length cap ∧ g < w.heap.size ∧ w.cell? ⟨g, o + k, none⟩ = some (.int .i64 (l.getD k 0)) := by
  obtain ⟨a, cap, rfl, hc, hi⟩ := h
  obtain ⟨g, o, rfl, hg, h2⟩ := hi k l[k] (List.getElem?_eq_getElem hk)
  exact ⟨g, o, cap, rfl, hg, by rw [h2, List.getD_eq_getElem?_getD, List.getElem?_eq_getElem hk]; rfl⟩
end

section
open Go.RowKit
theorem append_block {P : Program} (w : World) (base : Nat) (t ty e : TypeId) (i : TypeInfo) (z : Value) (size bytes : Nat) (ht : P.underlying t = some (.slice e)) (hi : P.info? e = some i) (hz : i.zero = some z)
    (hsize : i.size = size) (hby : i.bytes = bytes) (v : Value) (n : Nat) (xs : List Value) (hown : w.ownsRow base e size v n xs)
    (a : Addr) (m c : Nat) (news : List Value) (hl : news.length = m * size) (hnews : ∀ j u, news[j]? = some u → w.cell? (a.add j) = some u) (h1 : ∀ u ∈ news, u.oneCell' = true) (hm : 0 < m)
    (h63 : n + m ≤ maxLen) (hbytes : (n + m) * bytes ≤ 140737488355328) (v' : Value) (w' : World) (hr : (Builtin.append_ #[t, t] ty #[v, .slice (some a) m c]).run P w = .ok v' w') :
    v'.ownBlock = v.ownBlock ∨ v'.ownBlock = some w.heap.size := by
  subst hsize
  subst hby
  have hsmall : n + m ≤ 9223372036854775807 := by simp only [maxLen] at h63; omega
  rcases hown.2 with ⟨rfl, rfl⟩ | ⟨g, cap, cur, rfl, hbg, hg, hnc, hcm, hcs, htake⟩
  · have h2 := run_append_nil (P := P) w t ty e i z ht hi hz a m c news hl hnews hm (by omega) (by have hb := hbytes; simp only [Nat.zero_add] at hb; omega)
    rw [hr] at h2
    injection h2 with h3 h4
    rw [h3]
    exact .inr rfl
  · by_cases hroom : n + m ≤ cap
    · have hfit : n * i.size + news.length ≤ cur.size := by rw [hl, hcs, ← Nat.add_mul]; exact Nat.mul_le_mul_right _ hroom
      have h2 := run_append_room (P := P) w t ty e i ht hi g n cap cur hg a m c news hl hnews h1 hroom hfit
      rw [hr] at h2
      injection h2 with h3 h4
      rw [h3]
      exact .inl rfl
    · have h2 := run_append_grow (P := P) w t ty e i z ht hi hz ⟨g, 0, none⟩ n cap xs hown.1 (hown.cells (g := g) rfl) a m c news hl hnews (by omega) (by omega) (growslice_fits (by omega) hbytes)
      rw [hr] at h2
      injection h2 with h3 h4
      rw [h3]
      exact .inr rfl

theorem wpList_append_two {P : Program} (w : World) {ops : Array Oper} {rest : List Oper} {o : Oper} {a : Act} {Q : Exit → Act → World → Prop} (hgd : o.guard = none) (s x : Operand) (t : TypeId)
    (ho : o.op = .call { callee := .builtin .append, args := #[s, x], argTypes := #[t, t] })
    (base : Nat) (e : TypeId) (i : TypeInfo) (z : Value) (size bytes : Nat) (ht : P.underlying t = some (.slice e)) (hi : P.info? e = some i) (hz : i.zero = some z)
    (hsize : i.size = size) (hby : i.bytes = bytes) (hzs : z.cells.size = size) (hsz : 0 < size)
    (v : Value) (n : Nat) (xs : List Value) (hs : a.eval s = v) (hown : w.ownsRow base e size v n xs)
    (ad : Addr) (m c : Nat) (news : List Value) (hx : a.eval x = .slice (some ad) m c) (hl : news.length = m * size) (hnews : ∀ j u, news[j]? = some u → w.cell? (ad.add j) = some u) (h1 : ∀ u ∈ news, u.oneCell' = true) (hm : 0 < m)
    (h63 : n + m ≤ maxLen) (hbytes : (n + m) * bytes ≤ 140737488355328) (hbase : base ≤ w.heap.size)
    (h : ∀ v' w', w'.ownsRow base e size v' (n + m) (xs ++ news) → w.grownBy w' v.ownBlock → v' ≠ .slice none 0 0 → (v'.ownBlock = v.ownBlock ∨ v'.ownBlock = some w.heap.size) → wpList P ops Q rest (a.put o.dst v') w') : wpList P ops Q (o :: rest) a w :=
  wpList_plain hgd fun K hK => by
    obtain ⟨v', w', hr, h2, h3, h4⟩ := run_append_own (P := P) w base t o.type e i z size bytes ht hi hz hsize hby hzs hsz v n xs hown ad m c news hl hnews h1 h63 hbytes hbase
    have h5 := append_block w base t o.type e i z size bytes ht hi hz hsize hby v n xs hown ad m c news hl hnews h1 hm h63 hbytes v' w' hr
    have h6 : K (a.put o.dst v') w' := hK _ _ (h v' w' h2 h3 (fun he => by have := (h4.1 he).2; omega) h5)
    unfold Oper.wp execOp
    simp only [ho, resolve, invoke, builtin, Sem.run_bind, Sem.run_pure, Result.andThen_ok, List.map_toArray, List.map_cons, List.map_nil, hs, hx, hr]
    exact h6

/-- Another row stays where it is, and apart. -/
theorem own_apart {w w' : World} {base2 e2 size2 n2 : Nat} {v v' u : Value} {ys : List Value} (hu : w.ownsRow base2 e2 size2 u n2 ys) (hg : w.grownBy w' v.ownBlock)
    (hne : u.ownBlock = none ∨ u.ownBlock ≠ v.ownBlock) (hb : v'.ownBlock = v.ownBlock ∨ v'.ownBlock = some w.heap.size) :
    w'.ownsRow base2 e2 size2 u n2 ys ∧ (u.ownBlock = none ∨ u.ownBlock ≠ v'.ownBlock) := by
  refine ⟨hu.kept hg hne, ?_⟩
  rcases hne with h | h
  · exact .inl h
  · rcases hb with h2 | h2
    · exact .inr (by rw [h2]; exact h)
    · refine .inr fun h3 => ?_
      have := (hu.lt _ (h3.trans h2)).2
      omega
end

section
open Go.RowKit Go.PlainAid
theorem S_eq12 (a b : List UInt8) : ((S a).toList == (S b).toList) = decide (a = b) := by
  rw [ByteArray.toList_eq, ByteArray.toList_eq]
  show (a == b) = _
  by_cases h : a = b
  · simp [h]
  · simp [h]
theorem sr_form {B : Nat} {v : Value} {L : List (List UInt8)} {w : World} (h : SR B v L w) : ∃ g cap, v = .slice (some ⟨g, 0, none⟩) L.length cap := by
  obtain ⟨g, cap, rfl, _⟩ := h.open
  exact ⟨g, cap, rfl⟩
theorem cells_one12 (w : World) (x : Value) (t : TypeId) : ∀ j u, [x][j]? = some u → (w.alloc (.cells #[x] t)).cell? ((⟨w.heap.size, 0, none⟩ : Addr).add j) = some u := by
  intro j u hj
  match j, hj with
  | 0, hj => simp at hj; subst hj; simp [Addr.add]
/-- append of one text that has just been laid to a row of one's own. -/
theorem append_sr {ops : Array Oper} {rest : List Oper} {o : Oper} {a : Act} {Q : Exit → Act → World → Prop} (w : World) (hgd : o.guard = none) (s x : Operand)
    (ho : o.op = .call { callee := .builtin .append, args := #[s, x], argTypes := #[54, 54] })
    (B : Nat) (v : Value) (L : List (List UInt8)) (y : List UInt8) (hs : a.eval s = v) (h : SR B v L w) (hx : a.eval x = .slice (some ⟨w.heap.size, 0, none⟩) 1 1) (hz : L.length ≤ 10000000) (hB : B ≤ w.heap.size)
    (N : Nat) (W1 : World) (hNB : N ≤ B) (hb : Below N W1 w)
    (hk : ∀ v' w', SR B v' (L ++ [y]) w' → Below N W1 w' → B ≤ w'.heap.size → wpList Tryz.prog ops Q rest (a.put o.dst v') w') : wpList Tryz.prog ops Q (o :: rest) a (w.alloc (.cells #[strB y] 9)) := by
  obtain ⟨i0, hi, hz0, hz1, hz2⟩ := info_string
  have hrow := h.row.alloc (.cells #[strB y] 9)
  refine wpList_append_own _ hgd s x 54 ho B 9 i0 (.string ⟨#[]⟩) 1 16 Tryz.underlying54 hi hz0 hz1 hz2 rfl (by decide) v L.length _ hs hrow ⟨w.heap.size, 0, none⟩ 1 1 [strB y] hx rfl (cells_one12 _ _ _) (by intro u hu; simp at hu; subst hu; rfl) (by unfold maxLen; omega) (by omega) (by simp; omega) ?_
  intro v2 w2 hown2 hg2 hn2
  refine hk v2 w2 ⟨by rw [List.length_append, List.map_append]; exact hown2, fun e => by have := (hn2.1 e).2; omega⟩ ?_ (Nat.le_trans (by simp; omega) hg2.size)
  exact (hb.alloc (by omega) _).grown hg2 (by simp; omega) (fun j hj => Nat.le_trans hNB (hrow.lt j hj).1)
theorem pre_take (sep : List UInt8) : ∀ (t : List UInt8), sep.isPrefixOf t = decide (t.take sep.length = sep) := by
  intro t
  cases e : sep.isPrefixOf t with
  | true =>
    obtain ⟨r, rfl⟩ := List.isPrefixOf_iff_prefix.1 e
    rw [List.take_left]
    exact (decide_eq_true rfl).symm
  | false =>
    refine (decide_eq_false (fun g => ?_)).symm
    have : sep.isPrefixOf t = true := List.isPrefixOf_iff_prefix.2 ⟨t.drop sep.length, by
      conv => lhs; lhs; rw [← g]
      exact List.take_append_drop _ _⟩
    rw [this] at e
    cases e
theorem piece_snoc (l : List UInt8) (f k : Nat) (hf : f ≤ k) (hk : k < l.length) : (l.take (k + 1)).drop f = (l.take k).drop f ++ [l.getD k 0] := by
  rw [List.take_succ_eq_append_getElem hk, List.drop_append_of_le_length (by rw [List.length_take]; omega), List.getD_eq_getElem?_getD, List.getElem?_eq_getElem hk]
  rfl
theorem drop_cons12 (l : List UInt8) (i : Nat) (h : i < l.length) : l.drop i = l.getD i 0 :: l.drop (i + 1) := by
  rw [List.getD_eq_getElem?_getD, List.getElem?_eq_getElem h]
  exact List.drop_eq_getElem_cons h

set_option maxHeartbeats 8000000 in
theorem refSplit_any (sep l : List UInt8) (h1 : 1 ≤ sep.length) (h2 : sep.length ≤ 100) (hl : l.length ≤ 1000000) (w : World) :
    Calls Tryz.prog 96 #[.string (S l), .string (S sep)] w fun e w' => ∃ v, e = .returned v ∧ SR w.heap.size v (splG sep l) w' ∧ Below w.heap.size w w' := by
  obtain ⟨Q, hQ⟩ : ∃ Q, (fun (e : Ending) (w' : World) => ∃ v, e = .returned v ∧ SR w.heap.size v (splG sep l) w' ∧ Below w.heap.size w w') = Q := ⟨_, rfl⟩
  rw [hQ]
  have HQ : RowKit.Hid (∀ v W, SR w.heap.size v (splG sep l) W → Below w.heap.size w W → Q (.returned v) W) := by rw [← hQ]; exact fun v W h k => ⟨v, rfl, h, k⟩
  clear hQ
  have hne : sep ≠ [] := List.length_pos_iff.1 (by omega)
  have HNe := Lib.hid hne
  obtain ⟨n, hn⟩ : ∃ n, l.length = n := ⟨_, rfl⟩
  obtain ⟨m, hm⟩ : ∃ m, sep.length = m := ⟨_, rfl⟩
  have hsz : (S l).size = n := by rw [S_size, hn]
  have hsm : (S sep).size = m := by rw [S_size, hm]
  have HN := Lib.hid hn
  have HM := Lib.hid hm
  rw [hn] at hl
  rw [hm] at h1 h2
  have HX := Lib.hid (fun a b => S_extract l a b)
  have HEq := Lib.hid (fun k (hk : k + m ≤ n) => (show ((S ((l.take (k + m)).drop k)).toList == (S sep).toList) = sep.isPrefixOf (l.drop k) by
    rw [S_eq12, pre_take, hm]
    congr 1
    rw [List.drop_take, Nat.add_sub_cancel_left]))
  have HR0 := Lib.hid (SR.empty w)
  have HB0 : RowKit.Hid (Below w.heap.size w (w.alloc (.cells #[] 9))) := (Below.refl _ _).alloc (Nat.le_refl _) _
  have HD0 : RowKit.Hid (([] : List (List UInt8)) ++ addH ((l.take 0).drop 0) (splG sep (l.drop 0)) = splG sep l) := by
    unfold RowKit.Hid
    rw [List.take_zero, List.drop_zero, List.drop_zero, addH_nil _ (spl_ne sep _ l (Nat.le_refl _)), List.nil_append]
  clear hne hn hm
  generalize hs : S l = st at *
  generalize S sep = ss at *
  go_enter Tryz.func96, Tryz.ntmps96
  go_wp2
  go_loopw [5, 6, 7] (fun v5 v6 v7 wr => ∃ (f k : Nat) (D : List (List UInt8)) (g cp d : Nat), v5 = .slice (some ⟨g, 0, none⟩) d cp ∧ v6 = .int .i64 (f : Int) ∧ v7 = .int .i64 (k : Int) ∧ D.length = d ∧ d ≤ k ∧ f ≤ k ∧ k ≤ n ∧ RowKit.Hid (D ++ addH ((l.take k).drop f) (splG sep (l.drop k)) = splG sep l) ∧ RowKit.Hid (SR w.heap.size (.slice (some ⟨g, 0, none⟩) d cp) D wr) ∧ RowKit.Hid (Below w.heap.size w wr)) (fun _ _ v7 _ => n - (intOf v7).toNat)
  case atStart => exact ⟨0, 0, [], _, _, _, rfl, rfl, rfl, rfl, by omega, by omega, by omega, HD0, HR0, HB0⟩
  case round =>
    obtain ⟨f, k, D, g, cp, d, rfl, rfl, rfl, hDd, hdk, hfk, hkn, HD, HR, HB⟩ := hrel
    clear HD0 HR0 HB0
    have hbs := HB.out.size
    by_cases hc : k + m ≤ n
    · have t1 : decide ((k : Int) + (m : Int) ≤ (n : Int)) = true := decide_eq_true (by omega)
      have t1n : decide (k + m ≤ n) = true := decide_eq_true hc
      obtain ⟨km, hkm⟩ : ∃ km, k + m = km := ⟨_, rfl⟩
      have heq := HEq.out k hc
      have hx := HX.out k (k + m)
      rw [hkm] at heq hx
      have hkmi : (k : Int) + (m : Int) = (km : Int) := by omega
      have HKm := Lib.hid hkm
      have hx2 := HX.out f k
      have j1 : (0 : Int) ≤ (k : Int) := by omega
      have j2 : (km : Int) ≤ (n : Int) := by omega
      have j6 : (k : Int) ≤ (km : Int) := by omega
      have t2 : decide ((km : Int) ≤ (n : Int)) = true := decide_eq_true (by omega)
      have t2n : decide (km ≤ n) = true := decide_eq_true (by omega)
      have j3 : (0 : Int) ≤ (f : Int) := by omega
      have j4 : (f : Int) ≤ (k : Int) := by omega
      have j5 : (k : Int) ≤ (n : Int) := by omega
      cases hp : sep.isPrefixOf (l.drop k) with
      | true =>
        rw [hp] at heq
        have hkm2 := HKm.out
        have HD2 : RowKit.Hid ((D ++ [(l.take k).drop f]) ++ addH ((l.take (k + m)).drop (k + m)) (splG sep (l.drop (k + m))) = splG sep l) := by
          unfold RowKit.Hid
          have h0 : (l.take (k + m)).drop (k + m) = [] := List.drop_of_length_le (by rw [List.length_take]; omega)
          rw [← HD.out, spl_hit sep _ HNe.out hp, List.drop_drop, HM.out, h0, addH_nil _ (spl_ne sep _ _ (Nat.le_refl _)), List.append_assoc]
          show _ = D ++ ((l.take k).drop f ++ []) :: _
          rw [List.append_nil]
          rfl
        generalize (l.take km).drop k = x1 at *
        clear hp HEq hkm hc
        go_wp2_with (at_builtin; go_loud (refine append_sr _ rfl _ _ rfl w.heap.size (.slice (some ⟨g, 0, none⟩) d cp) D ((l.take k).drop f) rfl HR.out rfl (by omega) hbs w.heap.size w (Nat.le_refl _) HB.out ?_))
        intro v2 w2 hr2 hb2
        (try intro _)
        obtain ⟨g2, cp2, rfl⟩ := sr_form hr2
        have hl2 : (D ++ [(l.take k).drop f]).length = d + 1 := by rw [List.length_append, hDd]; rfl
        have HR2 := Lib.hid hr2
        have HB2 := Lib.hid hb2
        have HL2 := Lib.hid hl2
        rw [hl2] at HR2 ⊢
        clear hr2 hb2 hl2
        go_wp2
        go_roundw
        case rel => exact ⟨km, km, D ++ [(l.take k).drop f], g2, cp2, d + 1, rfl, by go_num, by go_num, HL2.out, by omega, by omega, by omega, by rw [hkm2] at HD2; exact HD2, HR2, HB2⟩
        case measure => simp [intOf]; omega
      | false =>
        rw [hp] at heq
        have HD2 : RowKit.Hid (D ++ addH ((l.take (k + 1)).drop f) (splG sep (l.drop (k + 1))) = splG sep l) := by
          unfold RowKit.Hid
          have hlt : k < l.length := by rw [HN.out]; omega
          rw [piece_snoc l f k hfk hlt, ← addH_app, ← HD.out]
          have := spl_miss sep (l.getD k 0) (l.drop (k + 1)) (by rw [← drop_cons12 l k hlt]; exact hp)
          rw [drop_cons12 l k hlt, this]
        generalize (l.take km).drop k = x1 at *
        clear hp HEq hkm hc
        go_wp2
        go_roundw
        case rel => exact ⟨f, k + 1, D, g, cp, d, rfl, rfl, by go_num, hDd, by omega, by omega, by omega, HD2, HR, HB⟩
        case measure => simp [intOf]; omega
    · have t1 : decide ((k : Int) + (m : Int) ≤ (n : Int)) = false := decide_eq_false (by omega)
      have t1n : decide (k + m ≤ n) = false := decide_eq_false hc
      have hx2 := HX.out f n
      have j3 : (0 : Int) ≤ (f : Int) := by omega
      have j4 : (f : Int) ≤ (n : Int) := by omega
      have HD2 : RowKit.Hid (D ++ [(l.take n).drop f] = splG sep l) := by
        unfold RowKit.Hid
        have hsh : (l.drop k).length < sep.length := by rw [List.length_drop, HN.out, HM.out]; omega
        rw [← HD.out, spl_short sep _ hsh]
        show _ = D ++ [(l.take k).drop f ++ l.drop k]
        congr 2
        rw [← HN.out, List.take_length]
        have : l.drop f = (l.take k ++ l.drop k).drop f := by rw [List.take_append_drop]
        rw [this, List.drop_append_of_le_length (by rw [List.length_take, HN.out]; omega)]
      clear HEq
      go_wp2_with (at_builtin; go_loud (refine append_sr _ rfl _ _ rfl w.heap.size (.slice (some ⟨g, 0, none⟩) d cp) D ((l.take n).drop f) rfl HR.out rfl (by omega) hbs w.heap.size w (Nat.le_refl _) HB.out ?_))
      intro v2 w2 hr2 hb2
      (try intro _)
      rw [HD2.out] at hr2
      have HR2 := Lib.hid hr2
      have HB2 := Lib.hid hb2
      clear hr2 hb2
      go_wp2
      first | exact HQ.out _ _ HR2.out HB2.out | (go_ret; exact HQ.out _ _ HR2.out HB2.out)

theorem glu_take (sep : List UInt8) (L : List (List UInt8)) (k : Nat) (h : k < L.length) : gluX sep (L.take (k + 1)) = (if k = 0 then gluX sep (L.take k) else gluX sep (L.take k) ++ sep) ++ L.getD k [] := by
  rw [List.take_succ_eq_append_getElem h, glu_snoc, List.getD_eq_getElem?_getD, List.getElem?_eq_getElem h]
  by_cases hk : k = 0
  · subst hk
    rw [if_pos (by rw [List.take_zero]), if_pos rfl, List.take_zero]
    rfl
  · rw [if_neg (by intro e; have := congrArg List.length e; rw [List.length_take, List.length_nil] at this; omega), if_neg hk]
    rfl
theorem glu_le (sep : List UInt8) (m : Nat) (hs : sep.length ≤ 100) : ∀ (L : List (List UInt8)), (∀ x ∈ L, x.length ≤ m) → (gluX sep L).length ≤ (m + 100) * L.length
  | [], _ => by simp [gluX]
  | [x], h => by
    have := h x (by simp)
    show x.length ≤ _
    simp
    omega
  | x :: y :: r, h => by
    have h0 := h x (by simp)
    have ih := glu_le sep m hs (y :: r) (fun z hz => h z (by simp [hz]))
    show (x ++ sep ++ gluX sep (y :: r)).length ≤ _
    rw [List.length_append, List.length_append, List.length_cons (a := x), Nat.mul_add]
    omega
end

section
open Go.RowKit Go.PlainAid
theorem acells {N : Nat} {x0 x1 x2 x3 x4 : Value} {w : World} (h : w.heap[N]? = some (.cells #[x0, x1, x2, x3, x4] 56 (0, 0))) :
    (w.cell? ⟨N, 0, none⟩ = some x0 ∧ w.cell? ⟨N, 1, none⟩ = some x1 ∧ w.cell? ⟨N, 2, none⟩ = some x2 ∧ w.cell? ⟨N, 3, none⟩ = some x3 ∧ w.cell? ⟨N, 4, none⟩ = some x4) ∧
    (w.frozen? ⟨N, 0, none⟩ = false ∧ w.frozen? ⟨N, 1, none⟩ = false ∧ w.frozen? ⟨N, 2, none⟩ = false ∧ w.frozen? ⟨N, 3, none⟩ = false ∧ w.frozen? ⟨N, 4, none⟩ = false) := by
  refine ⟨⟨?_, ?_, ?_, ?_, ?_⟩, Lib.frozen_of_heap h 0, Lib.frozen_of_heap h 1, Lib.frozen_of_heap h 2, Lib.frozen_of_heap h 3, Lib.frozen_of_heap h 4⟩ <;> (rw [Lib.cell_of_heap h]; rfl)
theorem SR.one13 (w : World) (x : List UInt8) : SR w.heap.size (.slice (some ⟨w.heap.size, 0, none⟩) 1 1) [x] (w.alloc (.cells #[strB x] 9)) :=
  ⟨⟨rfl, .inr ⟨w.heap.size, 1, #[strB x], rfl, Nat.le_refl _, heap_alloc_new w _, Nat.le_refl _, by unfold maxLen; omega, rfl, rfl⟩⟩, fun h => by cases h⟩
theorem BL.at13 {v : Value} {L : List (List UInt8)} {w : World} (h : BL v L w) (k : Nat) (hk : k < L.length) : ∃ g o cap, v = .slice (some ⟨g, o, none⟩) L.length cap ∧ g < w.heap.size ∧ w.cell? ⟨g, o + k, none⟩ = some (.string (S (L.getD k []))) := by
  obtain ⟨a, cap, rfl, _, _, _, hx⟩ := h
  obtain ⟨g, o, rfl, h1, h2⟩ := hx k hk
  exact ⟨g, o, cap, rfl, h1, h2⟩
theorem SR.mono13 {B B' : Nat} {v : Value} {L : List (List UInt8)} {w : World} (h : SR B' v L w) (hB : B ≤ B') : SR B v L w := by
  refine ⟨⟨h.row.1, ?_⟩, h.nn⟩
  rcases h.row.2 with hn | ⟨g, cap, cur, hv, hB', rest⟩
  · exact .inl hn
  · exact .inr ⟨g, cap, cur, hv, Nat.le_trans hB hB', rest⟩
theorem take_snoc13 (L : List (List UInt8)) (k : Nat) (h : k < L.length) : L.take (k + 1) = L.take k ++ [L.getD k []] := by
  rw [List.take_succ_eq_append_getElem h, List.getD_eq_getElem?_getD, List.getElem?_eq_getElem h]
  rfl
end

section
open Go.RowKit Go.PlainAid
theorem getD_at13 (L : List Au) (k : Nat) (h : k < L.length) : L.getD k au0 = L[k] := by
  rw [List.getD_eq_getElem?_getD, List.getElem?_eq_getElem h]
  rfl
theorem get_first (L : List Au) (id : Int) (k : Nat) (hk : k < L.length) (h : ∀ j, j < k → (L.getD j au0).id ≠ id) (he : (L.getD k au0).id = id) : getA L id = some (L.getD k au0) := by
  unfold getA
  rw [List.find?_eq_some_iff_getElem]
  refine ⟨by simpa using he, k, hk, (getD_at13 L k hk).symm, fun j hj => ?_⟩
  have := h j hj
  rw [getD_at13 L j (by omega)] at this
  simpa using this
theorem get_nope (L : List Au) (id : Int) (h : ∀ j, j < L.length → (L.getD j au0).id ≠ id) : getA L id = none := by
  unfold getA
  rw [List.find?_eq_none]
  intro a ha
  obtain ⟨j, hj, rfl⟩ := List.mem_iff_getElem.1 ha
  have := h j hj
  rw [getD_at13 L j hj] at this
  simpa using this
def setA5 (w : World) (b : Nat) (x0 x1 x2 x3 x4 : Value) : World := ((((w.setCell ⟨b, 0, none⟩ x0).setCell ⟨b, 1, none⟩ x1).setCell ⟨b, 2, none⟩ x2).setCell ⟨b, 3, none⟩ x3).setCell ⟨b, 4, none⟩ x4
theorem au_set5 {w : World} {b : Nat} {c0 c1 c2 c3 c4 x0 x1 x2 x3 x4 : Value} (h : w.heap[b]? = some (.cells #[c0, c1, c2, c3, c4] 56 (0, 0))) :
    (setA5 w b x0 x1 x2 x3 x4).heap[b]? = some (.cells #[x0, x1, x2, x3, x4] 56 (0, 0)) := by
  simp [setA5, World.setCell, Array.getElem?_modify, h]
theorem au_below {n : Nat} {w W : World} {b : Nat} {x0 x1 x2 x3 x4 : Value} (h : Below n w W) (hb : n ≤ b) : Below n w (setA5 W b x0 x1 x2 x3 x4) :=
  ((((h.setCell (p := ⟨b, 0, none⟩) hb x0).setCell (p := ⟨b, 1, none⟩) hb x1).setCell (p := ⟨b, 2, none⟩) hb x2).setCell (p := ⟨b, 3, none⟩) hb x3).setCell (p := ⟨b, 4, none⟩) hb x4
theorem results_au {P : Program} {fn : Func} {p u : Tmp} {ty : TypeId} (h : fn.results = #[.cell p ty, .tmp u]) (tmps : Array Value) (w : World) (g : Nat) (t : TypeId) (cs : Array Value) (fr : Nat × Nat) (d : TypeDesc)
    (hp : tmps.getD p undef = .pointer (some ⟨g, 0, none⟩)) (hg : w.heap[g]? = some (.cells cs t fr))
    (hu : P.underlying ty = some d) (hd : (match d with | .struct _ | .array _ _ => true | _ => false) = true) (hi : (P.info? ty).map (·.size) = some cs.size) :
    (results fn tmps).run P w = .ok (.tuple #[.agg cs, tmps.getD u undef]) w := by
  rw [results_cell_tmp h, hp]
  simp [asAddr, run_loadVar_row w g t ty cs fr d hg hu hd hi, Result.andThen]
end

end Go.Proofs.YthjdopnoophigaaGreatDoor
