import PyProof.Rows.All
import Wide.All
import OpenK.AllK
import Wide.FinOn
import Open.SpecLaws
import KE.OsGo
import HandS.List
import HandS.Ends
import HandS.Spec
import HandS.Words
import HandS.More
import PySem.Challenge.RW_cacherules_s02_curve
set_option Elab.async false
set_option maxRecDepth 100000
set_option maxHeartbeats 2000000
/-! ### 1. The mirror of count_by_room; a room's line by rule 1 is the first of it -/
namespace Cu
abbrev ik (e : Rb20.Entry) : Int := (e.key : Int)
def push (most : Nat) (R : List Int) (k : Int) : List Int := (k :: R.erase k).take most
def bump (F R : List Int) (k : Int) : List Int := if k ∈ R then F.set (R.idxOf k + 1) (F.getD (R.idxOf k + 1) 0 + 1) else F
def turn (most : Nat) (p : List Int × List Int) (k : Int) : List Int × List Int := (push most p.1 k, bump p.2 p.1 k)
def runs (most : Nat) (p : List Int × List Int) (ks : List Int) : List Int × List Int := ks.foldl (turn most) p
/-- the counts of the rooms 1 to r -/
def tot (F : List Int) : Nat → Int
  | 0 => 0
  | r + 1 => tot F r + F.getD (r + 1) 0
theorem tot_zero {n : Nat} : ∀ r : Nat, tot (List.replicate n 0) r = 0
  | 0 => rfl
  | r + 1 => by
    show tot (List.replicate n 0) r + (List.replicate n (0 : Int)).getD (r + 1) 0 = 0
    rw [tot_zero r, List.getD_eq_getElem?_getD, List.getElem?_replicate]
    split <;> rfl
theorem tot_set {F : List Int} {i : Nat} (h : i + 1 < F.length) : ∀ r : Nat, tot (F.set (i + 1) (F.getD (i + 1) 0 + 1)) r = tot F r + (if i < r then 1 else 0)
  | 0 => rfl
  | r + 1 => by
    show tot _ r + (F.set (i + 1) (F.getD (i + 1) 0 + 1)).getD (r + 1) 0 = tot F r + F.getD (r + 1) 0 + _
    rw [tot_set h r, List.getD_eq_getElem?_getD, List.getD_eq_getElem?_getD, List.getD_eq_getElem?_getD, List.getElem?_set]
    by_cases e : i = r
    · subst e
      rw [if_pos (show i + 1 = i + 1 from rfl), if_pos h, if_neg (show ¬ i < i by omega), if_pos (show i < i + 1 by omega)]
      show _ + (F[i + 1]?.getD 0 + 1) = _
      omega
    · rw [if_neg (show ¬ i + 1 = r + 1 by omega)]
      by_cases c : i < r
      · rw [if_pos c, if_pos (show i < r + 1 by omega)]
        omega
      · rw [if_neg c, if_neg (show ¬ i < r + 1 by omega)]
        omega
theorem push_len {most : Nat} {R : List Int} {k : Int} : (push most R k).length ≤ most := by
  unfold push
  rw [List.length_take]
  exact Nat.min_le_left _ _
theorem push_nd {most : Nat} {R : List Int} {k : Int} (h : R.Nodup) : (push most R k).Nodup := by
  unfold push
  refine List.Nodup.sublist (List.take_sublist _ _) ?_
  rw [List.nodup_cons]
  refine ⟨fun z => ?_, h.sublist List.erase_sublist⟩
  exact (h.mem_erase_iff.mp z).1 rfl
theorem bump_len {F R : List Int} {k : Int} : (bump F R k).length = F.length := by
  unfold bump
  split
  · exact List.length_set
  · rfl
theorem erase_take {k : Int} : ∀ {R : List Int} {r : Nat}, k ∈ R.take (r + 1) → (R.erase k).take r = (R.take (r + 1)).erase k
  | [], r, h => by simp at h
  | a :: R, r, h => by
    rw [List.take_succ_cons] at h ⊢
    by_cases e : a = k
    · subst e
      rw [List.erase_cons_head, List.erase_cons_head]
    · rw [List.erase_cons_tail (by simpa using e), List.erase_cons_tail (by simpa using e)]
      have hk : k ∈ R.take r := (List.mem_cons.mp h).resolve_left fun z => e z.symm
      cases r with
      | zero => simp at hk
      | succ r =>
        rw [List.take_succ_cons, erase_take hk]
theorem erase_past {k : Int} : ∀ {R : List Int} {r : Nat}, ¬ k ∈ R.take (r + 1) → (R.erase k).take r = R.take r
  | [], r, h => by simp
  | a :: R, r, h => by
    rw [List.take_succ_cons, List.mem_cons, not_or] at h
    rw [List.erase_cons_tail (by simpa using fun z => h.1 (Eq.symm z))]
    cases r with
    | zero => rfl
    | succ r => rw [List.take_succ_cons, List.take_succ_cons, erase_past h.2]
theorem idx_take {k : Int} : ∀ {R : List Int} {r : Nat}, k ∈ R → (R.idxOf k < r ↔ k ∈ R.take r)
  | [], r, h => by cases h
  | a :: R, 0, h => by simp
  | a :: R, r + 1, h => by
    rw [List.take_succ_cons, List.idxOf_cons]
    by_cases e : a = k
    · subst e
      simp
    · have hk : k ∈ R := (List.mem_cons.mp h).resolve_left fun z => e z.symm
      have ih := idx_take (r := r) hk
      rw [show (a == k) = false from by simpa using e]
      show R.idxOf k + 1 < r + 1 ↔ _
      rw [List.mem_cons, Nat.add_lt_add_iff_right, ih]
      exact ⟨fun z => .inr z, fun z => z.resolve_left fun q => e q.symm⟩
theorem mem_ik {k : Nat} {l : List Rb20.Entry} : (k : Int) ∈ l.map ik ↔ ∃ e ∈ l, e.key = k := by
  rw [List.mem_map]
  constructor
  · rintro ⟨e, he, h⟩
    exact ⟨e, he, by have h : (e.key : Int) = (k : Int) := h; omega⟩
  · rintro ⟨e, he, rfl⟩
    exact ⟨e, he, rfl⟩
theorem without_map {k : Nat} {l : List Rb20.Entry} (h : (l.map ik).Nodup) : (Rb20.without k l).map ik = (l.map ik).erase (k : Int) := by
  rw [h.erase_eq_filter, List.filter_map]
  unfold Rb20.without
  refine congrArg _ (List.filter_congr fun x _ => ?_)
  show (x.key != k) = ((x.key : Int) != (k : Int))
  rw [Bool.eq_iff_iff, bne_iff_ne, bne_iff_ne]
  omega
structure Ln (r : Nat) (R : List Int) (s : Rb20.Cache) : Prop where
  rule : s.rule = 1
  room : s.room = r
  safe : s.safe = []
  line : s.first.map ik = (R.take r).reverse
theorem Ln.holds {r : Nat} {R : List Int} {s : Rb20.Cache} (L : Ln r R s) (k : Nat) : s.holds k = true ↔ (k : Int) ∈ R.take r := by
  unfold Rb20.Cache.holds Rb20.Cache.all
  rw [L.safe, List.append_nil, List.any_eq_true, ← List.mem_reverse, ← L.line, mem_ik]
  constructor
  · rintro ⟨e, he, h⟩
    exact ⟨e, he, beq_iff_eq.mp h⟩
  · rintro ⟨e, he, h⟩
    exact ⟨e, he, beq_iff_eq.mpr h⟩
theorem Ln.use {most r : Nat} (hr1 : 1 ≤ r) (hr : r ≤ most) {R : List Int} {s : Rb20.Cache} (L : Ln r R s) (nd : R.Nodup) (k : Nat) : ((Rb20.use s k).1 = true ↔ (k : Int) ∈ R.take r) ∧ Ln r (push most R (k : Int)) (Rb20.use s k).2.2 := by
  obtain ⟨r, rfl⟩ : ∃ q, r = q + 1 := ⟨r - 1, by omega⟩
  have ep : (push most R (k : Int)).take (r + 1) = (k : Int) :: (R.erase (k : Int)).take r := by
    unfold push
    rw [List.take_take, Nat.min_eq_left hr, List.take_succ_cons]
  have ndt : ((R.take (r + 1)).reverse).Nodup := List.pairwise_reverse.mpr ((nd.sublist (List.take_sublist (r + 1) R)).imp fun h => Ne.symm h)
  unfold Rb20.use
  by_cases c : s.holds k = true
  · have hk := (L.holds k).mp c
    rw [if_pos c]
    refine ⟨⟨fun _ => hk, fun _ => rfl⟩, ?_⟩
    show Ln (r + 1) _ (Rb20.hit s k)
    have hf : ∃ x, s.all.find? (fun x => x.key == k) = some x ∧ x.key = k := by
      obtain ⟨e, he, h⟩ := List.any_eq_true.mp c
      cases q : s.all.find? (fun x => x.key == k) with
      | none => exact absurd h (by simpa using List.find?_eq_none.mp q e he)
      | some x => exact ⟨x, rfl, beq_iff_eq.mp (List.find?_some (p := fun x : Rb20.Entry => x.key == k) q)⟩
    obtain ⟨x, hx, hxk⟩ := hf
    have eh : Rb20.hit s k = { s with clock := s.clock + 1, first := Rb20.without k s.first ++ [Rb20.again (s.clock + 1) x] } := by
      unfold Rb20.hit
      show (match s.all.find? (fun x => x.key == k) with | none => _ | some x => _) = _
      rw [hx]
      show (if s.rule = 0 then _ else if s.rule = 1 then _ else _ : Rb20.Cache) = _
      rw [if_neg (by rw [L.rule]; decide), if_pos L.rule]
    rw [eh]
    refine ⟨L.rule, L.room, L.safe, ?_⟩
    show (Rb20.without k s.first ++ [Rb20.again (s.clock + 1) x]).map ik = _
    rw [List.map_append, without_map (by rw [L.line]; exact ndt), L.line, ep, List.reverse_cons, erase_take hk]
    have e1 : List.map ik [Rb20.again (s.clock + 1) x] = [(k : Int)] := by
      show [((Rb20.again (s.clock + 1) x).key : Int)] = _
      rw [← hxk]
      rfl
    rw [e1]
    refine congrArg (· ++ [(k : Int)]) ?_
    have n1 : (R.take (r + 1)).Nodup := nd.sublist (List.take_sublist _ _)
    rw [ndt.erase_eq_filter, n1.erase_eq_filter, List.filter_reverse]
  · have hk : ¬ (k : Int) ∈ R.take (r + 1) := fun z => c ((L.holds k).mpr z)
    rw [if_neg c]
    have el : s.all.length = (R.take (r + 1)).length := by
      unfold Rb20.Cache.all
      rw [L.safe, List.append_nil, ← List.length_map (f := ik), L.line, List.length_reverse]
    have e2 : (R.erase (k : Int)).take r = R.take r := erase_past hk
    by_cases d : s.all.length < s.room
    · show ((if s.all.length < s.room then _ else _ : Bool × Option Nat × Rb20.Cache).1 = true ↔ _) ∧ _
      simp only [if_pos d]
      refine ⟨⟨fun z => absurd z Bool.false_ne_true, fun z => absurd z hk⟩, L.rule, L.room, L.safe, ?_⟩
      show (s.first ++ ([⟨k, 1, s.clock + 1, false⟩] : List Rb20.Entry)).map ik = _
      rw [List.map_append, L.line, ep, List.reverse_cons, e2]
      rw [L.room, el, List.length_take] at d
      rw [List.take_of_length_le (l := R) (i := r + 1) (by omega), List.take_of_length_le (l := R) (i := r) (by omega)]
      rfl
    · rw [L.room, el, List.length_take] at d
      have hlen : (R.take (r + 1)).length = r + 1 := by
        rw [List.length_take]
        omega
      have d' : ¬ s.all.length < s.room := by
        rw [L.room, el]
        omega
      have hfl : s.first.length = r + 1 := by
        rw [← List.length_map (f := ik), L.line, List.length_reverse]
        exact hlen
      cases hF : s.first with
      | nil =>
        rw [hF] at hfl
        cases hfl
      | cons x t =>
        have hlv : Rb20.leaves s = some (x.key, { s with first := t }) := by
          unfold Rb20.leaves
          rw [if_neg (by rw [L.rule]; decide), if_neg (by rw [L.rule]; decide), hF]
        show ((if s.all.length < s.room then _ else _ : Bool × Option Nat × Rb20.Cache).1 = true ↔ _) ∧ _
        simp only [if_neg d', hlv]
        refine ⟨⟨fun z => absurd z Bool.false_ne_true, fun z => absurd z hk⟩, L.rule, L.room, L.safe, ?_⟩
        show (t ++ ([⟨k, 1, s.clock + 1, false⟩] : List Rb20.Entry)).map ik = _
        have hl := L.line
        rw [hF, List.map_cons] at hl
        have ht : t.map ik = (R.take r).reverse := by
          have q := congrArg List.tail hl
          rw [List.tail_cons, List.tail_reverse, List.dropLast_eq_take, hlen, Nat.add_sub_cancel, List.take_take, Nat.min_eq_left (Nat.le_succ r)] at q
          exact q
        rw [List.map_append, ht, ep, List.reverse_cons, e2]
        rfl
theorem counts {most r : Nat} (hr1 : 1 ≤ r) (hr : r ≤ most) : ∀ (ks R F : List Int) (s : Rb20.Cache), (∀ k ∈ ks, 0 ≤ k) → R.Nodup → R.length ≤ most → F.length = most + 1 → Ln r R s →
    (Rb20.missesFrom s (Rb20Neutral.nats ks) : Int) + tot (runs most (R, F) ks).2 r = (ks.length : Int) + tot F r
  | [], R, F, s, _, _, _, _, _ => rfl
  | k :: ks, R, F, s, h0, nd, hl, hF, L => by
    obtain ⟨n, rfl⟩ := Int.eq_ofNat_of_zero_le (h0 k List.mem_cons_self)
    obtain ⟨h1, L'⟩ := L.use hr1 hr nd n
    have ih := counts hr1 hr ks (push most R (n : Int)) (bump F R (n : Int)) _ (fun j hj => h0 j (List.mem_cons_of_mem _ hj)) (push_nd nd) push_len (bump_len.trans hF) L'
    have e : tot (bump F R (n : Int)) r = tot F r + (if (Rb20.use s n).1 = true then 1 else 0) := by
      unfold bump
      by_cases c : (n : Int) ∈ R
      · rw [if_pos c, tot_set (by have q := List.idxOf_lt_length_of_mem c; omega) r]
        refine congrArg _ ?_
        have q : (R.idxOf (n : Int) < r) = ((Rb20.use s n).1 = true) := propext ((idx_take c).trans h1.symm)
        simp only [q]
      · rw [if_neg c, if_neg fun z => c (List.mem_of_mem_take (h1.mp z))]
        omega
    show (((if (Rb20.use s (Int.toNat (n : Int))).1 = true then 0 else 1) + Rb20.missesFrom (Rb20.use s (Int.toNat (n : Int))).2.2 (Rb20Neutral.nats ks) : Nat) : Int) + tot (runs most (push most R (n : Int), bump F R (n : Int)) ks).2 r = ((ks.length + 1 : Nat) : Int) + tot F r
    rw [Int.toNat_natCast]
    rw [e] at ih
    by_cases c : (Rb20.use s n).1 = true
    · rw [if_pos c] at ih ⊢
      omega
    · rw [if_neg c] at ih ⊢
      omega
theorem due {most : Nat} {ks : List Int} (h0 : ∀ k ∈ ks, 0 ≤ k) : PyRb20.curve (most : Int) ks = 0 :: (List.range most).map fun i => (ks.length : Int) - tot (runs most ([], List.replicate (most + 1) 0) ks).2 (i + 1) := by
  show (0 : Int) :: Rb20Neutral.ints ((List.range (Int.toNat (most : Int))).map fun (i : Nat) => Rb20.missesFrom (Rb20.empty 1 (i + 1)) (Rb20Neutral.nats ks)) = _
  rw [Int.toNat_natCast]
  refine congrArg _ ?_
  unfold Rb20Neutral.ints
  rw [List.map_map]
  refine List.map_congr_left fun i hi => ?_
  rw [List.mem_range] at hi
  have q := counts (most := most) (r := i + 1) (by omega) (by omega) ks [] (List.replicate (most + 1) 0) (Rb20.empty 1 (i + 1)) h0 .nil (Nat.zero_le _) List.length_replicate ⟨rfl, rfl, rfl, rfl⟩
  rw [tot_zero] at q
  show (Rb20.missesFrom (Rb20.empty 1 (i + 1)) (Rb20Neutral.nats ks) : Int) = _
  omega
theorem runs_more {most : Nat} {p : List Int × List Int} {l : List Int} {i : Nat} {z : Int} (h : l[i]? = some z) : runs most p (l.take (i + 1)) = turn most (runs most p (l.take i)) z := by
  unfold runs
  have e : l.take (i + 1) = l.take i ++ [z] := by
    rw [List.take_add_one, h]
    rfl
  rw [e, List.foldl_append]
  rfl
structure Good (most : Nat) (p : List Int × List Int) : Prop where
  nd : p.1.Nodup
  len : p.1.length ≤ most
  flen : p.2.length = most + 1
theorem runs_good {most : Nat} : ∀ (ks : List Int) {p : List Int × List Int}, Good most p → Good most (runs most p ks)
  | [], _, G => G
  | k :: ks, p, G => runs_good ks (p := turn most p k) ⟨push_nd G.nd, push_len, bump_len.trans G.flen⟩
theorem good0 {most : Nat} : Good most ([], List.replicate (most + 1) 0) := ⟨.nil, Nat.zero_le _, List.length_replicate⟩
theorem cut_last {most : Nat} {l : List Int} (h : l.length ≤ most + 1) : (if most < l.length then l.dropLast else l) = l.take most := by
  split
  · rw [List.dropLast_eq_take]
    congr 1
    omega
  · rw [List.take_of_length_le (by omega)]
end Cu
namespace Cu
open PySem PySem.Spec PyProof.Rows L2
/-! ### 2. The text by places -/
def top (i : Nat) : Stmt := PySem.Challenge.pw_cacherules_s02_curve.main.body.getD i (.Pass ⟨0, 0, 0, 0⟩)
abbrev sCnt : Stmt := top 1
abbrev sCur : Stmt := top 2
/-! ### 3. Lists -/
theorem flat_ints (l : List Int) : (l.map V.int).all flatV = true := by
  rw [List.all_map, List.all_eq_true]
  exact fun _ _ => rfl
theorem inV_ints (k : Int) (l : List Int) : inV (.int k) (l.map V.int) = decide (k ∈ l) := by
  unfold inV
  rw [List.any_map, Bool.eq_iff_iff, List.any_eq_true, decide_eq_true_iff]
  constructor
  · rintro ⟨x, hx, e⟩
    have e : (x == k) = true := e
    rw [← beq_iff_eq.mp e]
    exact hx
  · intro h
    exact ⟨k, h, beq_self_eq_true k⟩
theorem at_int {l : List Int} {j : Nat} {x : Int} (h : l[j]? = some x) : (l.map V.int)[j]? = some (.int x) := by
  rw [List.getElem?_map, h]
  rfl
theorem int_at {l : List Int} {j : Nat} {y : V} (h : (l.map V.int)[j]? = some y) : ∃ z, l[j]? = some z ∧ y = V.int z := by
  rw [List.getElem?_map] at h
  cases e : l[j]? with
  | none =>
    rw [e] at h
    cases h
  | some z =>
    rw [e] at h
    exact ⟨z, rfl, (Option.some.inj h).symm⟩
theorem idx_at {k : Int} : ∀ {l : List Int}, k ∈ l → l[l.idxOf k]? = some k ∧ (∀ m, m < l.idxOf k → l[m]? ≠ some k) ∧ l.eraseIdx (l.idxOf k) = l.erase k
  | [], h => by cases h
  | a :: l, h => by
    rw [List.idxOf_cons]
    by_cases e : a = k
    · subst e
      rw [beq_self_eq_true]
      exact ⟨rfl, fun m hm => absurd hm (Nat.not_lt_zero _), by rw [List.erase_cons_head]; rfl⟩
    · have hk : k ∈ l := (List.mem_cons.mp h).resolve_left fun z => e z.symm
      obtain ⟨h1, h2, h3⟩ := idx_at hk
      rw [show (a == k) = false from by simpa using e]
      refine ⟨h1, fun m hm => ?_, ?_⟩
      · cases m with
        | zero => exact fun z => e (Option.some.inj z)
        | succ m => exact h2 m (Nat.lt_of_succ_lt_succ hm)
      · show a :: l.eraseIdx (l.idxOf k) = _
        rw [h3, List.erase_cons_tail (by simpa using e)]
theorem map_er : ∀ {l : List Int} {j : Nat}, (l.map V.int).eraseIdx j = (l.eraseIdx j).map V.int
  | [], _ => rfl
  | _ :: _, 0 => rfl
  | a :: l, j + 1 => congrArg (V.int a :: ·) (map_er (l := l) (j := j))
theorem small {n : Nat} (h : n ≤ 8193) : n < sizeLine := Nat.lt_of_le_of_lt h (by decide)
theorem zeros (n : Nat) : (List.replicate n [V.int 0]).flatten = (List.replicate n (0 : Int)).map V.int := by
  rw [List.map_replicate]
  induction n with
  | zero => rfl
  | succ n ih =>
    rw [List.replicate_succ, List.replicate_succ, List.flatten_cons, ih]
    rfl
theorem seq_at {j n : Nat} (h : j < n) : seqIndex? (j : Int) n = some j := (seqIndex_of (Int.natCast_nonneg j) (by omega)).trans (by rw [Int.toNat_natCast])
/-! ### 4. What is read of xs[i] ahead of xs[i] += e -/
def rGetL (K : PySem.W.Frag) : V → V → Hp → VK → Prop := fun o i H Q => ∃ p xs k v, o = .ref p ∧ i = .int k ∧ SqL K H p xs ∧ 0 ≤ k ∧ atI xs k = some v ∧ Q v H
theorem get_list {X : Cx} : PGet X (rGetL X.K) := by
  intro pins s σ H o i ov iv Q I ro ri h
  obtain ⟨p, xs, k, z, rfl, rfl, hq, h0, he, q⟩ := h
  cases ro
  obtain ⟨t, rfl⟩ := ri
  obtain ⟨items, rel, plain, _⟩ := I.list hq
  obtain ⟨j, at1, at2, _, _, at5⟩ := atI_get he
  obtain ⟨val, hval, rval⟩ := rel.get at2
  have hl := rel.length
  have hn := line63
  have hj : k.toNat = j := by
    rw [seqIndex_of h0 at5] at at1
    exact Option.some.inj at1
  exact wpAny_getItem_list plain.isList h0 (by omega) (by rw [hj]; simpa using hval) ⟨z, H, I, rval, q⟩
/-! ### 5. The promises -/
abbrev fin (most : Nat) (ks : List Int) : List Int × List Int := runs most ([], List.replicate (most + 1) 0) ks
def spCnt (K : PySem.W.Frag) : Sp := fun vs H Q _ => ∃ (most : Nat) (a : Addr) (ks : List Int), vs = [.int (most : Int), .ref a] ∧ SqL K H a (ks.map V.int) ∧ most ≤ 1024 ∧
  ∀ (H' : Hp) (p : Addr), Same H H' → H p = none → H' p = some (.lst ((fin most ks).2.map V.int)) → Q (.ref p) H'
def spCur (K : PySem.W.Frag) : Sp := fun vs H Q _ => ∃ (most : Nat) (a : Addr) (ks : List Int), vs = [.int (most : Int), .ref a] ∧ SqL K H a (ks.map V.int) ∧ most ≤ 1024 ∧ (∀ k ∈ ks, 0 ≤ k) ∧
  ∀ (H' : Hp) (p : Addr), H' p = some (.lst ((PyRb20.curve (most : Int) ks).map V.int)) → Q (.ref p) H'
structure Txt (mg : Str → Option Value) : Prop where
  len : mg "len" = none
  range : mg "range" = none
section
variable {P : Program} {w : World} {K : PySem.W.Frag} {mg : Str → Option Value} {base : Heap}
/-! ### 6. count_by_room -/
structure At (H0 H : Hp) (F R : Addr) (p : List Int × List Int) : Prop where
  same : Same H0 H
  f : H F = some (.lst (p.2.map V.int))
  r : H R = some (.lst (p.1.map V.int))
  nf : H0 F = none
  nr : H0 R = none
  ne : F ≠ R
theorem At.setR {H0 H : Hp} {F R : Addr} {p : List Int × List Int} {xs : List V} {l : List Int} (A : At H0 H F R p) (e : xs = l.map V.int) : At H0 (upd H R (.lst xs)) F R (l, p.2) := by
  subst e
  exact ⟨fun b o h => by rw [upd_ne (ne_of_none h A.nr)]; exact A.same b o h, by rw [upd_ne A.ne]; exact A.f, upd_same, A.nf, A.nr, A.ne⟩
theorem At.setF {H0 H : Hp} {F R : Addr} {p : List Int × List Int} {xs : List V} {l : List Int} (A : At H0 H F R p) (e : xs = l.map V.int) : At H0 (upd H F (.lst xs)) F R (p.1, l) := by
  subst e
  exact ⟨fun b o h => by rw [upd_ne (ne_of_none h A.nf)]; exact A.same b o h, upd_same, by rw [upd_ne A.ne.symm]; exact A.r, A.nf, A.nr, A.ne⟩
theorem scCnt : FnScope ["most", "keys", "found", "recent", "key", "place"] ["most", "keys"] (defScope sCnt) := ⟨rfl, rfl, rfl, by decide +kernel, rfl, by decide +kernel, by decide +kernel⟩
theorem ok_cnt {f : Addr} {fd : FuncData} (F0 : Fun K "count_by_room" "count_by_room" sCnt f fd) (T : Txt mg) : FnOk P w K mg base CX0 1 f fd ["most", "keys"] (spCnt K) := by
  refine F0.ok scCnt (fun vs H Q E h => ?_) (fun cdv A0 outer s H vs Q E hr h => ?_)
  · obtain ⟨most, a, ks, rfl, _⟩ := h
    rfl
  · obtain ⟨most, a, ks, rfl, hS, hm, kk⟩ := h
    have nd := scCnt.nd
    refine ⟨_, pss_cons (ps_set (i := 2) nd rfl (Or.inl rfl) (pe_op op_rep (pe_lst (pa_cons pe_int pa_nil)) (pe_op op_add (pv 0) pe_int)))
      (pss_cons (ps_set (i := 3) nd rfl (Or.inl rfl) (pe_lst pa_nil))
      (pss_cons (ps_for PassesOwn.never rfl (pi_list (pv 1)) (pg_name (i := 4) nd rfl (Or.inl rfl))
        (pss_cons (ps_if (pt_cmpR op_in_seq (pv 4) (pv 3) (by rfl))
            (pss_cons (ps_set (i := 5) nd rfl (Or.inl rfl) (pe_bm PySem.F.plainAttrs_list PySem.F.slot_list_index PySem.F.type_list_index mt_index (pv 3) (pa_cons (pv 4) pa_nil)))
            (pss_cons (ps_expr (pe_bm PySem.F.plainAttrs_list PySem.F.slot_list_pop PySem.F.type_list_pop mt_popAt (pv 3) (pa_cons (pv 5) pa_nil)))
            (pss_one (ps_augS (pv 2) (pe_op op_add (pv 5) pe_int) get_list pe_int ip_add set_list)))) pss_nil)
        (pss_cons (ps_expr (pe_bm PySem.F.plainAttrs_list PySem.F.slot_list_insert PySem.F.type_list_insert mt_insert (pv 3) (pa_cons pe_int (pa_cons (pv 4) pa_nil))))
        (pss_one (ps_if (pt_cmpR op_gt (pe_callB call_len_seq (by rfl) T.len PySem.boot_len (pa_cons (pv 3) pa_nil)) (pv 0) (nomark _))
          (pss_one (ps_expr (pe_bm0 PySem.F.plainAttrs_list PySem.F.slot_list_pop PySem.F.type_list_pop mt_pop (pv 3)))) pss_nil)))))
      (pss_one (ps_ret (pv 2))))), ?_⟩
    refine ⟨(by show 1 ≤ sizeLine; decide), fun l hl => ?_⟩
    refine ⟨_, rfl, _, _, rfl, rfl, l, _, _, rfl, rfl, upd_same, (by omega), (by omega), ?_, fun F hF => ?_⟩
    · show 1 * ((most : Int) + 1).toNat ≤ sizeLine
      rw [Nat.one_mul]
      exact Nat.le_of_lt (small (by omega))
    · refine ⟨Nat.zero_le _, fun R hR => ?_⟩
      have em : ((most : Int) + 1).toNat = most + 1 := by omega
      rw [em, zeros] at hR ⊢
      have S1 : Same H (upd (upd H l (.lst [V.int 0])) F (.lst ((List.replicate (most + 1) (0 : Int)).map V.int))) := fun b o e => by
        have e1 : (upd H l (.lst [V.int 0])) b = some o := by
          rw [upd_ne (ne_of_none e hl)]
          exact e
        rw [upd_ne (ne_of_none e1 hF)]
        exact e1
      have S0 : Same H (upd H l (.lst [V.int 0])) := fun b o e => by
        rw [upd_ne (ne_of_none e hl)]
        exact e
      have nFR : F ≠ R := ne_of_none (H := upd (upd H l (.lst [V.int 0])) F (.lst ((List.replicate (most + 1) (0 : Int)).map V.int))) upd_same hR
      have A1 : At H (upd (upd (upd H l (.lst [V.int 0])) F (.lst ((List.replicate (most + 1) (0 : Int)).map V.int))) R (.lst [])) F R ([], List.replicate (most + 1) 0) := by
        refine ⟨fun b o e => ?_, ?_, upd_same, S0.free hF, S1.free hR, nFR⟩
        · rw [upd_ne (ne_of_none (S1 b o e) hR)]
          exact S1 b o e
        · rw [upd_ne nFR]
          exact upd_same
      refine ⟨_, rfl, a, rfl, ⟨_, A1.same.seq hS⟩, for_list (K := K) (a := a) (xs := ks.map V.int) (fun i σ H2 => ∃ v v' : Option V, σ = [some (.int (most : Int)), some (.ref a), some (.ref F), some (.ref R), v, v'] ∧ At H H2 F R (runs most ([], List.replicate (most + 1) 0) (ks.take i)))
        ⟨none, none, rfl, A1⟩ (fun i σ H2 _ ⟨_, _, _, A2⟩ => A2.same.seq hS) ?_ ?_⟩
      · rintro i y σ H2 hi ⟨v, v', rfl, A2⟩
        obtain ⟨z, hz, rfl⟩ := int_at hi
        have step := runs_more (most := most) (p := ([], List.replicate (most + 1) 0)) hz
        have G := runs_good (ks.take i) (good0 (most := most))
        generalize runs most ([], List.replicate (most + 1) 0) (ks.take i) = S at step G A2
        have fin : ∀ (H3 : Hp) (v v' : Option V), At H H3 F R (turn most S z) → ∃ w w' : Option V, [some (V.int (most : Int)), some (.ref a), some (.ref F), some (.ref R), v, v'] = [some (.int (most : Int)), some (.ref a), some (.ref F), some (.ref R), w, w'] ∧ At H H3 F R (runs most ([], List.replicate (most + 1) 0) (ks.take (i + 1))) := fun H3 v v' A3 => by
          rw [step]
          exact ⟨v, v', rfl, A3⟩
        refine ⟨_, rfl, _, rfl, R, _, rfl, .inl (SqL.of A2.r), rfl, flat_ints _, _, rfl, ?_⟩
        have ei : inV (V.int z) (S.1.map V.int) = decide (z ∈ S.1) := inV_ints z _
        by_cases c : z ∈ S.1
        · refine (if_pos (ei.trans (decide_eq_true c))).mpr ?_
          have ei := idx_at c
          have hi2 := List.idxOf_lt_length_of_mem c
          generalize ej : S.1.idxOf z = j at ei hi2
          obtain ⟨g1, g2, g3⟩ := ei
          refine ⟨_, rfl, .inl ⟨rfl, _, SqL.of A2.r⟩, _, rfl, R, _, _, j, _, rfl, rfl, SqL.of A2.r, rfl, flat_ints _, at_int g1, beq_self_eq_true z, fun m z' hm hz' => ?_, ?_⟩
          · obtain ⟨x, hx, rfl⟩ := int_at hz'
            show (x == z) = false
            rw [Bool.eq_false_iff]
            intro q
            exact g2 m hm (by rw [hx, beq_iff_eq.mp q])
          refine ⟨_, rfl, .inl ⟨rfl, _, SqL.of A2.r⟩, _, rfl, R, _, _, j, _, rfl, rfl, A2.r, by omega, by have := G.len; omega, seq_at (by rw [List.length_map]; exact hi2), at_int g1, ?_⟩
          have A2b := A2.setR (xs := (S.1.map V.int).eraseIdx j) (l := S.1.erase z) (by rw [← g3, map_er])
          have hjF : j + 1 < S.2.length := by
            have := G.len
            have := G.flen
            omega
          have hx : S.2[j + 1]? = some (S.2.getD (j + 1) 0) := by
            rw [List.getD_eq_getElem?_getD, List.getElem?_eq_getElem hjF]
            rfl
          refine ⟨_, rfl, _, rfl, _, _, rfl, rfl, F, _, _, _, rfl, rfl, SqL.of A2b.f, by omega, atI_nat (j := j + 1) (at_int hx), _, _, rfl, rfl, F, _, _, j + 1, rfl, rfl, A2b.f, ?_, ?_⟩
          · unfold ixN
            rw [List.length_map]
            rw [if_pos (by omega), if_pos (by show (j : Int) + 1 < (S.2.length : Int); omega)]
            congr 1
          have A3 : At H _ F R (S.1.erase z, bump S.2 S.1 z) := A2b.setF (xs := (S.2.map V.int).set (j + 1) (V.int (S.2.getD (j + 1) 0 + 1))) (l := bump S.2 S.1 z) (by unfold bump; rw [if_pos c, ej, List.map_set])
          have hsm : ((S.1.erase z).map V.int).length < sizeLine := small (by rw [List.length_map]; have q1 := G.len; have q2 : (S.1.erase z).length ≤ S.1.length := List.length_erase_le; omega)
          refine ⟨_, rfl, .inl ⟨rfl, _, SqL.of A3.r⟩, _, rfl, R, _, 0, _, rfl, rfl, A3.r, hsm, by decide, by decide, ?_⟩
          have A4 := A3.setR (l := z :: S.1.erase z) rfl
          refine ⟨_, rfl, R, _, rfl, .inl (SqL.of A4.r), _, rfl, _, _, rfl, rfl, _, rfl, ?_⟩
          have hle : (z :: S.1.erase z).length ≤ most + 1 := by
            have := G.len
            have := List.length_erase_le (a := z) (l := S.1)
            rw [List.length_cons]
            omega
          have ep := cut_last hle
          by_cases d : most < (z :: S.1.erase z).length
          · refine (if_pos (decide_eq_true (by show (most : Int) < (((z :: S.1.erase z).map V.int).length : Int); rw [List.length_map]; omega))).mpr ?_
            rw [if_pos d] at ep
            refine ⟨_, rfl, .inl ⟨rfl, _, SqL.of A4.r⟩, R, _, _, rfl, rfl, A4.r, List.getElem?_eq_getElem (by rw [List.length_map, List.length_cons]; omega), ?_⟩
            refine fin _ _ _ ?_
            have A5 := A4.setR (xs := ((z :: S.1.erase z).map V.int).dropLast) (l := (z :: S.1.erase z).dropLast) List.map_dropLast.symm
            have et : ((z :: S.1.erase z).dropLast, bump S.2 S.1 z) = turn most S z := congrArg (·, bump S.2 S.1 z) ep
            rw [← et]
            exact A5
          · refine (if_neg (by rw [decide_eq_true_iff]; show ¬ (most : Int) < (((z :: S.1.erase z).map V.int).length : Int); rw [List.length_map]; omega)).mpr ?_
            rw [if_neg d] at ep
            refine fin _ _ _ ?_
            have et : (z :: S.1.erase z, bump S.2 S.1 z) = turn most S z := congrArg (·, bump S.2 S.1 z) ep
            rw [← et]
            exact A4
        · refine (if_neg (by rw [Bool.not_eq_true]; exact ei.trans (decide_eq_false c))).mpr ?_
          have A3 : At H H2 F R (S.1.erase z, bump S.2 S.1 z) := by
            have e1 : S.1.erase z = S.1 := List.erase_of_not_mem c
            have e2 : bump S.2 S.1 z = S.2 := if_neg c
            rw [e1, e2]
            exact A2
          have hsm : ((S.1.erase z).map V.int).length < sizeLine := small (by rw [List.length_map]; have q1 := G.len; have q2 : (S.1.erase z).length ≤ S.1.length := List.length_erase_le; omega)
          refine ⟨_, rfl, .inl ⟨rfl, _, SqL.of A3.r⟩, _, rfl, R, _, 0, _, rfl, rfl, A3.r, hsm, by decide, by decide, ?_⟩
          have A4 := A3.setR (l := z :: S.1.erase z) rfl
          refine ⟨_, rfl, R, _, rfl, .inl (SqL.of A4.r), _, rfl, _, _, rfl, rfl, _, rfl, ?_⟩
          have hle : (z :: S.1.erase z).length ≤ most + 1 := by
            have := G.len
            have := List.length_erase_le (a := z) (l := S.1)
            rw [List.length_cons]
            omega
          have ep := cut_last hle
          by_cases d : most < (z :: S.1.erase z).length
          · refine (if_pos (decide_eq_true (by show (most : Int) < (((z :: S.1.erase z).map V.int).length : Int); rw [List.length_map]; omega))).mpr ?_
            rw [if_pos d] at ep
            refine ⟨_, rfl, .inl ⟨rfl, _, SqL.of A4.r⟩, R, _, _, rfl, rfl, A4.r, List.getElem?_eq_getElem (by rw [List.length_map, List.length_cons]; omega), ?_⟩
            refine fin _ _ _ ?_
            have A5 := A4.setR (xs := ((z :: S.1.erase z).map V.int).dropLast) (l := (z :: S.1.erase z).dropLast) List.map_dropLast.symm
            have et : ((z :: S.1.erase z).dropLast, bump S.2 S.1 z) = turn most S z := congrArg (·, bump S.2 S.1 z) ep
            rw [← et]
            exact A5
          · refine (if_neg (by rw [decide_eq_true_iff]; show ¬ (most : Int) < (((z :: S.1.erase z).map V.int).length : Int); rw [List.length_map]; omega)).mpr ?_
            rw [if_neg d] at ep
            refine fin _ _ _ ?_
            have et : (z :: S.1.erase z, bump S.2 S.1 z) = turn most S z := congrArg (·, bump S.2 S.1 z) ep
            rw [← et]
            exact A4
      · rintro σ H2 ⟨v, v', rfl, A2⟩
        rw [List.length_map, List.take_length] at *
        exact ⟨_, rfl, kk _ F A2.same A2.nf A2.f⟩
end
end Cu
namespace Cu
open PySem PySem.Spec PyProof.Rows L2
section
variable {P : Program} {w : World} {K : PySem.W.Frag} {mg : Str → Option Value} {base : Heap}
/-! ### 7. curve -/
def told (n : Int) (F : List Int) (i : Nat) : List Int := 0 :: (List.range i).map fun j => n - tot F (j + 1)
theorem told_more (n : Int) (F : List Int) (i : Nat) : told n F (i + 1) = told n F i ++ [n - tot F (i + 1)] := by
  unfold told
  rw [List.range_succ, List.map_append]
  rfl
theorem told_len (n : Int) (F : List Int) (i : Nat) : (told n F i).length = i + 1 := by
  unfold told
  rw [List.length_cons, List.length_map, List.length_range]
theorem scCur : FnScope ["most", "keys", "found", "missed", "answer", "room"] ["most", "keys"] (defScope sCur) := ⟨rfl, rfl, rfl, by decide +kernel, rfl, by decide +kernel, by decide +kernel⟩
theorem ok_cur {f fC : Addr} {fd fdC : FuncData} (F0 : Fun K "curve" "curve" sCur f fd) (T : Txt mg) (GC : FnOk P w K mg base CX0 1 fC fdC ["most", "keys"] (spCnt K)) (bC : Binds K fdC ["most", "keys"] []) (gC : mg "count_by_room" = some (.ref fC)) (kC : PySem.W.keepIn K (.ref fC) = true) :
    FnOk P w K mg base CX0 2 f fd ["most", "keys"] (spCur K) := by
  refine F0.ok scCur (fun vs H Q E h => ?_) (fun cdv A0 outer s H vs Q E hr h => ?_)
  · obtain ⟨most, a, ks, rfl, _⟩ := h
    rfl
  · obtain ⟨most, a, ks, rfl, hS, hm, hpos, kk⟩ := h
    have nd := scCur.nd
    refine ⟨_, pss_cons (ps_set (i := 2) nd rfl (Or.inl rfl) (pe_call GC hr rfl gC kC bC .nil pass0 (pa_cons (pv 0) (pa_cons (pv 1) pa_nil))))
      (pss_cons (ps_set (i := 3) nd rfl (Or.inl rfl) (pe_callB call_len_seq (by rfl) T.len PySem.boot_len (pa_cons (pv 1) pa_nil)))
      (pss_cons (ps_set (i := 4) nd rfl (Or.inl rfl) (pe_lst (pa_cons pe_int pa_nil)))
      (pss_cons (ps_for PassesOwn.never rfl (pi_range2 (by rfl) T.range (pa_cons pe_int (pa_cons (pe_op op_add (pv 0) pe_int) pa_nil))) (pg_name (i := 5) nd rfl (Or.inl rfl))
        (pss_cons (ps_aug (i := 3) nd rfl (.inl rfl) (pe_ix ix_list (pv 2) (pv 5) (fun _ _ => rfl)) ip_sub)
        (pss_one (ps_expr (pe_bm PySem.F.plainAttrs_list PySem.F.slot_list_append PySem.F.type_list_append mt_append (pv 4) (pa_cons (pv 3) pa_nil))))))
      (pss_one (ps_ret (pv 4)))))), ?_⟩
    refine ⟨_, rfl, _, rfl, most, a, ks, rfl, hS, hm, fun H1 F S1 nF hF => ?_⟩
    have G := runs_good ks (good0 (most := most))
    have ed := due (most := most) hpos
    change H1 F = some (.lst ((runs most ([], List.replicate (most + 1) 0) ks).2.map V.int)) at hF
    generalize runs most ([], List.replicate (most + 1) 0) ks = S at G ed hF
    refine ⟨_, rfl, a, _, rfl, .inl (S1.seq hS), ?_⟩
    refine ⟨(by show 1 ≤ sizeLine; decide), fun p hp => ?_⟩
    have nFp : F ≠ p := ne_of_none hF hp
    have ek : (((most : Int) + 1) - 1).toNat = most := by omega
    have em : ((ks.map V.int).length : Int) = (ks.length : Int) := by rw [List.length_map]
    rw [em]
    refine ⟨_, rfl, _, _, rfl, rfl, _, _, rfl, ⟨by decide, by decide, by omega, by omega⟩, for_range (lo := 1) (n := (((most : Int) + 1) - 1).toNat) (fun i σ H2 => ∃ v : Option V, σ = [some (.int (most : Int)), some (.ref a), some (.ref F), some (.int ((ks.length : Int) - tot S.2 i)), some (.ref p), v] ∧ H2 F = some (.lst (S.2.map V.int)) ∧ H2 p = some (.lst ((told (ks.length : Int) S.2 i).map V.int)))
      ⟨none, ?_, by rw [upd_ne nFp]; exact hF, upd_same⟩ ?_ ?_⟩
    · show _ = [some (V.int (most : Int)), some (.ref a), some (.ref F), some (.int ((ks.length : Int) - 0)), some (.ref p), none]
      rw [Int.sub_zero]
      rfl
    · rintro i σ H2 hi ⟨v, rfl, hF2, hp2⟩
      have hi : i < most := by omega
      have hj : i + 1 < S.2.length := by
        have := G.flen
        omega
      have hx : S.2[i + 1]? = some (S.2.getD (i + 1) 0) := by
        rw [List.getD_eq_getElem?_getD, List.getElem?_eq_getElem hj]
        rfl
      have e1 : (1 : Int) + (i : Int) = ((i + 1 : Nat) : Int) := by omega
      refine ⟨_, rfl, _, rfl, _, rfl, F, _, _, _, rfl, rfl, SqL.of hF2, (by rw [e1]; exact atI_nat (at_int hx)), _, _, rfl, rfl, ?_⟩
      have e2 : (ks.length : Int) - tot S.2 i - S.2.getD (i + 1) 0 = (ks.length : Int) - tot S.2 (i + 1) := by
        show _ = (ks.length : Int) - (tot S.2 i + S.2.getD (i + 1) 0)
        omega
      refine ⟨_, rfl, .inl ⟨rfl, _, SqL.of hp2⟩, _, rfl, p, _, _, rfl, rfl, hp2, small (by rw [List.length_map, told_len]; omega), ?_⟩
      refine ⟨some (.int (1 + (i : Int))), ?_, by rw [upd_ne nFp]; exact hF2, ?_⟩
      · show [some (V.int (most : Int)), some (.ref a), some (.ref F), some (.int ((ks.length : Int) - tot S.2 i - S.2.getD (i + 1) 0)), some (.ref p), some (.int (1 + (i : Int)))] = _
        rw [e2]
      · rw [told_more, List.map_append, ← e2]
        exact upd_same
    · rintro σ H2 ⟨v, rfl, hF2, hp2⟩
      rw [ek] at hp2
      refine ⟨_, rfl, kk _ p ?_⟩
      rw [ed]
      exact hp2
/-! ### 8. The end: what the top has written -/
theorem all_mk {h : Heap} {fa f1 f2 : Addr} (X : K.In h) (G : h.Ns mainGlobals mg) (hfa : mg "curve" = some (.ref fa))
    {od1 an1 od2 an2 : Option Addr} {sl1 sl2 : Array (Option Value)} {oc1 kV1 dc1 pm1 cd1 ct1 oc2 kV2 dc2 pm2 cd2 ct2 : Value}
    (a1 : PySem.W.nsIn K mainGlobals "count_by_room" = some (some (.ref f1))) (l1 : K.lookup f1 = some ⟨oc1, od1, .func (PySem.W.fnOf "count_by_room" "count_by_room" (defArgs sCnt) (defBody sCnt) (defScope sCnt) .none kV1 dc1 pm1 an1 cd1 ct1), sl1⟩) (c1 : PySem.W.codeIn K cd1 "count_by_room" = true) (k1 : PySem.W.keepIn K (.ref f1) = true)
    (a2 : PySem.W.nsIn K mainGlobals "curve" = some (some (.ref f2))) (l2 : K.lookup f2 = some ⟨oc2, od2, .func (PySem.W.fnOf "curve" "curve" (defArgs sCur) (defBody sCur) (defScope sCur) .none kV2 dc2 pm2 an2 cd2 ct2), sl2⟩) (c2 : PySem.W.codeIn K cd2 "curve" = true) (k2 : PySem.W.keepIn K (.ref f2) = true)
    (z1 : PySem.W.nsIn K mainGlobals "len" = some none) (z2 : PySem.W.nsIn K mainGlobals "range" = some none) :
    ∃ fd : FuncData, (∀ (s : Shared) (us : List Value), us.length = (["most", "keys"] : List Str).length → BindsTo s fd ⟨us, []⟩ ((["most", "keys"] : List Str).zip us)) ∧ ∀ base : Heap, K.In base → base.Ns mainGlobals mg → FnOk P w K mg base CX0 2 fa fd ["most", "keys"] (spCur K) := by
  have e := hfa.symm.trans (PySem.W.mg_of X G a2)
  cases e
  have T : Txt mg := ⟨PySem.W.mg_none_of X G z1, PySem.W.mg_none_of X G z2⟩
  have F1 := fun_mk (st := sCnt) l1 c1 k1
  have b1 := F1.binds (ps := ["most", "keys"]) fun _ _ _ _ _ _ us hl => match us, hl with | [_, _], _ => rfl
  have F2 := fun_mk (st := sCur) l2 c2 k2
  refine ⟨PySem.W.fnOf "curve" "curve" (defArgs sCur) (defBody sCur) (defScope sCur) .none kV2 dc2 pm2 an2 cd2 ct2, fun s us hu => match us, hu with | [_, _], _ => .of_eq rfl, fun base _ _ => ?_⟩
  exact ok_cur F2 T (ok_cnt F1 T) b1 (PySem.W.mg_of X G a1) k1
end
end Cu
open PySem PySem.W PyProof.Rows
set_option maxRecDepth 100000 in
set_option maxHeartbeats 8000000 in
theorem PySem.Challenge.cw_cacherules_s02_curve_holds : PySem.Challenge.rw_cacherules_s02_curve.Holds := by
  w_on; k_headS; (case hw => exact ⟨[.int 0, .list []], by decide +kernel, by decide +kernel⟩)
  k_fillS
  refine L2.walk_specK (r := PySem.Challenge.rw_cacherules_s02_curve) (k := 2) (CX := L2.CX0) (ps := ["most", "keys"]) (sp := Cu.spCur) (by decide +kernel) rfl rfl ⟨rfl, by decide, by decide⟩ (fun w h Y => PySem.W.kIn_of Y) ?F ?S (fun _ _ _ _ z => z)
  case F =>
    intro w mg fa h Y KX G hmg
    refine' Cu.all_mk KX G hmg ?a1 ?l1 ?c1 ?k1 ?a2 ?l2 ?c2 ?k2 ?z1 ?z2
    (case a1 => k_is)
    (case l1 => k_is)
    (case c1 => k_is)
    (case k1 => k_is)
    (case a2 => k_is)
    (case l2 => k_is)
    (case c2 => k_is)
    (case k2 => k_is)
    (case z1 => k_is)
    (case z2 => k_is)
  case S =>
    intro K H xs a hO hwi hask hx
    cases hx with
    | cons h1 hx =>
      cases hx with
      | cons h2 hx =>
        cases hx
        cases h1
        cases h2 with
        | lst hs ha =>
          have e := L2.ints_dw a.2.1 _ ha
          subst e
          have q : (Codec.inInt 0 1024 a.1 && ((Codec.inLen 0 8192 a.2.1 && a.2.1.all (Codec.inInt 0 18446744073709551615)) && true)) = true := hwi
          rw [Bool.and_eq_true, Bool.and_eq_true, Bool.and_eq_true] at q
          have q1 := Codec.inInt_iff.mp q.1
          obtain ⟨n, hn⟩ := Int.eq_ofNat_of_zero_le q1.1
          refine ⟨n, _, a.2.1, by rw [← hn], hs, by omega, fun k hk => ?_, fun H' p hp => .lst (L2.SqL.of hp) ?_⟩
          · exact (Codec.inInt_iff.mp (List.all_eq_true.mp q.2.1.2 k hk)).1
          · rw [← hn]
            exact L2.dw_ints _
#print axioms PySem.Challenge.cw_cacherules_s02_curve_holds
