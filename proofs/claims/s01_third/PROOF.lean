import PyProof.Rows.All
import Wide.All
import OpenK.AllK
import Wide.FinOn
import Open.SpecLaws
import KE.OsGo
import HandS.ForSpec
import PySem.Challenge.RW_nothreelines_s01_third
set_option Elab.async false
set_option linter.all false
set_option maxRecDepth 100000
set_option maxHeartbeats 4000000
namespace Kz
/-! ### third -/
theorem third_zero (x y : Nat) : Kzt3.third 0 x y = 0 := rfl
theorem third_succ (i x y : Nat) : Kzt3.third (i + 1) x y = Kzt3.third i x y + (6 - x / 3 ^ i % 3 - y / 3 ^ i % 3) % 3 * 3 ^ i := by
  unfold Kzt3.third
  rw [List.range_succ, List.map_append, List.foldl_append]
  rfl
theorem third_lt (i x y : Nat) : Kzt3.third i x y < 3 ^ i := by
  induction i with
  | zero => exact Nat.one_pos
  | succ i ih =>
    rw [third_succ, Nat.pow_succ]
    have h : (6 - x / 3 ^ i % 3 - y / 3 ^ i % 3) % 3 < 3 := Nat.mod_lt _ (by decide)
    generalize (6 - x / 3 ^ i % 3 - y / 3 ^ i % 3) % 3 = d at h
    have h2 : d * 3 ^ i ≤ 2 * 3 ^ i := Nat.mul_le_mul_right _ (by omega)
    omega
theorem pow_pos3 (i : Nat) : 0 < 3 ^ i := Nat.pow_pos (by decide)
theorem pow_le81 {i : Nat} (h : i ≤ 4) : 3 ^ i ≤ 81 := Nat.pow_le_pow_right (n := 3) (by decide) h
/-- one turn of the loop, as Python reckons it -/
theorem turn_third (i x y : Nat) :
    (Kzt3.third i x y : Int) + (6 - ((x : Int) / ((3 ^ i : Nat) : Int) % 3 + (y : Int) / ((3 ^ i : Nat) : Int) % 3)) % 3 * ((3 ^ i : Nat) : Int) = ((Kzt3.third (i + 1) x y : Nat) : Int) := by
  rw [third_succ]
  have e1 : (x : Int) / ((3 ^ i : Nat) : Int) % 3 = ((x / 3 ^ i % 3 : Nat) : Int) := rfl
  have e2 : (y : Int) / ((3 ^ i : Nat) : Int) % 3 = ((y / 3 ^ i % 3 : Nat) : Int) := rfl
  rw [e1, e2]
  have h1 : x / 3 ^ i % 3 < 3 := Nat.mod_lt _ (by decide)
  have h2 : y / 3 ^ i % 3 < 3 := Nat.mod_lt _ (by decide)
  generalize x / 3 ^ i % 3 = a at h1
  generalize y / 3 ^ i % 3 = b at h2
  have e3 : (6 - ((a : Int) + (b : Int))) % 3 = (((6 - a - b) % 3 : Nat) : Int) := by omega
  rw [e3, Int.natCast_add, Int.natCast_mul]
theorem turn_pow (i : Nat) : ((3 ^ i : Nat) : Int) * 3 = ((3 ^ (i + 1) : Nat) : Int) := by
  rw [Nat.pow_succ, Int.natCast_mul]
  rfl
/-! ### sets -/
/-- the loop of is_set from its item on -/
def chk (cnt : Nat) : Nat → List Nat → Bool
  | _, [] => true
  | lo, p :: r => if p < lo ∨ cnt ≤ p then false else chk cnt (p + 1) r
theorem chk_nil (cnt lo : Nat) : chk cnt lo [] = true := rfl
theorem chk_cons (cnt lo p : Nat) (r : List Nat) : chk cnt lo (p :: r) = if p < lo ∨ cnt ≤ p then false else chk cnt (p + 1) r := rfl
theorem chk_low {cnt : Nat} : ∀ {s : List Nat} {lo : Nat}, chk cnt lo s = true → ∀ x ∈ s, lo ≤ x ∧ x < cnt
  | [], _, _, x, h => by cases h
  | p :: r, lo, h, x, hx => by
    unfold chk at h
    by_cases c : p < lo ∨ cnt ≤ p
    · rw [if_pos c] at h
      cases h
    · rw [if_neg c] at h
      cases hx with
      | head => omega
      | tail _ hx =>
        have := chk_low h x hx
        omega
theorem chk_ok {cnt : Nat} : ∀ {s : List Nat} {lo : Nat}, chk cnt lo s = (Kzt3.rising s && s.all (fun x => decide (x < cnt)) && decide (∀ x ∈ s.head?, lo ≤ x))
  | [], _ => by simp [chk, Kzt3.rising]
  | [p], lo => by
    simp only [chk, Kzt3.rising]
    by_cases c : p < lo ∨ cnt ≤ p
    · rw [if_pos c]
      simp
      omega
    · rw [if_neg c]
      simp
      omega
  | p :: q :: r, lo => by
    have ih := chk_ok (cnt := cnt) (s := q :: r) (lo := p + 1)
    unfold chk
    rw [ih, show Kzt3.rising (p :: q :: r) = (decide (p < q) && Kzt3.rising (q :: r)) from rfl]
    by_cases c : p < lo ∨ cnt ≤ p
    · rw [if_pos c]
      simp
      omega
    · rw [if_neg c]
      have c1 : p < cnt := by omega
      have c2 : lo ≤ p := by omega
      by_cases d : p < q
      · have d' : p + 1 ≤ q := d
        simp [c1, c2, d, d']
      · have d' : ¬ p + 1 ≤ q := d
        simp [d, d']
theorem chk_set (n : Nat) (s : List Nat) : chk (3 ^ n) 0 s = Kzt3.okSet n s := by
  rw [chk_ok]
  unfold Kzt3.okSet
  simp
/-- what rises -/
theorem chk_pair {cnt : Nat} : ∀ {s : List Nat} {lo : Nat}, chk cnt lo s = true → s.Pairwise (· < ·)
  | [], _, _ => .nil
  | p :: r, lo, h => by
    unfold chk at h
    by_cases c : p < lo ∨ cnt ≤ p
    · rw [if_pos c] at h
      cases h
    · rw [if_neg c] at h
      exact .cons (fun x hx => (chk_low h x hx).1) (chk_pair h)
theorem ok_pair {n : Nat} {s : List Nat} (h : Kzt3.okSet n s = true) : s.Pairwise (· < ·) := chk_pair ((chk_set n s).trans h)
theorem ok_lt {n : Nat} {s : List Nat} (h : Kzt3.okSet n s = true) : ∀ x ∈ s, x < 3 ^ n := fun x hx => (chk_low ((chk_set n s).trans h) x hx).2
/-! ### lists -/
theorem take_more {α : Type} : ∀ {l : List α} {i : Nat} {x : α}, l[i]? = some x → l.take (i + 1) = l.take i ++ [x]
  | [], i, x, h => by simp at h
  | a :: l, 0, x, h => by
    have e : a = x := Option.some.inj h
    subst e
    rfl
  | a :: l, i + 1, x, h => by
    have ih := take_more (l := l) (i := i) (x := x) h
    show a :: l.take (i + 1) = a :: l.take i ++ [x]
    rw [ih]
    rfl
theorem drop_more {α : Type} : ∀ {l : List α} {i : Nat} {x : α}, l[i]? = some x → l.drop i = x :: l.drop (i + 1)
  | [], i, x, h => by simp at h
  | a :: l, 0, x, h => by
    have e : a = x := Option.some.inj h
    subst e
    rfl
  | a :: l, i + 1, x, h => drop_more (l := l) (i := i) (x := x) h
/-! ### threes -/
abbrev Tri := Nat × Nat × Nat
/-- a second point's three, x the first -/
def tri (n : Nat) (s : List Nat) (x y : Nat) : Option Tri := if y < Kzt3.third n x y ∧ s.contains (Kzt3.third n x y) = true then some (x, y, Kzt3.third n x y) else none
theorem fm_none {α β : Type} {f : α → Option β} : ∀ {l : List α}, (∀ x ∈ l, f x = none) → l.filterMap f = []
  | [], _ => rfl
  | a :: l, h => by
    rw [List.filterMap_cons, h a List.mem_cons_self]
    exact fm_none fun x hx => h x (List.mem_cons_of_mem _ hx)
theorem fm_eq {α β : Type} {f g : α → Option β} : ∀ {l : List α}, (∀ x ∈ l, f x = g x) → l.filterMap f = l.filterMap g
  | [], _ => rfl
  | a :: l, h => by
    rw [List.filterMap_cons, List.filterMap_cons, h a List.mem_cons_self, fm_eq fun x hx => h x (List.mem_cons_of_mem _ hx)]
theorem row_of {n : Nat} {s : List Nat} (hs : s.Pairwise (· < ·)) {i x : Nat} (hi : s[i]? = some x) :
    (s.filterMap fun y => let z := Kzt3.third n x y
      if x < y ∧ y < z ∧ s.contains z = true then some (x, y, z) else none) = (s.drop (i + 1)).filterMap (tri n s x) := by
  have e : s = s.take i ++ x :: s.drop (i + 1) := by
    rw [← drop_more hi]
    exact (List.take_append_drop i s).symm
  have hp := hs
  rw [e] at hp
  rw [List.pairwise_append] at hp
  obtain ⟨_, p2, p3⟩ := hp
  rw [List.pairwise_cons] at p2
  have h1 : ∀ (f : Nat → Option Tri), s.filterMap f = (s.take i).filterMap f ++ (x :: s.drop (i + 1)).filterMap f := fun f => by
    conv => lhs; rw [e]
    rw [List.filterMap_append]
  rw [h1, List.filterMap_cons]
  rw [fm_none fun y hy => ?_]
  · have hx : ¬ (x < x ∧ x < Kzt3.third n x x ∧ s.contains (Kzt3.third n x x) = true) := fun c => Nat.lt_irrefl _ c.1
    dsimp only
    rw [if_neg hx]
    dsimp only
    rw [List.nil_append]
    refine fm_eq fun y hy => ?_
    have hxy : x < y := p2.1 y hy
    unfold tri
    by_cases c : y < Kzt3.third n x y ∧ s.contains (Kzt3.third n x y) = true
    · rw [if_pos c, if_pos ⟨hxy, c⟩]
    · rw [if_neg c, if_neg fun q => c q.2]
  · have hyx : y < x := p3 y hy x List.mem_cons_self
    dsimp only
    rw [if_neg fun c => Nat.lt_asymm c.1 hyx]
/-- what the loops have behind i first points -/
def lns (n : Nat) (s : List Nat) (i : Nat) : List Tri := (s.take i).flatMap fun x => s.filterMap fun y => let z := Kzt3.third n x y
  if x < y ∧ y < z ∧ s.contains z = true then some (x, y, z) else none
theorem lns_all (n : Nat) (s : List Nat) : lns n s s.length = Kzt3.threes n s := by
  unfold lns Kzt3.threes
  rw [List.take_length]
theorem lns_more {n : Nat} {s : List Nat} (hs : s.Pairwise (· < ·)) {i x : Nat} (hi : s[i]? = some x) : lns n s (i + 1) = lns n s i ++ (s.drop (i + 1)).filterMap (tri n s x) := by
  unfold lns
  rw [take_more hi, List.flatMap_append, List.flatMap_cons, List.flatMap_nil, List.append_nil, row_of hs hi]
/-- and behind j of the second ones -/
def lnsj (n : Nat) (s : List Nat) (i x j : Nat) : List Tri := lns n s i ++ ((s.drop (i + 1)).take j).filterMap (tri n s x)
theorem lnsj_more {n : Nat} {s : List Nat} {i x j y : Nat} (hj : (s.drop (i + 1))[j]? = some y) : lnsj n s i x (j + 1) = lnsj n s i x j ++ (tri n s x y).toList := by
  unfold lnsj
  rw [take_more hj, List.filterMap_append, List.append_assoc]
  congr 1
theorem lnsj_all {n : Nat} {s : List Nat} (hs : s.Pairwise (· < ·)) {i x : Nat} (hi : s[i]? = some x) : lnsj n s i x (s.drop (i + 1)).length = lns n s (i + 1) := by
  unfold lnsj
  rw [List.take_length, lns_more hs hi]
theorem lns_len {n : Nat} {s : List Nat} (i : Nat) : (lns n s i).length ≤ i * s.length := by
  unfold lns
  induction i with
  | zero => simp
  | succ i ih =>
    cases e : s[i]? with
    | none =>
      have z : s.take (i + 1) = s.take i := by
        rw [List.getElem?_eq_none_iff] at e
        rw [List.take_of_length_le (by omega), List.take_of_length_le e]
      rw [z]
      refine Nat.le_trans ih (Nat.mul_le_mul_right _ (Nat.le_succ i))
    | some x =>
      rw [take_more e, List.flatMap_append, List.length_append, List.flatMap_cons, List.flatMap_nil, List.append_nil, Nat.succ_mul]
      exact Nat.add_le_add ih (List.length_filterMap_le _ _)
theorem lnsj_len {n : Nat} {s : List Nat} {i x j : Nat} : (lnsj n s i x j).length ≤ i * s.length + s.length := by
  unfold lnsj
  rw [List.length_append]
  refine Nat.add_le_add (lns_len i) (Nat.le_trans (List.length_filterMap_le _ _) ?_)
  rw [List.length_take, List.length_drop]
  omega
/-! ### numbers handed in -/
def up (l : List Nat) : List Int := l.map fun (x : Nat) => (x : Int)
theorem up_down {l : List Int} (h : ∀ x ∈ l, 0 ≤ x) : up (l.map Int.toNat) = l := by
  induction l with
  | nil => rfl
  | cons a l ih =>
    show ((a.toNat : Nat) : Int) :: up (l.map Int.toNat) = a :: l
    rw [ih fun x hx => h x (List.mem_cons_of_mem _ hx), Int.toNat_of_nonneg (h a List.mem_cons_self)]
end Kz
namespace Kw
open PySem
def topS (i : Nat) : Stmt := PySem.Challenge.pw_nothreelines_s01_third.main.body.getD i (.Pass ⟨0, 0, 0, 0⟩)
abbrev sHas : Stmt := topS 5
abbrev sCount : Stmt := topS 6
abbrev sPoint : Stmt := topS 7
abbrev sThird : Stmt := topS 8
abbrev sMain : Stmt := topS 4
end Kw
namespace Kw
open PySem PySem.Spec PyProof.Rows L2
open PySem.W (Codec)
theorem same_upd {H : Hp} {p : Addr} {o : HO} (h : H p = none) : Same H (upd H p o) := fun b x e => by
  rw [upd_ne (ne_of_none e h)]
  exact e
theorem if_t {c : Bool} {A B : Prop} (hc : c = true) (h : A) : if c = true then A else B := by
  rw [if_pos hc]
  exact h
theorem if_f {c : Bool} {A B : Prop} (hc : c = false) (h : B) : if c = true then A else B := by
  rw [hc, if_neg Bool.false_ne_true]
  exact h
def nV (l : List Nat) : List V := l.map fun (x : Nat) => V.int (x : Int)
theorem nV_len (l : List Nat) : (nV l).length = l.length := List.length_map ..
theorem nV_get {l : List Nat} {i : Nat} {y : V} (h : (nV l)[i]? = some y) : ∃ z : Nat, l[i]? = some z ∧ y = V.int (z : Int) := by
  unfold nV at h
  rw [List.getElem?_map] at h
  cases e : l[i]? with
  | none =>
    rw [e] at h
    cases h
  | some z =>
    rw [e] at h
    exact ⟨z, rfl, (Option.some.inj h).symm⟩
theorem nV_ints (l : List Nat) : (Kz.up l).map V.int = nV l := by
  unfold Kz.up nV
  rw [List.map_map]
  rfl
theorem pow_mul {i : Nat} (h : i ≤ 4) : CMul ((3 ^ i : Nat) : Int) 3 := .inr ⟨by decide, by decide⟩
theorem pow_div {i : Nat} (h : i ≤ 4) (x : Int) : CDiv x ((3 ^ i : Nat) : Int) := by
  have h1 := Kz.pow_pos3 i
  have h2 := Kz.pow_le81 h
  exact ⟨by omega, by omega⟩
theorem pow_mulR {i : Nat} (h : i ≤ 4) (x : Int) : CMul x ((3 ^ i : Nat) : Int) := by
  have h1 := Kz.pow_pos3 i
  have h2 := Kz.pow_le81 h
  exact .inr ⟨by omega, by omega⟩
section
variable {P : Program} {w : World} {K : PySem.W.Frag} {mg : Str → Option Value} {base : Heap}
/-! ### has_points -/
def spHas : Sp := fun vs H Q _ => ∃ n : Nat, vs = [.int n] ∧ Q (.bl (Kzt3.okN n)) H
theorem scHas : FnScope ["n"] ["n"] (defScope sHas) := ⟨rfl, rfl, rfl, by decide +kernel, rfl, by decide +kernel, by decide +kernel⟩
theorem ok_has {f : Addr} {fd : FuncData} {k : Nat} {t : Tok} (F : Fun K "has_points" "has_points" sHas f fd) (mM : mg "MOST_NUMBERS" = some (.int 4 t)) : FnOk P w K mg base CX0 (k + 1) f fd ["n"] spHas := by
  refine F.ok scHas (fun vs H Q E h => ?_) (fun cdv A outer s H vs Q E hr h => ?_)
  · obtain ⟨n, rfl, _⟩ := h
    rfl
  · obtain ⟨n, rfl, q⟩ := h
    refine ⟨_, pss_one (ps_ret (pe_and (pe_cmp (pc_le pe_int (pv 0))) (pe_one (pe_cmp (pc_le (pv 0) (pe_glob (v := .int 4) (by rfl) mM ⟨_, rfl⟩)))))), ?_⟩
    refine ⟨.int n, rfl, 1, n, rfl, rfl, _, rfl, ite2 (fun c => ?_) (fun c => ?_)⟩
    · have c1 : (1 : Int) ≤ (n : Int) := of_decide_eq_true c
      have e : Kzt3.okN n = decide ((n : Int) ≤ 4) := by
        unfold Kzt3.okN
        rw [decide_eq_true (show 1 ≤ n by omega), Bool.true_and]
        exact decide_eq_decide.mpr (by omega)
      rw [e] at q
      exact ⟨.int n, rfl, n, 4, rfl, rfl, q⟩
    · have c1 : ¬ (1 : Int) ≤ (n : Int) := fun z => c (decide_eq_true z)
      have e : Kzt3.okN n = false := by
        unfold Kzt3.okN
        rw [decide_eq_false (show ¬ 1 ≤ n by omega), Bool.false_and]
      rw [e] at q
      exact q
theorem okN_le {n : Nat} (h : Kzt3.okN n = true) : n ≤ 4 := by
  unfold Kzt3.okN at h
  rw [Bool.and_eq_true] at h
  exact of_decide_eq_true h.2
/-! ### point_count -/
def spCount : Sp := fun vs H Q _ => ∃ n : Nat, vs = [.int n] ∧ n ≤ 4 ∧ Q (.int ((3 ^ n : Nat) : Int)) H
theorem scCount : FnScope ["n", "count", "i"] ["n"] (defScope sCount) := ⟨rfl, rfl, rfl, by decide +kernel, rfl, by decide +kernel, by decide +kernel⟩
theorem ok_count {f : Addr} {fd : FuncData} {k : Nat} (F : Fun K "point_count" "point_count" sCount f fd) (mr : mg "range" = none) : FnOk P w K mg base CX0 (k + 1) f fd ["n"] spCount := by
  refine F.ok scCount (fun vs H Q E h => ?_) (fun cdv A outer s H vs Q E hr h => ?_)
  · obtain ⟨n, rfl, _⟩ := h
    rfl
  · obtain ⟨n, rfl, hn, q⟩ := h
    refine ⟨_, pss_cons (ps_set (i := 1) scCount.nd rfl (.inl rfl) pe_int)
      (pss_cons (ps_for PassesOwn.never rfl (pi_range1 (by rfl) mr (pa_cons (pv 0) pa_nil)) (pg_name (i := 2) scCount.nd rfl (.inl rfl))
        (pss_one (ps_set (i := 1) scCount.nd rfl (.inl rfl) (pe_op op_mul (pv 1) pe_int))))
      (pss_one (ps_ret (pv 1)))), ?_⟩
    refine ⟨_, rfl, (n : Int), rfl, by omega, by omega, ?_⟩
    refine for_range (lo := 0) (n := n) (fun i σ H' => ∃ v : Option V, σ = [some (.int n), some (.int ((3 ^ i : Nat) : Int)), v] ∧ H' = H) ⟨none, rfl, rfl⟩ ?_ ?_
    · rintro i σ H' hi ⟨v, rfl, rfl⟩
      refine ⟨_, rfl, ((3 ^ i : Nat) : Int), 3, rfl, rfl, pow_mul (by omega), some (.int (0 + i)), ?_, rfl⟩
      rw [← Kz.turn_pow]
      rfl
    · rintro σ H' ⟨v, rfl, rfl⟩
      exact ⟨_, rfl, q⟩
/-! ### is_point -/
def spPoint : Sp := fun vs H Q _ => ∃ n x : Nat, vs = [.int n, .int x] ∧ n ≤ 4 ∧ Q (.bl (decide (x < 3 ^ n))) H
theorem scPoint : FnScope ["n", "x"] ["n", "x"] (defScope sPoint) := ⟨rfl, rfl, rfl, by decide +kernel, rfl, by decide +kernel, by decide +kernel⟩
theorem ok_point {f fC : Addr} {fd fdC : FuncData} {k : Nat} (F : Fun K "is_point" "is_point" sPoint f fd) (GC : FnOk P w K mg base CX0 (k + 1) fC fdC ["n"] spCount) (gC : mg "point_count" = some (.ref fC)) (kC : PySem.W.keepIn K (.ref fC) = true) (bC : Binds K fdC ["n"] []) :
    FnOk P w K mg base CX0 (k + 2) f fd ["n", "x"] spPoint := by
  refine F.ok scPoint (fun vs H Q E h => ?_) (fun cdv A outer s H vs Q E hr h => ?_)
  · obtain ⟨n, x, rfl, _⟩ := h
    rfl
  · obtain ⟨n, x, rfl, hn, q⟩ := h
    refine ⟨_, pss_one (ps_ret (pe_and (pe_cmp (pc_le pe_int (pv 1))) (pe_one (pe_cmp (pc_lt (pv 1) (pe_call GC hr (by rfl) gC kC bC .nil pass0 (pa_cons (pv 0) pa_nil))))))), ?_⟩
    refine ⟨.int x, rfl, 0, x, rfl, rfl, _, rfl, if_t (decide_eq_true (Int.natCast_nonneg x)) ?_⟩
    refine ⟨.int x, rfl, .int n, rfl, n, rfl, hn, x, ((3 ^ n : Nat) : Int), rfl, rfl, ?_⟩
    show Q (.bl (decide ((x : Int) < ((3 ^ n : Nat) : Int)))) H
    rw [show decide ((x : Int) < ((3 ^ n : Nat) : Int)) = decide (x < 3 ^ n) from decide_eq_decide.mpr Int.ofNat_lt]
    exact q
/-! ### third_point -/
def spThird : Sp := fun vs H Q _ => ∃ n x y : Nat, vs = [.int n, .int x, .int y] ∧ n ≤ 4 ∧ Q (.int ((Kzt3.third n x y : Nat) : Int)) H
theorem scThird : FnScope ["n", "x", "y", "point", "weight", "i", "both"] ["n", "x", "y"] (defScope sThird) := ⟨rfl, rfl, rfl, by decide +kernel, rfl, by decide +kernel, by decide +kernel⟩
theorem ok_third {f : Addr} {fd : FuncData} {k : Nat} (F : Fun K "third_point" "third_point" sThird f fd) (mr : mg "range" = none) : FnOk P w K mg base CX0 (k + 1) f fd ["n", "x", "y"] spThird := by
  refine F.ok scThird (fun vs H Q E h => ?_) (fun cdv A outer s H vs Q E hr h => ?_)
  · obtain ⟨n, x, y, rfl, _⟩ := h
    rfl
  · obtain ⟨n, x, y, rfl, hn, q⟩ := h
    refine ⟨_, pss_cons (ps_set (i := 3) scThird.nd rfl (.inl rfl) pe_int) (pss_cons (ps_set (i := 4) scThird.nd rfl (.inl rfl) pe_int)
      (pss_cons (ps_for PassesOwn.never rfl (pi_range1 (by rfl) mr (pa_cons (pv 0) pa_nil)) (pg_name (i := 5) scThird.nd rfl (.inl rfl))
        (pss_cons (ps_set (i := 6) scThird.nd rfl (.inl rfl) (pe_op op_add (pe_op op_mod (pe_op op_fdiv (pv 1) (pv 4)) pe_int) (pe_op op_mod (pe_op op_fdiv (pv 2) (pv 4)) pe_int)))
        (pss_cons (ps_set (i := 3) scThird.nd rfl (.inl rfl) (pe_op op_add (pv 3) (pe_op op_mul (pe_op op_mod (pe_op op_sub pe_int (pv 6)) pe_int) (pv 4))))
        (pss_one (ps_set (i := 4) scThird.nd rfl (.inl rfl) (pe_op op_mul (pv 4) pe_int))))))
      (pss_one (ps_ret (pv 3))))), ?_⟩
    refine ⟨_, rfl, (n : Int), rfl, by omega, by omega, ?_⟩
    refine for_range (lo := 0) (n := n) (fun i σ H' => ∃ u v : Option V, σ = [some (.int n), some (.int x), some (.int y), some (.int ((Kzt3.third i x y : Nat) : Int)), some (.int ((3 ^ i : Nat) : Int)), u, v] ∧ H' = H) ⟨none, none, rfl, rfl⟩ ?_ ?_
    · rintro i σ H' hi ⟨u, v, rfl, rfl⟩
      have h3 : (0 : Int) < 3 := by decide
      have hd : ∀ z : Int, CDiv z ((3 ^ i : Nat) : Int) := pow_div (by omega)
      refine ⟨_, rfl, _, rfl, (x : Int), ((3 ^ i : Nat) : Int), rfl, rfl, hd _, _, 3, rfl, rfl, h3, _, rfl, _, rfl, (y : Int), ((3 ^ i : Nat) : Int), rfl, rfl, hd _, _, 3, rfl, rfl, h3, _, _, rfl, rfl, ?_⟩
      refine ⟨_, rfl, _, rfl, 6, _, rfl, rfl, _, 3, rfl, rfl, h3, _, rfl, _, ((3 ^ i : Nat) : Int), rfl, rfl, pow_mulR (by omega) _, ((Kzt3.third i x y : Nat) : Int), _, rfl, rfl, ?_⟩
      refine ⟨_, rfl, ((3 ^ i : Nat) : Int), 3, rfl, rfl, pow_mul (by omega), some (.int (0 + i)), some (.int ((x : Int) / ((3 ^ i : Nat) : Int) % 3 + (y : Int) / ((3 ^ i : Nat) : Int) % 3)), ?_, rfl⟩
      rw [← Kz.turn_pow, ← Kz.turn_third]
      rfl
    · rintro σ H' ⟨u, v, rfl, rfl⟩
      exact ⟨_, rfl, q⟩
/-! ### third -/
theorem ans_third (n x y : Nat) : PyKzt3.third n x y = (Kzt3.answer (.third n x y)).value :: (Kzt3.answer (.third n x y)).nums := rfl
theorem third_22 {n : Nat} (x y : Nat) (h : Kzt3.okN n = false) : PyKzt3.third n x y = [-22] := by
  rw [ans_third]
  unfold Kzt3.answer
  dsimp only
  rw [if_pos h]
  rfl
theorem third_2 {n x y : Nat} (h : Kzt3.okN n = true) (c : 3 ^ n ≤ x ∨ 3 ^ n ≤ y) : PyKzt3.third n x y = [-2] := by
  rw [ans_third]
  unfold Kzt3.answer
  dsimp only
  rw [if_neg (by rw [h]; decide), if_pos c]
  rfl
theorem third_ok {n x y : Nat} (h : Kzt3.okN n = true) (c : ¬ (3 ^ n ≤ x ∨ 3 ^ n ≤ y)) : PyKzt3.third n x y = [((Kzt3.third n x y : Nat) : Int)] := by
  rw [ans_third]
  unfold Kzt3.answer
  dsimp only
  rw [if_neg (by rw [h]; decide), if_neg c]
  rfl
def spMain (_ : PySem.W.Frag) : Sp := fun vs H Q _ => ∃ n x y : Nat, vs = [.int n, .int x, .int y] ∧ ∀ (H' : Hp) (p : Addr), H' p = some (.lst ((PyKzt3.third n x y).map V.int)) → Q (.ref p) H'
theorem scMain : FnScope ["n", "x", "y"] ["n", "x", "y"] (defScope sMain) := ⟨rfl, rfl, rfl, by decide +kernel, rfl, by decide +kernel, by decide +kernel⟩
theorem ok_main {f fH fP fT : Addr} {fd fdH fdP fdT : FuncData} {tU tN : Tok} (F : Fun K "third" "third" sMain f fd)
    (GH : FnOk P w K mg base CX0 2 fH fdH ["n"] spHas) (gH : mg "has_points" = some (.ref fH)) (kH : PySem.W.keepIn K (.ref fH) = true) (bH : Binds K fdH ["n"] [])
    (GP : FnOk P w K mg base CX0 2 fP fdP ["n", "x"] spPoint) (gP : mg "is_point" = some (.ref fP)) (kP : PySem.W.keepIn K (.ref fP) = true) (bP : Binds K fdP ["n", "x"] [])
    (GT : FnOk P w K mg base CX0 2 fT fdT ["n", "x", "y"] spThird) (gT : mg "third_point" = some (.ref fT)) (kT : PySem.W.keepIn K (.ref fT) = true) (bT : Binds K fdT ["n", "x", "y"] [])
    (mU : mg "UNFIT" = some (.int (-22) tU)) (mN : mg "NO_POINT" = some (.int (-2) tN)) :
    FnOk P w K mg base CX0 3 f fd ["n", "x", "y"] (spMain K) := by
  refine F.ok scMain (fun vs H Q E h => ?_) (fun cdv A outer s H vs Q E hr h => ?_)
  · obtain ⟨n, x, y, rfl, _⟩ := h
    rfl
  · obtain ⟨n, x, y, rfl, q⟩ := h
    refine ⟨_, pss_cons (ps_if (pt_not (pt_val (pe_call GH hr (by rfl) gH kH bH .nil pass0 (pa_cons (pv 0) pa_nil)))) (pss_one (ps_ret (pe_lst (pa_cons (pe_glob (v := .int (-22)) (by rfl) mU ⟨_, rfl⟩) pa_nil)))) pss_nil)
      (pss_cons (ps_if (PW.pt (pw_or (pt_not (pt_val (pe_call GP hr (by rfl) gP kP bP .nil pass0 (pa_cons (pv 0) (pa_cons (pv 1) pa_nil))))) (pw_or1 (pt_not (pt_val (pe_call GP hr (by rfl) gP kP bP .nil pass0 (pa_cons (pv 0) (pa_cons (pv 2) pa_nil))))))))
        (pss_one (ps_ret (pe_lst (pa_cons (pe_glob (v := .int (-2)) (by rfl) mN ⟨_, rfl⟩) pa_nil)))) pss_nil)
      (pss_one (ps_ret (pe_lst (pa_cons (pe_call GT hr (by rfl) gT kT bT .nil pass0 (pa_cons (pv 0) (pa_cons (pv 1) (pa_cons (pv 2) pa_nil)))) pa_nil))))), ?_⟩
    have one : 1 ≤ sizeLine := by decide
    refine ⟨_, rfl, n, rfl, _, rfl, ?_⟩
    cases hN : Kzt3.okN n with
    | false =>
      refine iteT ⟨one, fun p hp => q _ p ?_⟩
      rw [third_22 x y hN]
      exact upd_same
    | true =>
      refine iteF ?_
      have hn := okN_le hN
      refine ⟨_, rfl, _, rfl, n, x, rfl, hn, _, rfl, ?_⟩
      by_cases cx : x < 3 ^ n
      · refine if_f (by rw [decide_eq_true cx]; rfl) ?_
        refine ⟨_, rfl, _, rfl, n, y, rfl, hn, _, rfl, ?_⟩
        by_cases cy : y < 3 ^ n
        · refine if_f (by rw [decide_eq_true cy]; rfl) ?_
          refine ⟨_, rfl, _, rfl, _, rfl, n, x, y, rfl, hn, one, fun p hp => q _ p ?_⟩
          rw [third_ok hN (by omega)]
          exact upd_same
        · refine if_t (by rw [decide_eq_false cy]; rfl) ⟨one, fun p hp => q _ p ?_⟩
          rw [third_2 hN (by omega)]
          exact upd_same
      · refine if_t (by rw [decide_eq_false cx]; rfl) ?_
        refine if_t rfl ⟨one, fun p hp => q _ p ?_⟩
        rw [third_2 hN (by omega)]
        exact upd_same
end
/-! ### what the top has written -/
theorem all_mk {P : Program} {w : World} {K : PySem.W.Frag} {h : Heap} {mg : Str → Option Value} {fa f0 f1 f2 f3 f4 : Addr} (X : K.In h) (G : h.Ns mainGlobals mg) (hfa : mg "third" = some (.ref fa))
    {od0 an0 od1 an1 od2 an2 od3 an3 od4 an4 : Option Addr} {sl0 sl1 sl2 sl3 sl4 : Array (Option Value)} {oc0 kV0 dc0 pm0 cd0 ct0 oc1 kV1 dc1 pm1 cd1 ct1 oc2 kV2 dc2 pm2 cd2 ct2 oc3 kV3 dc3 pm3 cd3 ct3 oc4 kV4 dc4 pm4 cd4 ct4 : Value}
    {t0 t1 t2 : Tok}
    (a0 : PySem.W.nsIn K mainGlobals "has_points" = some (some (.ref f0))) (l0 : K.lookup f0 = some ⟨oc0, od0, .func (PySem.W.fnOf "has_points" "has_points" (defArgs sHas) (defBody sHas) (defScope sHas) .none kV0 dc0 pm0 an0 cd0 ct0), sl0⟩) (c0 : PySem.W.codeIn K cd0 "has_points" = true) (k0 : PySem.W.keepIn K (.ref f0) = true)
    (a1 : PySem.W.nsIn K mainGlobals "point_count" = some (some (.ref f1))) (l1 : K.lookup f1 = some ⟨oc1, od1, .func (PySem.W.fnOf "point_count" "point_count" (defArgs sCount) (defBody sCount) (defScope sCount) .none kV1 dc1 pm1 an1 cd1 ct1), sl1⟩) (c1 : PySem.W.codeIn K cd1 "point_count" = true) (k1 : PySem.W.keepIn K (.ref f1) = true)
    (a2 : PySem.W.nsIn K mainGlobals "is_point" = some (some (.ref f2))) (l2 : K.lookup f2 = some ⟨oc2, od2, .func (PySem.W.fnOf "is_point" "is_point" (defArgs sPoint) (defBody sPoint) (defScope sPoint) .none kV2 dc2 pm2 an2 cd2 ct2), sl2⟩) (c2 : PySem.W.codeIn K cd2 "is_point" = true) (k2 : PySem.W.keepIn K (.ref f2) = true)
    (a3 : PySem.W.nsIn K mainGlobals "third_point" = some (some (.ref f3))) (l3 : K.lookup f3 = some ⟨oc3, od3, .func (PySem.W.fnOf "third_point" "third_point" (defArgs sThird) (defBody sThird) (defScope sThird) .none kV3 dc3 pm3 an3 cd3 ct3), sl3⟩) (c3 : PySem.W.codeIn K cd3 "third_point" = true) (k3 : PySem.W.keepIn K (.ref f3) = true)
    (a4 : PySem.W.nsIn K mainGlobals "third" = some (some (.ref f4))) (l4 : K.lookup f4 = some ⟨oc4, od4, .func (PySem.W.fnOf "third" "third" (defArgs sMain) (defBody sMain) (defScope sMain) .none kV4 dc4 pm4 an4 cd4 ct4), sl4⟩) (c4 : PySem.W.codeIn K cd4 "third" = true) (k4 : PySem.W.keepIn K (.ref f4) = true)
    (u0 : PySem.W.nsIn K mainGlobals "UNFIT" = some (some (.int (-22) t0)))
    (u1 : PySem.W.nsIn K mainGlobals "NO_POINT" = some (some (.int (-2) t1)))
    (u2 : PySem.W.nsIn K mainGlobals "MOST_NUMBERS" = some (some (.int (4) t2)))
    (z0 : PySem.W.nsIn K mainGlobals "range" = some none) :
    ∃ fd : FuncData, (∀ (s : Shared) (us : List Value), us.length = (["n", "x", "y"] : List Str).length → BindsTo s fd ⟨us, []⟩ ((["n", "x", "y"] : List Str).zip us)) ∧ ∀ base : Heap, K.In base → base.Ns mainGlobals mg → FnOk P w K mg base CX0 3 fa fd ["n", "x", "y"] (spMain K) := by
  have e := hfa.symm.trans (PySem.W.mg_of X G a4)
  cases e
  have FHas := fun_mk (st := sHas) l0 c0 k0
  have bHas := FHas.binds (ps := ["n"]) fun _ _ _ _ _ _ us hl => match us, hl with | [_], _ => rfl
  have gHas := PySem.W.mg_of X G a0
  have kHas := k0
  have FCount := fun_mk (st := sCount) l1 c1 k1
  have bCount := FCount.binds (ps := ["n"]) fun _ _ _ _ _ _ us hl => match us, hl with | [_], _ => rfl
  have gCount := PySem.W.mg_of X G a1
  have kCount := k1
  have FPoint := fun_mk (st := sPoint) l2 c2 k2
  have bPoint := FPoint.binds (ps := ["n", "x"]) fun _ _ _ _ _ _ us hl => match us, hl with | [_, _], _ => rfl
  have gPoint := PySem.W.mg_of X G a2
  have kPoint := k2
  have FThird := fun_mk (st := sThird) l3 c3 k3
  have bThird := FThird.binds (ps := ["n", "x", "y"]) fun _ _ _ _ _ _ us hl => match us, hl with | [_, _, _], _ => rfl
  have gThird := PySem.W.mg_of X G a3
  have kThird := k3
  have FMain := fun_mk (st := sMain) l4 c4 k4
  have m_UNFIT := PySem.W.mg_of X G u0
  have m_NO_POINT := PySem.W.mg_of X G u1
  have m_MOST_NUMBERS := PySem.W.mg_of X G u2
  have m_range := PySem.W.mg_none_of X G z0
  refine ⟨PySem.W.fnOf "third" "third" (defArgs sMain) (defBody sMain) (defScope sMain) .none kV4 dc4 pm4 an4 cd4 ct4, fun s us hu => match us, hu with | [_, _, _], _ => .of_eq rfl, fun base _ _ => ?_⟩
  exact ok_main FMain (ok_has FHas m_MOST_NUMBERS) gHas kHas bHas (ok_point FPoint (ok_count FCount m_range) gCount kCount bCount) gPoint kPoint bPoint (ok_third FThird m_range) gThird kThird bThird m_UNFIT m_NO_POINT
end Kw
open PySem PySem.W PyProof.Rows
set_option maxRecDepth 100000 in
set_option maxHeartbeats 8000000 in
theorem PySem.Challenge.cw_nothreelines_s01_third_holds : PySem.Challenge.rw_nothreelines_s01_third.Holds := by
  w_on; k_headS; (case hw => exact ⟨[.int 0, .int 0, .int 0], by decide +kernel, by decide +kernel⟩)
  k_fillS
  refine L2.walk_specK (r := PySem.Challenge.rw_nothreelines_s01_third) (k := 3) (CX := L2.CX0) (ps := ["n", "x", "y"]) (sp := Kw.spMain) (by decide +kernel) rfl rfl ⟨rfl, by decide, by decide⟩ (fun w h Y => PySem.W.kIn_of Y) ?F ?S (fun _ _ _ _ z => z)
  case F =>
    intro w mg fa h Y KX G hmg
    refine' Kw.all_mk KX G hmg ?a0 ?l0 ?c0 ?k0 ?a1 ?l1 ?c1 ?k1 ?a2 ?l2 ?c2 ?k2 ?a3 ?l3 ?c3 ?k3 ?a4 ?l4 ?c4 ?k4 ?u0 ?u1 ?u2 ?z0
    (case a0 => k_is)
    (case l0 => k_is)
    (case c0 => k_is)
    (case k0 => k_is)
    (case a1 => k_is)
    (case l1 => k_is)
    (case c1 => k_is)
    (case k1 => k_is)
    (case a2 => k_is)
    (case l2 => k_is)
    (case c2 => k_is)
    (case k2 => k_is)
    (case a3 => k_is)
    (case l3 => k_is)
    (case c3 => k_is)
    (case k3 => k_is)
    (case a4 => k_is)
    (case l4 => k_is)
    (case c4 => k_is)
    (case k4 => k_is)
    (case u0 => k_is)
    (case u1 => k_is)
    (case u2 => k_is)
    (case z0 => k_is)
  case S =>
    intro K H xs a hO hwi hask hx
    have q : (Codec.inInt 0 4294967295 a.1 && (Codec.inInt 0 4294967295 a.2.1 && (Codec.inInt 0 4294967295 a.2.2.1 && true))) = true := hwi
    rw [Bool.and_eq_true, Bool.and_eq_true, Bool.and_eq_true] at q
    have q1 := (Codec.inInt_iff.mp q.1).1
    have q2 := (Codec.inInt_iff.mp q.2.1).1
    have q3 := (Codec.inInt_iff.mp q.2.2.1).1
    obtain ⟨n, x, y, u⟩ := a
    obtain ⟨n, rfl⟩ := Int.eq_ofNat_of_zero_le (show 0 ≤ n from q1)
    obtain ⟨x, rfl⟩ := Int.eq_ofNat_of_zero_le (show 0 ≤ x from q2)
    obtain ⟨y, rfl⟩ := Int.eq_ofNat_of_zero_le (show 0 ≤ y from q3)
    cases hx with
    | cons h1 h2 =>
      cases h1
      cases h2 with
      | cons h3 h4 =>
        cases h3
        cases h4 with
        | cons h5 h6 =>
          cases h5
          cases h6
          exact ⟨n, x, y, rfl, fun H' p hp => .lst (L2.SqL.of hp) (L2.dw_ints _)⟩
#print axioms PySem.Challenge.cw_nothreelines_s01_third_holds
