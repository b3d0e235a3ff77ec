import PyProof.Rows.All
import Wide.All
import OpenK.AllK
import Wide.FinOn
import Open.SpecLaws
import KE.OsGo
import HandS.ForSpec
import HandS.Dict
import HandS.Iter
import HandS.WordsDict
import HandS.Walk
import PySem.Challenge.RW_nothreelines_s02_threes
set_option Elab.async false
set_option linter.all false
set_option maxRecDepth 100000
set_option maxHeartbeats 4000000
namespace Kz
/-! ### third -/
theorem third_zero (x y : Nat) : Kzt3.third 0 x y = 0 := rfl
theorem third_succ (i x y : Nat) : Kzt3.third (i + 1) x y = Kzt3.third i x y + (6 - x / 3 ^ i % 3 - y / 3 ^ i % 3) % 3 * 3 ^ i := by
  unfold Kzt3.third
  rw [List.range_succ, List.map_append, List.foldl_append]
  rfl
theorem third_lt (i x y : Nat) : Kzt3.third i x y < 3 ^ i := by
  induction i with
  | zero => exact Nat.one_pos
  | succ i ih =>
    rw [third_succ, Nat.pow_succ]
    have h : (6 - x / 3 ^ i % 3 - y / 3 ^ i % 3) % 3 < 3 := Nat.mod_lt _ (by decide)
    generalize (6 - x / 3 ^ i % 3 - y / 3 ^ i % 3) % 3 = d at h
    have h2 : d * 3 ^ i ≤ 2 * 3 ^ i := Nat.mul_le_mul_right _ (by omega)
    omega
theorem pow_pos3 (i : Nat) : 0 < 3 ^ i := Nat.pow_pos (by decide)
theorem pow_le81 {i : Nat} (h : i ≤ 4) : 3 ^ i ≤ 81 := Nat.pow_le_pow_right (n := 3) (by decide) h
/-- one turn of the loop, as Python reckons it -/
theorem turn_third (i x y : Nat) :
    (Kzt3.third i x y : Int) + (6 - ((x : Int) / ((3 ^ i : Nat) : Int) % 3 + (y : Int) / ((3 ^ i : Nat) : Int) % 3)) % 3 * ((3 ^ i : Nat) : Int) = ((Kzt3.third (i + 1) x y : Nat) : Int) := by
  rw [third_succ]
  have e1 : (x : Int) / ((3 ^ i : Nat) : Int) % 3 = ((x / 3 ^ i % 3 : Nat) : Int) := rfl
  have e2 : (y : Int) / ((3 ^ i : Nat) : Int) % 3 = ((y / 3 ^ i % 3 : Nat) : Int) := rfl
  rw [e1, e2]
  have h1 : x / 3 ^ i % 3 < 3 := Nat.mod_lt _ (by decide)
  have h2 : y / 3 ^ i % 3 < 3 := Nat.mod_lt _ (by decide)
  generalize x / 3 ^ i % 3 = a at h1
  generalize y / 3 ^ i % 3 = b at h2
  have e3 : (6 - ((a : Int) + (b : Int))) % 3 = (((6 - a - b) % 3 : Nat) : Int) := by omega
  rw [e3, Int.natCast_add, Int.natCast_mul]
theorem turn_pow (i : Nat) : ((3 ^ i : Nat) : Int) * 3 = ((3 ^ (i + 1) : Nat) : Int) := by
  rw [Nat.pow_succ, Int.natCast_mul]
  rfl
/-! ### sets -/
/-- the loop of is_set from its item on -/
def chk (cnt : Nat) : Nat → List Nat → Bool
  | _, [] => true
  | lo, p :: r => if p < lo ∨ cnt ≤ p then false else chk cnt (p + 1) r
theorem chk_nil (cnt lo : Nat) : chk cnt lo [] = true := rfl
theorem chk_cons (cnt lo p : Nat) (r : List Nat) : chk cnt lo (p :: r) = if p < lo ∨ cnt ≤ p then false else chk cnt (p + 1) r := rfl
theorem chk_low {cnt : Nat} : ∀ {s : List Nat} {lo : Nat}, chk cnt lo s = true → ∀ x ∈ s, lo ≤ x ∧ x < cnt
  | [], _, _, x, h => by cases h
  | p :: r, lo, h, x, hx => by
    unfold chk at h
    by_cases c : p < lo ∨ cnt ≤ p
    · rw [if_pos c] at h
      cases h
    · rw [if_neg c] at h
      cases hx with
      | head => omega
      | tail _ hx =>
        have := chk_low h x hx
        omega
theorem chk_ok {cnt : Nat} : ∀ {s : List Nat} {lo : Nat}, chk cnt lo s = (Kzt3.rising s && s.all (fun x => decide (x < cnt)) && decide (∀ x ∈ s.head?, lo ≤ x))
  | [], _ => by simp [chk, Kzt3.rising]
  | [p], lo => by
    simp only [chk, Kzt3.rising]
    by_cases c : p < lo ∨ cnt ≤ p
    · rw [if_pos c]
      simp
      omega
    · rw [if_neg c]
      simp
      omega
  | p :: q :: r, lo => by
    have ih := chk_ok (cnt := cnt) (s := q :: r) (lo := p + 1)
    unfold chk
    rw [ih, show Kzt3.rising (p :: q :: r) = (decide (p < q) && Kzt3.rising (q :: r)) from rfl]
    by_cases c : p < lo ∨ cnt ≤ p
    · rw [if_pos c]
      simp
      omega
    · rw [if_neg c]
      have c1 : p < cnt := by omega
      have c2 : lo ≤ p := by omega
      by_cases d : p < q
      · have d' : p + 1 ≤ q := d
        simp [c1, c2, d, d']
      · have d' : ¬ p + 1 ≤ q := d
        simp [d, d']
theorem chk_set (n : Nat) (s : List Nat) : chk (3 ^ n) 0 s = Kzt3.okSet n s := by
  rw [chk_ok]
  unfold Kzt3.okSet
  simp
/-- what rises -/
theorem chk_pair {cnt : Nat} : ∀ {s : List Nat} {lo : Nat}, chk cnt lo s = true → s.Pairwise (· < ·)
  | [], _, _ => .nil
  | p :: r, lo, h => by
    unfold chk at h
    by_cases c : p < lo ∨ cnt ≤ p
    · rw [if_pos c] at h
      cases h
    · rw [if_neg c] at h
      exact .cons (fun x hx => (chk_low h x hx).1) (chk_pair h)
theorem ok_pair {n : Nat} {s : List Nat} (h : Kzt3.okSet n s = true) : s.Pairwise (· < ·) := chk_pair ((chk_set n s).trans h)
theorem ok_lt {n : Nat} {s : List Nat} (h : Kzt3.okSet n s = true) : ∀ x ∈ s, x < 3 ^ n := fun x hx => (chk_low ((chk_set n s).trans h) x hx).2
/-! ### lists -/
theorem take_more {α : Type} : ∀ {l : List α} {i : Nat} {x : α}, l[i]? = some x → l.take (i + 1) = l.take i ++ [x]
  | [], i, x, h => by simp at h
  | a :: l, 0, x, h => by
    have e : a = x := Option.some.inj h
    subst e
    rfl
  | a :: l, i + 1, x, h => by
    have ih := take_more (l := l) (i := i) (x := x) h
    show a :: l.take (i + 1) = a :: l.take i ++ [x]
    rw [ih]
    rfl
theorem drop_more {α : Type} : ∀ {l : List α} {i : Nat} {x : α}, l[i]? = some x → l.drop i = x :: l.drop (i + 1)
  | [], i, x, h => by simp at h
  | a :: l, 0, x, h => by
    have e : a = x := Option.some.inj h
    subst e
    rfl
  | a :: l, i + 1, x, h => drop_more (l := l) (i := i) (x := x) h
/-! ### threes -/
abbrev Tri := Nat × Nat × Nat
/-- a second point's three, x the first -/
def tri (n : Nat) (s : List Nat) (x y : Nat) : Option Tri := if y < Kzt3.third n x y ∧ s.contains (Kzt3.third n x y) = true then some (x, y, Kzt3.third n x y) else none
theorem fm_none {α β : Type} {f : α → Option β} : ∀ {l : List α}, (∀ x ∈ l, f x = none) → l.filterMap f = []
  | [], _ => rfl
  | a :: l, h => by
    rw [List.filterMap_cons, h a List.mem_cons_self]
    exact fm_none fun x hx => h x (List.mem_cons_of_mem _ hx)
theorem fm_eq {α β : Type} {f g : α → Option β} : ∀ {l : List α}, (∀ x ∈ l, f x = g x) → l.filterMap f = l.filterMap g
  | [], _ => rfl
  | a :: l, h => by
    rw [List.filterMap_cons, List.filterMap_cons, h a List.mem_cons_self, fm_eq fun x hx => h x (List.mem_cons_of_mem _ hx)]
theorem row_of {n : Nat} {s : List Nat} (hs : s.Pairwise (· < ·)) {i x : Nat} (hi : s[i]? = some x) :
    (s.filterMap fun y => let z := Kzt3.third n x y
      if x < y ∧ y < z ∧ s.contains z = true then some (x, y, z) else none) = (s.drop (i + 1)).filterMap (tri n s x) := by
  have e : s = s.take i ++ x :: s.drop (i + 1) := by
    rw [← drop_more hi]
    exact (List.take_append_drop i s).symm
  have hp := hs
  rw [e] at hp
  rw [List.pairwise_append] at hp
  obtain ⟨_, p2, p3⟩ := hp
  rw [List.pairwise_cons] at p2
  have h1 : ∀ (f : Nat → Option Tri), s.filterMap f = (s.take i).filterMap f ++ (x :: s.drop (i + 1)).filterMap f := fun f => by
    conv => lhs; rw [e]
    rw [List.filterMap_append]
  rw [h1, List.filterMap_cons]
  rw [fm_none fun y hy => ?_]
  · have hx : ¬ (x < x ∧ x < Kzt3.third n x x ∧ s.contains (Kzt3.third n x x) = true) := fun c => Nat.lt_irrefl _ c.1
    dsimp only
    rw [if_neg hx]
    dsimp only
    rw [List.nil_append]
    refine fm_eq fun y hy => ?_
    have hxy : x < y := p2.1 y hy
    unfold tri
    by_cases c : y < Kzt3.third n x y ∧ s.contains (Kzt3.third n x y) = true
    · rw [if_pos c, if_pos ⟨hxy, c⟩]
    · rw [if_neg c, if_neg fun q => c q.2]
  · have hyx : y < x := p3 y hy x List.mem_cons_self
    dsimp only
    rw [if_neg fun c => Nat.lt_asymm c.1 hyx]
/-- what the loops have behind i first points -/
def lns (n : Nat) (s : List Nat) (i : Nat) : List Tri := (s.take i).flatMap fun x => s.filterMap fun y => let z := Kzt3.third n x y
  if x < y ∧ y < z ∧ s.contains z = true then some (x, y, z) else none
theorem lns_all (n : Nat) (s : List Nat) : lns n s s.length = Kzt3.threes n s := by
  unfold lns Kzt3.threes
  rw [List.take_length]
theorem lns_more {n : Nat} {s : List Nat} (hs : s.Pairwise (· < ·)) {i x : Nat} (hi : s[i]? = some x) : lns n s (i + 1) = lns n s i ++ (s.drop (i + 1)).filterMap (tri n s x) := by
  unfold lns
  rw [take_more hi, List.flatMap_append, List.flatMap_cons, List.flatMap_nil, List.append_nil, row_of hs hi]
/-- and behind j of the second ones -/
def lnsj (n : Nat) (s : List Nat) (i x j : Nat) : List Tri := lns n s i ++ ((s.drop (i + 1)).take j).filterMap (tri n s x)
theorem lnsj_more {n : Nat} {s : List Nat} {i x j y : Nat} (hj : (s.drop (i + 1))[j]? = some y) : lnsj n s i x (j + 1) = lnsj n s i x j ++ (tri n s x y).toList := by
  unfold lnsj
  rw [take_more hj, List.filterMap_append, List.append_assoc]
  congr 1
theorem lnsj_all {n : Nat} {s : List Nat} (hs : s.Pairwise (· < ·)) {i x : Nat} (hi : s[i]? = some x) : lnsj n s i x (s.drop (i + 1)).length = lns n s (i + 1) := by
  unfold lnsj
  rw [List.take_length, lns_more hs hi]
theorem lns_len {n : Nat} {s : List Nat} (i : Nat) : (lns n s i).length ≤ i * s.length := by
  unfold lns
  induction i with
  | zero => simp
  | succ i ih =>
    cases e : s[i]? with
    | none =>
      have z : s.take (i + 1) = s.take i := by
        rw [List.getElem?_eq_none_iff] at e
        rw [List.take_of_length_le (by omega), List.take_of_length_le e]
      rw [z]
      refine Nat.le_trans ih (Nat.mul_le_mul_right _ (Nat.le_succ i))
    | some x =>
      rw [take_more e, List.flatMap_append, List.length_append, List.flatMap_cons, List.flatMap_nil, List.append_nil, Nat.succ_mul]
      exact Nat.add_le_add ih (List.length_filterMap_le _ _)
theorem lnsj_len {n : Nat} {s : List Nat} {i x j : Nat} : (lnsj n s i x j).length ≤ i * s.length + s.length := by
  unfold lnsj
  rw [List.length_append]
  refine Nat.add_le_add (lns_len i) (Nat.le_trans (List.length_filterMap_le _ _) ?_)
  rw [List.length_take, List.length_drop]
  omega
/-! ### numbers handed in -/
def up (l : List Nat) : List Int := l.map fun (x : Nat) => (x : Int)
theorem up_down {l : List Int} (h : ∀ x ∈ l, 0 ≤ x) : up (l.map Int.toNat) = l := by
  induction l with
  | nil => rfl
  | cons a l ih =>
    show ((a.toNat : Nat) : Int) :: up (l.map Int.toNat) = a :: l
    rw [ih fun x hx => h x (List.mem_cons_of_mem _ hx), Int.toNat_of_nonneg (h a List.mem_cons_self)]
end Kz
namespace Kw
open PySem
def topS (i : Nat) : Stmt := PySem.Challenge.pw_nothreelines_s02_threes.main.body.getD i (.Pass ⟨0, 0, 0, 0⟩)
abbrev sHas : Stmt := topS 4
abbrev sCount : Stmt := topS 5
abbrev sSet : Stmt := topS 6
abbrev sThird : Stmt := topS 7
abbrev sLines : Stmt := topS 8
abbrev sMain : Stmt := topS 3
end Kw
namespace Kw
open PySem PySem.Spec PyProof.Rows L2
open PySem.W (Codec)
theorem same_upd {H : Hp} {p : Addr} {o : HO} (h : H p = none) : Same H (upd H p o) := fun b x e => by
  rw [upd_ne (ne_of_none e h)]
  exact e
theorem if_t {c : Bool} {A B : Prop} (hc : c = true) (h : A) : if c = true then A else B := by
  rw [if_pos hc]
  exact h
theorem if_f {c : Bool} {A B : Prop} (hc : c = false) (h : B) : if c = true then A else B := by
  rw [hc, if_neg Bool.false_ne_true]
  exact h
def nV (l : List Nat) : List V := l.map fun (x : Nat) => V.int (x : Int)
theorem nV_len (l : List Nat) : (nV l).length = l.length := List.length_map ..
theorem nV_get {l : List Nat} {i : Nat} {y : V} (h : (nV l)[i]? = some y) : ∃ z : Nat, l[i]? = some z ∧ y = V.int (z : Int) := by
  unfold nV at h
  rw [List.getElem?_map] at h
  cases e : l[i]? with
  | none =>
    rw [e] at h
    cases h
  | some z =>
    rw [e] at h
    exact ⟨z, rfl, (Option.some.inj h).symm⟩
theorem nV_ints (l : List Nat) : (Kz.up l).map V.int = nV l := by
  unfold Kz.up nV
  rw [List.map_map]
  rfl
theorem pow_mul {i : Nat} (h : i ≤ 4) : CMul ((3 ^ i : Nat) : Int) 3 := .inr ⟨by decide, by decide⟩
theorem pow_div {i : Nat} (h : i ≤ 4) (x : Int) : CDiv x ((3 ^ i : Nat) : Int) := by
  have h1 := Kz.pow_pos3 i
  have h2 := Kz.pow_le81 h
  exact ⟨by omega, by omega⟩
theorem pow_mulR {i : Nat} (h : i ≤ 4) (x : Int) : CMul x ((3 ^ i : Nat) : Int) := by
  have h1 := Kz.pow_pos3 i
  have h2 := Kz.pow_le81 h
  exact .inr ⟨by omega, by omega⟩
section
variable {P : Program} {w : World} {K : PySem.W.Frag} {mg : Str → Option Value} {base : Heap}
/-! ### has_points -/
def spHas : Sp := fun vs H Q _ => ∃ n : Nat, vs = [.int n] ∧ Q (.bl (Kzt3.okN n)) H
theorem scHas : FnScope ["n"] ["n"] (defScope sHas) := ⟨rfl, rfl, rfl, by decide +kernel, rfl, by decide +kernel, by decide +kernel⟩
theorem ok_has {f : Addr} {fd : FuncData} {k : Nat} {t : Tok} (F : Fun K "has_points" "has_points" sHas f fd) (mM : mg "MOST_NUMBERS" = some (.int 4 t)) : FnOk P w K mg base CX0 (k + 1) f fd ["n"] spHas := by
  refine F.ok scHas (fun vs H Q E h => ?_) (fun cdv A outer s H vs Q E hr h => ?_)
  · obtain ⟨n, rfl, _⟩ := h
    rfl
  · obtain ⟨n, rfl, q⟩ := h
    refine ⟨_, pss_one (ps_ret (pe_and (pe_cmp (pc_le pe_int (pv 0))) (pe_one (pe_cmp (pc_le (pv 0) (pe_glob (v := .int 4) (by rfl) mM ⟨_, rfl⟩)))))), ?_⟩
    refine ⟨.int n, rfl, 1, n, rfl, rfl, _, rfl, ite2 (fun c => ?_) (fun c => ?_)⟩
    · have c1 : (1 : Int) ≤ (n : Int) := of_decide_eq_true c
      have e : Kzt3.okN n = decide ((n : Int) ≤ 4) := by
        unfold Kzt3.okN
        rw [decide_eq_true (show 1 ≤ n by omega), Bool.true_and]
        exact decide_eq_decide.mpr (by omega)
      rw [e] at q
      exact ⟨.int n, rfl, n, 4, rfl, rfl, q⟩
    · have c1 : ¬ (1 : Int) ≤ (n : Int) := fun z => c (decide_eq_true z)
      have e : Kzt3.okN n = false := by
        unfold Kzt3.okN
        rw [decide_eq_false (show ¬ 1 ≤ n by omega), Bool.false_and]
      rw [e] at q
      exact q
theorem okN_le {n : Nat} (h : Kzt3.okN n = true) : n ≤ 4 := by
  unfold Kzt3.okN at h
  rw [Bool.and_eq_true] at h
  exact of_decide_eq_true h.2
/-! ### point_count -/
def spCount : Sp := fun vs H Q _ => ∃ n : Nat, vs = [.int n] ∧ n ≤ 4 ∧ Q (.int ((3 ^ n : Nat) : Int)) H
theorem scCount : FnScope ["n", "count", "i"] ["n"] (defScope sCount) := ⟨rfl, rfl, rfl, by decide +kernel, rfl, by decide +kernel, by decide +kernel⟩
theorem ok_count {f : Addr} {fd : FuncData} {k : Nat} (F : Fun K "point_count" "point_count" sCount f fd) (mr : mg "range" = none) : FnOk P w K mg base CX0 (k + 1) f fd ["n"] spCount := by
  refine F.ok scCount (fun vs H Q E h => ?_) (fun cdv A outer s H vs Q E hr h => ?_)
  · obtain ⟨n, rfl, _⟩ := h
    rfl
  · obtain ⟨n, rfl, hn, q⟩ := h
    refine ⟨_, pss_cons (ps_set (i := 1) scCount.nd rfl (.inl rfl) pe_int)
      (pss_cons (ps_for PassesOwn.never rfl (pi_range1 (by rfl) mr (pa_cons (pv 0) pa_nil)) (pg_name (i := 2) scCount.nd rfl (.inl rfl))
        (pss_one (ps_set (i := 1) scCount.nd rfl (.inl rfl) (pe_op op_mul (pv 1) pe_int))))
      (pss_one (ps_ret (pv 1)))), ?_⟩
    refine ⟨_, rfl, (n : Int), rfl, by omega, by omega, ?_⟩
    refine for_range (lo := 0) (n := n) (fun i σ H' => ∃ v : Option V, σ = [some (.int n), some (.int ((3 ^ i : Nat) : Int)), v] ∧ H' = H) ⟨none, rfl, rfl⟩ ?_ ?_
    · rintro i σ H' hi ⟨v, rfl, rfl⟩
      refine ⟨_, rfl, ((3 ^ i : Nat) : Int), 3, rfl, rfl, pow_mul (by omega), some (.int (0 + i)), ?_, rfl⟩
      rw [← Kz.turn_pow]
      rfl
    · rintro σ H' ⟨v, rfl, rfl⟩
      exact ⟨_, rfl, q⟩
/-! ### is_set -/
def spSet (K : PySem.W.Frag) : Sp := fun vs H Q _ => ∃ (n : Nat) (a : Addr) (l : List Nat), vs = [.int n, .ref a] ∧ n ≤ 4 ∧ SqL K H a (nV l) ∧ Q (.bl (Kzt3.okSet n l)) H
theorem scSet : FnScope ["n", "s", "count", "lowest", "point"] ["n", "s"] (defScope sSet) := ⟨rfl, rfl, rfl, by decide +kernel, rfl, by decide +kernel, by decide +kernel⟩
theorem ok_set {f fC : Addr} {fd fdC : FuncData} {k : Nat} (F : Fun K "is_set" "is_set" sSet f fd) (GC : FnOk P w K mg base CX0 (k + 1) fC fdC ["n"] spCount) (gC : mg "point_count" = some (.ref fC)) (kC : PySem.W.keepIn K (.ref fC) = true) (bC : Binds K fdC ["n"] []) :
    FnOk P w K mg base CX0 (k + 2) f fd ["n", "s"] (spSet K) := by
  refine F.ok scSet (fun vs H Q E h => ?_) (fun cdv A outer s H vs Q E hr h => ?_)
  · obtain ⟨n, a, l, rfl, _⟩ := h
    rfl
  · obtain ⟨n, a, l, rfl, hn, hS, q⟩ := h
    refine ⟨_, pss_cons (ps_set (i := 2) scSet.nd rfl (.inl rfl) (pe_call GC hr (by rfl) gC kC bC .nil pass0 (pa_cons (pv 0) pa_nil)))
      (pss_cons (ps_set (i := 3) scSet.nd rfl (.inl rfl) pe_int)
      (pss_cons (ps_for PassesOwn.never rfl (pi_list (pv 1)) (pg_name (i := 4) scSet.nd rfl (.inl rfl))
        (pss_cons (ps_if (PW.pt (pw_or (pt_cmp (pc_lt (pv 4) (pv 3))) (pw_or1 (pt_cmp (pc_ge (pv 4) (pv 2)))))) (pss_one (ps_ret pe_bl)) pss_nil)
        (pss_one (ps_set (i := 3) scSet.nd rfl (.inl rfl) (pe_op op_add (pv 4) pe_int)))))
      (pss_one (ps_ret pe_bl)))), ?_⟩
    rw [← Kz.chk_set] at q
    refine ⟨_, rfl, n, rfl, hn, ?_⟩
    refine ⟨_, rfl, a, rfl, ⟨_, hS⟩, for_list (K := K) (a := a) (xs := nV l) (fun i σ H' => ∃ (v : Option V) (lo : Nat), σ = [some (.int n), some (.ref a), some (.int ((3 ^ n : Nat) : Int)), some (.int (lo : Int)), v] ∧ H' = H ∧ Kz.chk (3 ^ n) 0 l = Kz.chk (3 ^ n) lo (l.drop i))
      ⟨none, 0, rfl, rfl, rfl⟩ (fun i σ H' _ ⟨_, _, _, e, _⟩ => e ▸ hS) ?_ ?_⟩
    · rintro i y σ H' hi ⟨v, lo, rfl, rfl, ec⟩
      obtain ⟨z, hz, rfl⟩ := nV_get hi
      rw [Kz.drop_more hz, Kz.chk_cons] at ec
      refine ⟨_, rfl, _, rfl, z, lo, rfl, rfl, _, rfl, ?_⟩
      by_cases c1 : z < lo
      · refine if_t (decide_eq_true (Int.ofNat_lt.mpr c1)) (if_t rfl ?_)
        rw [ec, if_pos (.inl c1)] at q
        exact q
      · refine if_f (decide_eq_false fun c => c1 (Int.ofNat_lt.mp c)) ?_
        refine ⟨_, rfl, _, rfl, z, ((3 ^ n : Nat) : Int), rfl, rfl, _, rfl, ?_⟩
        by_cases c2 : 3 ^ n ≤ z
        · refine if_t (decide_eq_true (Int.ofNat_le.mpr c2)) ?_
          rw [ec, if_pos (.inr c2)] at q
          exact q
        · refine if_f (decide_eq_false fun c => c2 (Int.ofNat_le.mp c)) ?_
          rw [if_neg (by omega)] at ec
          exact ⟨_, rfl, z, 1, rfl, rfl, _, z + 1, rfl, rfl, ec⟩
    · rintro σ H' ⟨v, lo, rfl, rfl, ec⟩
      rw [nV_len, List.drop_length, Kz.chk_nil] at ec
      rw [ec] at q
      exact q
/-! ### third_point -/
def spThird : Sp := fun vs H Q _ => ∃ n x y : Nat, vs = [.int n, .int x, .int y] ∧ n ≤ 4 ∧ Q (.int ((Kzt3.third n x y : Nat) : Int)) H
theorem scThird : FnScope ["n", "x", "y", "point", "weight", "i", "both"] ["n", "x", "y"] (defScope sThird) := ⟨rfl, rfl, rfl, by decide +kernel, rfl, by decide +kernel, by decide +kernel⟩
theorem ok_third {f : Addr} {fd : FuncData} {k : Nat} (F : Fun K "third_point" "third_point" sThird f fd) (mr : mg "range" = none) : FnOk P w K mg base CX0 (k + 1) f fd ["n", "x", "y"] spThird := by
  refine F.ok scThird (fun vs H Q E h => ?_) (fun cdv A outer s H vs Q E hr h => ?_)
  · obtain ⟨n, x, y, rfl, _⟩ := h
    rfl
  · obtain ⟨n, x, y, rfl, hn, q⟩ := h
    refine ⟨_, pss_cons (ps_set (i := 3) scThird.nd rfl (.inl rfl) pe_int) (pss_cons (ps_set (i := 4) scThird.nd rfl (.inl rfl) pe_int)
      (pss_cons (ps_for PassesOwn.never rfl (pi_range1 (by rfl) mr (pa_cons (pv 0) pa_nil)) (pg_name (i := 5) scThird.nd rfl (.inl rfl))
        (pss_cons (ps_set (i := 6) scThird.nd rfl (.inl rfl) (pe_op op_add (pe_op op_mod (pe_op op_fdiv (pv 1) (pv 4)) pe_int) (pe_op op_mod (pe_op op_fdiv (pv 2) (pv 4)) pe_int)))
        (pss_cons (ps_set (i := 3) scThird.nd rfl (.inl rfl) (pe_op op_add (pv 3) (pe_op op_mul (pe_op op_mod (pe_op op_sub pe_int (pv 6)) pe_int) (pv 4))))
        (pss_one (ps_set (i := 4) scThird.nd rfl (.inl rfl) (pe_op op_mul (pv 4) pe_int))))))
      (pss_one (ps_ret (pv 3))))), ?_⟩
    refine ⟨_, rfl, (n : Int), rfl, by omega, by omega, ?_⟩
    refine for_range (lo := 0) (n := n) (fun i σ H' => ∃ u v : Option V, σ = [some (.int n), some (.int x), some (.int y), some (.int ((Kzt3.third i x y : Nat) : Int)), some (.int ((3 ^ i : Nat) : Int)), u, v] ∧ H' = H) ⟨none, none, rfl, rfl⟩ ?_ ?_
    · rintro i σ H' hi ⟨u, v, rfl, rfl⟩
      have h3 : (0 : Int) < 3 := by decide
      have hd : ∀ z : Int, CDiv z ((3 ^ i : Nat) : Int) := pow_div (by omega)
      refine ⟨_, rfl, _, rfl, (x : Int), ((3 ^ i : Nat) : Int), rfl, rfl, hd _, _, 3, rfl, rfl, h3, _, rfl, _, rfl, (y : Int), ((3 ^ i : Nat) : Int), rfl, rfl, hd _, _, 3, rfl, rfl, h3, _, _, rfl, rfl, ?_⟩
      refine ⟨_, rfl, _, rfl, 6, _, rfl, rfl, _, 3, rfl, rfl, h3, _, rfl, _, ((3 ^ i : Nat) : Int), rfl, rfl, pow_mulR (by omega) _, ((Kzt3.third i x y : Nat) : Int), _, rfl, rfl, ?_⟩
      refine ⟨_, rfl, ((3 ^ i : Nat) : Int), 3, rfl, rfl, pow_mul (by omega), some (.int (0 + i)), some (.int ((x : Int) / ((3 ^ i : Nat) : Int) % 3 + (y : Int) / ((3 ^ i : Nat) : Int) % 3)), ?_, rfl⟩
      rw [← Kz.turn_pow, ← Kz.turn_third]
      rfl
    · rintro σ H' ⟨u, v, rfl, rfl⟩
      exact ⟨_, rfl, q⟩
/-! ### lines_of -/
def triV (t : Kz.Tri) : List V := [.int (t.1 : Int), .int (t.2.1 : Int), .int (t.2.2 : Int)]
/-- at ts the tuples of l -/
def TriAt (H : Hp) (ts : List Addr) (l : List Kz.Tri) : Prop := ts.map H = l.map fun t => some (HO.tup (triV t))
theorem TriAt.len {H : Hp} {ts : List Addr} {l : List Kz.Tri} (h : TriAt H ts l) : ts.length = l.length := by
  have e := congrArg List.length h
  rwa [List.length_map, List.length_map] at e
theorem TriAt.at {H : Hp} {ts : List Addr} {l : List Kz.Tri} (h : TriAt H ts l) {i : Nat} {t : Addr} (ht : ts[i]? = some t) : ∃ x, l[i]? = some x ∧ H t = some (.tup (triV x)) := by
  have e : (ts.map H)[i]? = (l.map fun t => some (HO.tup (triV t)))[i]? := congrArg (fun z => z[i]?) h
  rw [List.getElem?_map, List.getElem?_map, ht] at e
  cases q : l[i]? with
  | none =>
    rw [q] at e
    cases e
  | some x =>
    rw [q] at e
    exact ⟨x, rfl, Option.some.inj e⟩
theorem TriAt.more {H H' : Hp} {l : List Kz.Tri} : ∀ {ts : List Addr}, TriAt H ts l → (∀ t x, H t = some (.tup (triV x)) → H' t = H t) → TriAt H' ts l := by
  intro ts h k
  refine Eq.trans (List.map_congr_left fun t ht => ?_) h
  obtain ⟨i, hi⟩ := List.getElem?_of_mem ht
  obtain ⟨x, _, e⟩ := h.at hi
  exact k t x e
theorem TriAt.snoc {H : Hp} {ts : List Addr} {l : List Kz.Tri} {t : Addr} {x : Kz.Tri} (h : TriAt H ts l) (ht : H t = some (.tup (triV x))) : TriAt H (ts ++ [t]) (l ++ [x]) := by
  unfold TriAt at h ⊢
  rw [List.map_append, List.map_append, h, List.map_singleton, List.map_singleton, ht]
theorem TriAt.lay {H : Hp} {ts : List Addr} {l : List Kz.Tri} (h : TriAt H ts l) {p : Addr} {o : HO} (hp : H p = none) : TriAt (upd H p o) ts l := h.more fun _ _ e => upd_ne (ne_of_none e hp)
theorem TriAt.put {H : Hp} {ts : List Addr} {l : List Kz.Tri} (h : TriAt H ts l) {p : Addr} {xs ys : List V} (hp : H p = some (.lst xs)) : TriAt (upd H p (.lst ys)) ts l := h.more fun _ _ e => upd_ne (ne_of e hp (by intro z; cases z))
theorem drop_cut (xs : List V) (i : Nat) : cutV xs (some ((i : Int) + 1)) none = xs.drop (i + 1) := by
  unfold cutV
  rw [show HT.sIx xs.length 0 (some ((i : Int) + 1)) = min (i + 1) xs.length from HT.sIx_nat xs.length 0 (i + 1), HT.sIx_none]
  by_cases c : i + 1 ≤ xs.length
  · rw [Nat.min_eq_left c, List.take_of_length_le (by rw [List.length_drop]; omega)]
  · rw [Nat.min_eq_right (by omega), List.drop_length, List.drop_of_length_le (by omega), List.take_nil]
theorem nV_drop (l : List Nat) (i : Nat) : (nV l).drop i = nV (l.drop i) := (List.map_drop ..).symm
theorem big_line {n : Nat} (h : n ≤ 100000) : n < sizeLine := Nat.lt_of_le_of_lt h (by decide)
/-- the dict of the points -/
def Mem (kvs : List (Key × V)) (l : List Nat) : Prop := ∀ k : Nat, (valV kvs (Sum.inl (k : Int))).isSome = l.contains k
theorem Mem.put {kvs : List (Key × V)} {l : List Nat} (h : Mem kvs l) (z : Nat) (v : V) : Mem (putK kvs (Sum.inl (z : Int)) v) (l ++ [z]) := fun k => by
  rw [valV_put, List.contains_append]
  by_cases e : k = z
  · subst e
    rw [if_pos rfl]
    simp
  · have e2 : ¬ (Sum.inl (k : Int) : Key) = Sum.inl (z : Int) := fun q => e (Int.ofNat.inj (Sum.inl.inj q))
    rw [if_neg e2, h k]
    simp [e]
def spLines (K : PySem.W.Frag) : Sp := fun vs H Q _ => ∃ (n : Nat) (a : Addr) (l : List Nat), vs = [.int n, .ref a] ∧ n ≤ 4 ∧ SqL K H a (nV l) ∧ l.length ≤ 100 ∧ l.Pairwise (· < ·) ∧
  ∀ (H' : Hp) (p : Addr) (ts : List Addr), Same H H' → H' p = some (.lst (ts.map V.ref)) → TriAt H' ts (Kzt3.threes n l) → Q (.ref p) H'
theorem scLines : FnScope ["n", "s", "members", "point", "lines", "i", "first", "second", "last"] ["n", "s"] (defScope sLines) := ⟨rfl, rfl, rfl, by decide +kernel, rfl, by decide +kernel, by decide +kernel⟩
theorem ok_lines {f fT : Addr} {fd fdT : FuncData} {k : Nat} (F : Fun K "lines_of" "lines_of" sLines f fd) (GT : FnOk P w K mg base CX0 (k + 1) fT fdT ["n", "x", "y"] spThird) (gT : mg "third_point" = some (.ref fT)) (kT : PySem.W.keepIn K (.ref fT) = true) (bT : Binds K fdT ["n", "x", "y"] []) (me : mg "enumerate" = none) :
    FnOk P w K mg base CX0 (k + 2) f fd ["n", "s"] (spLines K) := by
  refine F.ok scLines (fun vs H Q E h => ?_) (fun cdv A outer s H vs Q E hr h => ?_)
  · obtain ⟨n, a, l, rfl, _⟩ := h
    rfl
  · obtain ⟨n, a, l, rfl, hn, hS, hl, hp, q⟩ := h
    have hu := hu_of hr
    refine ⟨_, pss_cons (ps_set (i := 2) scLines.nd rfl (.inl rfl) pe_dnewK)
      (pss_cons (ps_for PassesOwn.never rfl (pi_list (pv 1)) (pg_name (i := 3) scLines.nd rfl (.inl rfl)) (pss_one (ps_dput hu (pv 2) (pv 3) pe_bl rfl)))
      (pss_cons (ps_set (i := 4) scLines.nd rfl (.inl rfl) (pe_lst pa_nil))
      (pss_cons (ps_for PassesOwn.never rfl (pi_enum (by rfl) me (pa_cons (pv 1) pa_nil)) (pg_tup rfl (pgs_cons (pg_name (i := 5) scLines.nd rfl (.inl rfl)) (pgs_cons (pg_name (i := 6) scLines.nd rfl (.inl rfl)) pgs_nil)))
        (pss_one (ps_for PassesOwn.never rfl (pi_list (pe_slice sl_list (pv 1) (po_some (pe_op op_add (pv 5) pe_int)) po_none)) (pg_name (i := 7) scLines.nd rfl (.inl rfl))
          (pss_cons (ps_set (i := 8) scLines.nd rfl (.inl rfl) (pe_call GT hr (by rfl) gT kT bT .nil pass0 (pa_cons (pv 0) (pa_cons (pv 6) (pa_cons (pv 7) pa_nil)))))
          (pss_one (ps_if (PW.pt (pw_and (pt_cmp (pc_gt (pv 8) (pv 7))) (pw_and1 (pt_cmp (pc_din hu (pv 8) (pv 2))))))
            (pss_one (ps_expr (pe_bm PySem.F.plainAttrs_list PySem.F.slot_list_append PySem.F.type_list_append mt_append (pv 4) (pa_cons (pe_tup (pa_cons (pv 6) (pa_cons (pv 7) (pa_cons (pv 8) pa_nil)))) pa_nil)))) pss_nil))))))
      (pss_one (ps_ret (pv 4)))))), ?_⟩
    -- members = {}
    intro m hm
    have s1 : Same H (upd H m (.dK [])) := same_upd hm
    refine ⟨_, rfl, a, rfl, ⟨_, s1.seq hS⟩, for_list (K := K) (a := a) (xs := nV l) (fun i σ H' => ∃ (v : Option V) (kvs : List (Key × V)), σ = [some (.int n), some (.ref a), some (.ref m), v, none, none, none, none, none] ∧ Same H H' ∧ H' m = some (.dK kvs) ∧ kvs.length ≤ i ∧ Mem kvs (l.take i))
      ⟨none, [], rfl, s1, upd_same, Nat.le_refl _, fun k => rfl⟩ (fun i σ H' _ ⟨_, _, _, s5, _⟩ => s5.seq hS) ?_ ?_⟩
    · rintro i y σ H' hi ⟨v, kvs, rfl, s5, em, el, hM⟩
      have hil : i < l.length := by
        have := (List.getElem?_eq_some_iff.mp hi).1
        rwa [nV_len] at this
      obtain ⟨z, hz, rfl⟩ := nV_get hi
      refine ⟨_, rfl, _, rfl, m, _, rfl, DPut.k (k := Sum.inl (z : Int)) em (big_line (by omega)), some (.int z), _, rfl, fun b o e => ?_, upd_same, Nat.le_trans (length_putK _ _ _) (Nat.succ_le_succ el), ?_⟩
      · rw [upd_ne (ne_of_none e hm)]
        exact s5 b o e
      · rw [Kz.take_more hz]
        exact hM.put z _
    rintro σ H1 ⟨v3, kvs, rfl, s5, em, el, hM⟩
    rw [nV_len, List.take_length] at hM
    -- lines = []
    refine ⟨Nat.zero_le _, fun o ho => ?_⟩
    have s6 : Same H1 (upd H1 o (.lst [])) := same_upd ho
    have hHo : H o = none := s5.free ho
    refine ⟨_, rfl, a, nV l, rfl, s6.seq (s5.seq hS), ?_⟩
    refine for_it (walk_enum (K := K) (a := a) (xs := nV l)) (fun i σ H' => ∃ (v5 v6 v7 v8 : Option V) (ts : List Addr), σ = [some (.int n), some (.ref a), some (.ref m), v3, some (.ref o), v5, v6, v7, v8] ∧ Same H H' ∧ H' m = some (.dK kvs) ∧ H' o = some (.lst (ts.map V.ref)) ∧ TriAt H' ts (Kz.lns n l i))
      ⟨none, none, none, none, [], rfl, s5.trans s6, s6 _ _ em, upd_same, rfl⟩ (fun i σ H' _ ⟨_, _, _, _, _, _, s7, _⟩ => s7.seq hS) ?_ ?_
    · rintro i x σ H2 H3 hi ⟨v5, v6, v7, v8, ts, rfl, s7, em2, eo2, hT2⟩ ⟨T, x1, x2, rfl, nT, rfl, f1, f2⟩
      rw [nV_len] at hi
      obtain ⟨z, hz, rfl⟩ := nV_get f2
      cases Option.some.inj f1
      have s8 : Same H2 (upd H2 T (.tup [.int (i : Nat), .int (z : Int)])) := same_upd nT
      have eo3 := s8 _ _ eo2
      have em3 := s8 _ _ em2
      refine ⟨T, _, rfl, .inl (.inl upd_same), rfl, _, _, rfl, _, [], rfl, rfl, ?_⟩
      -- s[i + 1:]
      refine ⟨_, rfl, _, rfl, (i : Int), 1, rfl, rfl, (i : Int) + 1, rfl, a, nV l, rfl, s8.seq (s7.seq hS), fun c nc => ?_⟩
      rw [drop_cut, nV_drop]
      have s9 := same_upd (o := .lst (nV (l.drop (i + 1)))) nc
      have nco : o ≠ c := ne_of_none eo3 nc
      have hT3 : TriAt (upd (upd H2 T (.tup [.int (i : Nat), .int (z : Int)])) c (.lst (nV (l.drop (i + 1))))) ts (Kz.lns n l i) := (hT2.lay nT).lay nc
      refine ⟨c, rfl, ⟨_, .of upd_same⟩, for_list (K := K) (a := c) (xs := nV (l.drop (i + 1))) (fun j σ H' => ∃ (v7 v8 : Option V) (ts : List Addr), σ = [some (.int n), some (.ref a), some (.ref m), v3, some (.ref o), some (.int (i : Nat)), some (.int (z : Int)), v7, v8] ∧ Same H H' ∧ H' m = some (.dK kvs) ∧ H' c = some (.lst (nV (l.drop (i + 1)))) ∧ H' o = some (.lst (ts.map V.ref)) ∧ TriAt H' ts (Kz.lnsj n l i z j))
        ⟨v7, v8, ts, rfl, (s7.trans s8).trans s9, s9 _ _ em3, upd_same, s9 _ _ eo3, ?_⟩ (fun j σ H' _ ⟨_, _, _, _, _, _, ec, _⟩ => .of ec) ?_ ?_⟩
      · unfold Kz.lnsj
        rw [List.take_zero, List.filterMap_nil, List.append_nil]
        exact hT3
      · rintro j y σ H4 hj ⟨v7, v8, ts, rfl, s10, em4, ec4, eo4, hT4⟩
        obtain ⟨y, hy, rfl⟩ := nV_get hj
        have more := Kz.lnsj_more (n := n) (x := z) hy
        refine ⟨_, rfl, _, rfl, _, rfl, n, z, y, rfl, hn, ?_⟩
        refine ⟨_, rfl, _, rfl, ((Kzt3.third n z y : Nat) : Int), (y : Int), rfl, rfl, _, rfl, ?_⟩
        by_cases c1 : y < Kzt3.third n z y
        · refine if_t (decide_eq_true (Int.ofNat_lt.mpr c1)) ?_
          refine ⟨_, rfl, _, rfl, m, _, rfl, DGet.k (k := Sum.inl ((Kzt3.third n z y : Nat) : Int)) em4, _, rfl, ?_⟩
          rw [hM (Kzt3.third n z y)]
          by_cases c2 : l.contains (Kzt3.third n z y) = true
          · refine if_t c2 ?_
            rw [show Kz.tri n l z y = some (z, y, Kzt3.third n z y) from if_pos ⟨c1, c2⟩] at more
            refine ⟨_, rfl, .inl ⟨rfl, _, SqL.of eo4⟩, _, rfl, _, rfl, _, rfl, (by show 3 ≤ sizeLine; decide), fun t nt => ?_⟩
            have s11 := same_upd (o := .tup [.int (z : Int), .int (y : Int), .int ((Kzt3.third n z y : Nat) : Int)]) nt
            refine ⟨o, _, _, rfl, rfl, s11 _ _ eo4, ?_, ?_⟩
            · rw [List.length_map, hT4.len]
              have b1 := Kz.lnsj_len (n := n) (s := l) (i := i) (x := z) (j := j)
              have b2 : i * l.length ≤ 100 * 100 := Nat.mul_le_mul (by omega) hl
              exact big_line (by omega)
            · refine ⟨some (.int y), _, ts ++ [t], rfl, fun b u e => ?_, ?_, ?_, ?_, ?_⟩
              · rw [upd_ne (ne_of_none e hHo)]
                exact s11 _ _ (s10 b u e)
              · rw [upd_ne (ne_of (s11 _ _ em4) (s11 _ _ eo4) (by intro z; cases z))]
                exact s11 _ _ em4
              · rw [upd_ne nco.symm]
                exact s11 _ _ ec4
              · rw [upd_same, List.map_append]
                rfl
              · rw [more]
                exact ((hT4.lay nt).snoc (x := (z, y, Kzt3.third n z y)) upd_same).put (s11 _ _ eo4)
          · refine if_f (by simpa using c2) ?_
            rw [show Kz.tri n l z y = none from if_neg fun c => c2 c.2] at more
            refine ⟨some (.int y), _, ts, rfl, s10, em4, ec4, eo4, ?_⟩
            rw [more]
            exact (List.append_nil _).symm ▸ hT4
        · refine if_f (decide_eq_false fun c => c1 (Int.ofNat_lt.mp c)) ?_
          rw [show Kz.tri n l z y = none from if_neg fun c => c1 c.1] at more
          refine if_f rfl ?_
          refine ⟨some (.int y), _, ts, rfl, s10, em4, ec4, eo4, ?_⟩
          rw [more]
          exact (List.append_nil _).symm ▸ hT4
      · rintro σ H4 ⟨v7, v8, ts, rfl, s10, em4, ec4, eo4, hT4⟩
        rw [nV_len, Kz.lnsj_all hp hz] at hT4
        exact ⟨_, _, v7, v8, ts, rfl, s10, em4, eo4, hT4⟩
    · rintro σ H2 ⟨v5, v6, v7, v8, ts, rfl, s7, em2, eo2, hT2⟩
      rw [nV_len, Kz.lns_all] at hT2
      exact ⟨_, rfl, q H2 o ts s7 eo2 hT2⟩
/-! ### xs.extend(t), t a tuple -/
theorem meets_extendT (l b : Addr) (xs ys : Array Value) (n n2 : Nat) (od : Option Addr) (sl : Array (Option Value)) (long : ¬(!xs.isEmpty && Builtin.List.listTooLong (xs.size + ys.size)) = true) (hx : xs.size ≤ sizeLine) (hxy : xs.size + ys.size ≤ sizeLine + 1) :
    Meets (Builtin.«list.extend» ⟨[.ref l, .ref b], []⟩) (fun _ R s => s.heap.get? l = some { cls := .type "list", dict := none, data := .seq xs n, slots := #[] } ∧ s.heap.get? b = some { cls := .type "tuple", dict := od, data := .seq ys n2, slots := sl } ∧
      R (.ok (.ret Value.none)) { s with heap := s.heap.update l (Obj.mapSeq fun x => x ++ ys), toks := s.toks }) :=
  .of_wp fun prog w A R s h => by
    obtain ⟨hp, g, dr, tk, os⟩ := s
    obtain ⟨eL, eB, h⟩ := h
    have k1 := PySem.AutoSeq1.idx_int
    have k2 := PySem.AutoSeq1.sub_tuple_tuple
    have k3 := PySem.AutoSeq1.sub_list_list
    have k4 := PySem.AutoSeq1.sub_tuple_list
    have k5 := PySem.AutoSeq1.sub_list_tuple
    have hz : (xs ++ ys).size ≤ sizeLine + 1 := by
      rw [Array.size_append]
      exact hxy
    wp_walk using (wpAny_updateSeq eL rfl (hz := hx) (_hz' := hz)), PySem.AutoSeq1.wpAny_loadPart' eL, PySem.AutoSeq1.wpAny_loadPart' eB
    exact ⟨_, rfl, h⟩
def rExtT : V → List V → Hp → VK → Prop := fun x vs H Q => ∃ l b xs zs, x = .ref l ∧ vs = [.ref b] ∧ H l = some (.lst xs) ∧ H b = some (.tup zs) ∧ xs.length + zs.length ≤ sizeLine ∧ Q .non (upd H l (.lst (xs ++ zs)))
theorem mt_extT {X : Cx} : MtM X "list.extend" rExtT := by
  intro pins s σ H x vs v us Q I rx rv h
  obtain ⟨l, b, xs, zs, rfl, rfl, hH, hB, hz, q⟩ := h
  cases rx
  obtain ⟨u, rfl, ru⟩ := rv.one
  cases ru
  obtain ⟨z, its, n, r, hl, e⟩ := I.lstM hH
  obtain ⟨its2, r2, ⟨ob, e2, hc, n2, hd⟩, z2⟩ := I.tuple (SqT.of hB)
  obtain ⟨oc, od, odat, osl⟩ := ob
  dsimp only at hc hd
  subst hc hd
  have hl2 := r2.length
  have hsz : its.toArray.size + its2.toArray.size ≤ sizeLine := by
    rw [List.size_toArray, List.size_toArray]
    omega
  have hlong : ¬ (!its.toArray.isEmpty && Builtin.List.listTooLong (its.toArray.size + its2.toArray.size)) = true := by
    rw [notLongL hsz, Bool.and_false]
    exact Bool.false_ne_true
  refine call_meets F.slot_list_extend ⟨_, e, rfl⟩ F.entry_list_extend (F.args_list_extend_2 _ _) (meets_extendT l b its.toArray its2.toArray n n2 od osl hlong (by rw [List.size_toArray]; omega) (by omega)) ⟨e, e2, ?_⟩
  refine ⟨.non, _, I.lset (its' := its ++ its2) hH e (by simp) (r.append r2) ?_, rfl, q⟩
  rw [List.length_append]
  omega
/-! ### threes -/
theorem nats_up (l : List Nat) : Kzt3Neutral.natsOf (Kz.up l) = l := by
  unfold Kzt3Neutral.natsOf Kz.up
  rw [List.map_map]
  exact Eq.trans (List.map_congr_left fun _ _ => rfl) (List.map_id l)
def triI (l : List Kz.Tri) : List Int := l.flatMap fun y => [(y.1 : Int), (y.2.1 : Int), (y.2.2 : Int)]
theorem triI_V (l : List Kz.Tri) : (triI l).map V.int = l.flatMap triV := by
  unfold triI
  rw [List.map_flatMap]
  rfl
theorem triV_len : ∀ l : List Kz.Tri, (l.flatMap triV).length = 3 * l.length
  | [] => rfl
  | x :: r => by
    rw [List.flatMap_cons, List.length_append, triV_len r, List.length_cons]
    show 3 + 3 * r.length = _
    omega
theorem ans_threes (n : Nat) (l : List Nat) : PyKzt3.threes n (Kz.up l) = (Kzt3.answer (.threes n l)).value :: (Kzt3.answer (.threes n l)).nums := by
  show (Kzt3.answer (.threes n (Kzt3Neutral.natsOf (Kz.up l)))).value :: _ = _
  rw [nats_up]
  rfl
theorem threes_22 {n : Nat} {l : List Nat} (h : Kzt3.okN n = false ∨ Kzt3.okSet n l = false) : PyKzt3.threes n (Kz.up l) = [-22] := by
  rw [ans_threes]
  unfold Kzt3.answer Kzt3.withSet
  dsimp only
  rw [if_pos h]
  rfl
theorem threes_ok {n : Nat} {l : List Nat} (h1 : Kzt3.okN n = true) (h2 : Kzt3.okSet n l = true) : PyKzt3.threes n (Kz.up l) = ((Kzt3.threes n l).length : Int) :: triI (Kzt3.threes n l) := by
  rw [ans_threes]
  unfold Kzt3.answer Kzt3.withSet
  dsimp only
  rw [if_neg (by rw [h1, h2]; decide)]
  rfl
theorem threes_len (n : Nat) (l : List Nat) : (Kzt3.threes n l).length ≤ l.length * l.length := by
  rw [← Kz.lns_all]
  exact Kz.lns_len _
def spMain (K : PySem.W.Frag) : Sp := fun vs H Q _ => ∃ (n : Nat) (a : Addr) (l : List Nat), vs = [.int n, .ref a] ∧ SqL K H a (nV l) ∧ l.length ≤ 100 ∧ ∀ (H' : Hp) (p : Addr), H' p = some (.lst ((PyKzt3.threes n (Kz.up l)).map V.int)) → Q (.ref p) H'
theorem scMain : FnScope ["n", "s", "lines", "answer", "line"] ["n", "s"] (defScope sMain) := ⟨rfl, rfl, rfl, by decide +kernel, rfl, by decide +kernel, by decide +kernel⟩
theorem ok_main {f fH fS fL : Addr} {fd fdH fdS fdL : FuncData} {tU : Tok} (F : Fun K "threes" "threes" sMain f fd)
    (GH : FnOk P w K mg base CX0 2 fH fdH ["n"] spHas) (gH : mg "has_points" = some (.ref fH)) (kH : PySem.W.keepIn K (.ref fH) = true) (bH : Binds K fdH ["n"] [])
    (GS : FnOk P w K mg base CX0 2 fS fdS ["n", "s"] (spSet K)) (gS : mg "is_set" = some (.ref fS)) (kS : PySem.W.keepIn K (.ref fS) = true) (bS : Binds K fdS ["n", "s"] [])
    (GL : FnOk P w K mg base CX0 2 fL fdL ["n", "s"] (spLines K)) (gL : mg "lines_of" = some (.ref fL)) (kL : PySem.W.keepIn K (.ref fL) = true) (bL : Binds K fdL ["n", "s"] [])
    (mU : mg "UNFIT" = some (.int (-22) tU)) (ml : mg "len" = none) :
    FnOk P w K mg base CX0 3 f fd ["n", "s"] (spMain K) := by
  refine F.ok scMain (fun vs H Q E h => ?_) (fun cdv A outer s H vs Q E hr h => ?_)
  · obtain ⟨n, a, l, rfl, _⟩ := h
    rfl
  · obtain ⟨n, a, l, rfl, hS, hl, q⟩ := h
    refine ⟨_, pss_cons (ps_if (PW.pt (pw_or (pt_not (pt_val (pe_call GH hr (by rfl) gH kH bH .nil pass0 (pa_cons (pv 0) pa_nil)))) (pw_or1 (pt_not (pt_val (pe_call GS hr (by rfl) gS kS bS .nil pass0 (pa_cons (pv 0) (pa_cons (pv 1) pa_nil))))))))
        (pss_one (ps_ret (pe_lst (pa_cons (pe_glob (v := .int (-22)) (by rfl) mU ⟨_, rfl⟩) pa_nil)))) pss_nil)
      (pss_cons (ps_set (i := 2) scMain.nd rfl (.inl rfl) (pe_call GL hr (by rfl) gL kL bL .nil pass0 (pa_cons (pv 0) (pa_cons (pv 1) pa_nil))))
      (pss_cons (ps_set (i := 3) scMain.nd rfl (.inl rfl) (pe_lst (pa_cons (pe_callB call_len_seq (by rfl) ml PySem.boot_len (pa_cons (pv 2) pa_nil)) pa_nil)))
      (pss_cons (ps_for PassesOwn.never rfl (pi_list (pv 2)) (pg_name (i := 4) scMain.nd rfl (.inl rfl))
        (pss_one (ps_expr (pe_bm PySem.F.plainAttrs_list PySem.F.slot_list_extend PySem.F.type_list_extend mt_extT (pv 3) (pa_cons (pv 4) pa_nil)))))
      (pss_one (ps_ret (pv 3)))))), ?_⟩
    have one : 1 ≤ sizeLine := by decide
    refine ⟨_, rfl, n, rfl, _, rfl, ?_⟩
    cases hN : Kzt3.okN n with
    | false =>
      refine iteT (iteT ⟨one, fun p hp => q _ p ?_⟩)
      rw [threes_22 (.inl hN)]
      exact upd_same
    | true =>
      refine iteF ?_
      have hn := okN_le hN
      refine ⟨_, rfl, _, rfl, n, a, l, rfl, hn, hS, _, rfl, ?_⟩
      cases hK : Kzt3.okSet n l with
      | false =>
        refine iteT ⟨one, fun p hp => q _ p ?_⟩
        rw [threes_22 (.inr hK)]
        exact upd_same
      | true =>
        refine iteF ?_
        refine ⟨_, rfl, _, rfl, n, a, l, rfl, hn, hS, hl, Kz.ok_pair hK, fun H1 o ts s1 eo hT => ?_⟩
        refine ⟨_, rfl, o, _, rfl, .inl (SqL.of eo), one, fun r nr => ?_⟩
        have s2 := same_upd (o := .lst [.int ((ts.map V.ref).length : Nat)]) nr
        have hlen : (Kzt3.threes n l).length ≤ 10000 := Nat.le_trans (threes_len n l) (Nat.mul_le_mul hl hl)
        have nor : o ≠ r := ne_of_none eo nr
        refine ⟨_, rfl, o, rfl, ⟨_, SqL.of (s2 _ _ eo)⟩, for_list (K := K) (a := o) (xs := ts.map V.ref) (fun i σ H' => ∃ v : Option V, σ = [some (.int n), some (.ref a), some (.ref o), some (.ref r), v] ∧ H' o = some (.lst (ts.map V.ref)) ∧ TriAt H' ts (Kzt3.threes n l) ∧ H' r = some (.lst (.int ((Kzt3.threes n l).length : Nat) :: ((Kzt3.threes n l).take i).flatMap triV)))
          ⟨none, rfl, s2 _ _ eo, hT.lay nr, ?_⟩ (fun i σ H' _ ⟨_, _, e, _⟩ => SqL.of e) ?_ ?_⟩
        · rw [upd_same, List.length_map, hT.len]
          rfl
        · rintro i y σ H' hi ⟨v, rfl, eo', hT', er'⟩
          rw [List.getElem?_map] at hi
          obtain ⟨t, ht, rfl⟩ : ∃ t, ts[i]? = some t ∧ y = V.ref t := by
            cases e : ts[i]? with
            | none =>
              rw [e] at hi
              cases hi
            | some t =>
              rw [e] at hi
              exact ⟨t, rfl, (Option.some.inj hi).symm⟩
          obtain ⟨x, hx, et⟩ := hT'.at ht
          refine ⟨_, rfl, .inl ⟨rfl, _, SqL.of er'⟩, _, rfl, r, t, _, _, rfl, rfl, er', et, ?_, ?_⟩
          · rw [List.length_cons, triV_len, List.length_take]
            show _ + 3 ≤ sizeLine
            exact Nat.le_of_lt (big_line (by omega))
          · refine ⟨some (.ref t), rfl, ?_, hT'.put er', ?_⟩
            · rw [upd_ne nor]
              exact eo'
            · rw [upd_same, Kz.take_more hx, List.flatMap_append, List.flatMap_cons, List.flatMap_nil, List.append_nil]
              rfl
        · rintro σ H' ⟨v, rfl, eo', hT', er'⟩
          rw [List.length_map, hT.len, List.take_length] at er'
          refine ⟨_, rfl, q H' r ?_⟩
          rw [threes_ok hN hK, List.map_cons, triI_V]
          exact er'
end
/-! ### what the top has written -/
theorem all_mk {P : Program} {w : World} {K : PySem.W.Frag} {h : Heap} {mg : Str → Option Value} {fa f0 f1 f2 f3 f4 f5 : Addr} (X : K.In h) (G : h.Ns mainGlobals mg) (hfa : mg "threes" = some (.ref fa))
    {od0 an0 od1 an1 od2 an2 od3 an3 od4 an4 od5 an5 : Option Addr} {sl0 sl1 sl2 sl3 sl4 sl5 : Array (Option Value)} {oc0 kV0 dc0 pm0 cd0 ct0 oc1 kV1 dc1 pm1 cd1 ct1 oc2 kV2 dc2 pm2 cd2 ct2 oc3 kV3 dc3 pm3 cd3 ct3 oc4 kV4 dc4 pm4 cd4 ct4 oc5 kV5 dc5 pm5 cd5 ct5 : Value}
    {t0 t1 : Tok}
    (a0 : PySem.W.nsIn K mainGlobals "has_points" = some (some (.ref f0))) (l0 : K.lookup f0 = some ⟨oc0, od0, .func (PySem.W.fnOf "has_points" "has_points" (defArgs sHas) (defBody sHas) (defScope sHas) .none kV0 dc0 pm0 an0 cd0 ct0), sl0⟩) (c0 : PySem.W.codeIn K cd0 "has_points" = true) (k0 : PySem.W.keepIn K (.ref f0) = true)
    (a1 : PySem.W.nsIn K mainGlobals "point_count" = some (some (.ref f1))) (l1 : K.lookup f1 = some ⟨oc1, od1, .func (PySem.W.fnOf "point_count" "point_count" (defArgs sCount) (defBody sCount) (defScope sCount) .none kV1 dc1 pm1 an1 cd1 ct1), sl1⟩) (c1 : PySem.W.codeIn K cd1 "point_count" = true) (k1 : PySem.W.keepIn K (.ref f1) = true)
    (a2 : PySem.W.nsIn K mainGlobals "is_set" = some (some (.ref f2))) (l2 : K.lookup f2 = some ⟨oc2, od2, .func (PySem.W.fnOf "is_set" "is_set" (defArgs sSet) (defBody sSet) (defScope sSet) .none kV2 dc2 pm2 an2 cd2 ct2), sl2⟩) (c2 : PySem.W.codeIn K cd2 "is_set" = true) (k2 : PySem.W.keepIn K (.ref f2) = true)
    (a3 : PySem.W.nsIn K mainGlobals "third_point" = some (some (.ref f3))) (l3 : K.lookup f3 = some ⟨oc3, od3, .func (PySem.W.fnOf "third_point" "third_point" (defArgs sThird) (defBody sThird) (defScope sThird) .none kV3 dc3 pm3 an3 cd3 ct3), sl3⟩) (c3 : PySem.W.codeIn K cd3 "third_point" = true) (k3 : PySem.W.keepIn K (.ref f3) = true)
    (a4 : PySem.W.nsIn K mainGlobals "lines_of" = some (some (.ref f4))) (l4 : K.lookup f4 = some ⟨oc4, od4, .func (PySem.W.fnOf "lines_of" "lines_of" (defArgs sLines) (defBody sLines) (defScope sLines) .none kV4 dc4 pm4 an4 cd4 ct4), sl4⟩) (c4 : PySem.W.codeIn K cd4 "lines_of" = true) (k4 : PySem.W.keepIn K (.ref f4) = true)
    (a5 : PySem.W.nsIn K mainGlobals "threes" = some (some (.ref f5))) (l5 : K.lookup f5 = some ⟨oc5, od5, .func (PySem.W.fnOf "threes" "threes" (defArgs sMain) (defBody sMain) (defScope sMain) .none kV5 dc5 pm5 an5 cd5 ct5), sl5⟩) (c5 : PySem.W.codeIn K cd5 "threes" = true) (k5 : PySem.W.keepIn K (.ref f5) = true)
    (u0 : PySem.W.nsIn K mainGlobals "UNFIT" = some (some (.int (-22) t0)))
    (u1 : PySem.W.nsIn K mainGlobals "MOST_NUMBERS" = some (some (.int (4) t1)))
    (z0 : PySem.W.nsIn K mainGlobals "range" = some none)
    (z1 : PySem.W.nsIn K mainGlobals "len" = some none)
    (z2 : PySem.W.nsIn K mainGlobals "enumerate" = some none) :
    ∃ fd : FuncData, (∀ (s : Shared) (us : List Value), us.length = (["n", "s"] : List Str).length → BindsTo s fd ⟨us, []⟩ ((["n", "s"] : List Str).zip us)) ∧ ∀ base : Heap, K.In base → base.Ns mainGlobals mg → FnOk P w K mg base CX0 3 fa fd ["n", "s"] (spMain K) := by
  have e := hfa.symm.trans (PySem.W.mg_of X G a5)
  cases e
  have FHas := fun_mk (st := sHas) l0 c0 k0
  have bHas := FHas.binds (ps := ["n"]) fun _ _ _ _ _ _ us hl => match us, hl with | [_], _ => rfl
  have gHas := PySem.W.mg_of X G a0
  have kHas := k0
  have FCount := fun_mk (st := sCount) l1 c1 k1
  have bCount := FCount.binds (ps := ["n"]) fun _ _ _ _ _ _ us hl => match us, hl with | [_], _ => rfl
  have gCount := PySem.W.mg_of X G a1
  have kCount := k1
  have FSet := fun_mk (st := sSet) l2 c2 k2
  have bSet := FSet.binds (ps := ["n", "s"]) fun _ _ _ _ _ _ us hl => match us, hl with | [_, _], _ => rfl
  have gSet := PySem.W.mg_of X G a2
  have kSet := k2
  have FThird := fun_mk (st := sThird) l3 c3 k3
  have bThird := FThird.binds (ps := ["n", "x", "y"]) fun _ _ _ _ _ _ us hl => match us, hl with | [_, _, _], _ => rfl
  have gThird := PySem.W.mg_of X G a3
  have kThird := k3
  have FLines := fun_mk (st := sLines) l4 c4 k4
  have bLines := FLines.binds (ps := ["n", "s"]) fun _ _ _ _ _ _ us hl => match us, hl with | [_, _], _ => rfl
  have gLines := PySem.W.mg_of X G a4
  have kLines := k4
  have FMain := fun_mk (st := sMain) l5 c5 k5
  have m_UNFIT := PySem.W.mg_of X G u0
  have m_MOST_NUMBERS := PySem.W.mg_of X G u1
  have m_range := PySem.W.mg_none_of X G z0
  have m_len := PySem.W.mg_none_of X G z1
  have m_enumerate := PySem.W.mg_none_of X G z2
  refine ⟨PySem.W.fnOf "threes" "threes" (defArgs sMain) (defBody sMain) (defScope sMain) .none kV5 dc5 pm5 an5 cd5 ct5, fun s us hu => match us, hu with | [_, _], _ => .of_eq rfl, fun base _ _ => ?_⟩
  exact ok_main FMain (ok_has FHas m_MOST_NUMBERS) gHas kHas bHas (ok_set FSet (ok_count FCount m_range) gCount kCount bCount) gSet kSet bSet (ok_lines FLines (ok_third FThird m_range) gThird kThird bThird m_enumerate) gLines kLines bLines m_UNFIT m_len
end Kw
open PySem PySem.W PyProof.Rows
set_option maxRecDepth 100000 in
set_option maxHeartbeats 8000000 in
theorem PySem.Challenge.cw_nothreelines_s02_threes_holds : PySem.Challenge.rw_nothreelines_s02_threes.Holds := by
  w_on; k_headS; (case hw => exact ⟨[.int 0, .list []], by decide +kernel, by decide +kernel⟩)
  k_fillS
  refine L2.walk_specK (r := PySem.Challenge.rw_nothreelines_s02_threes) (k := 3) (CX := L2.CX0) (ps := ["n", "s"]) (sp := Kw.spMain) (by decide +kernel) rfl rfl ⟨rfl, by decide, by decide⟩ (fun w h Y => PySem.W.kIn_of Y) ?F ?S (fun _ _ _ _ z => z)
  case F =>
    intro w mg fa h Y KX G hmg
    refine' Kw.all_mk KX G hmg ?a0 ?l0 ?c0 ?k0 ?a1 ?l1 ?c1 ?k1 ?a2 ?l2 ?c2 ?k2 ?a3 ?l3 ?c3 ?k3 ?a4 ?l4 ?c4 ?k4 ?a5 ?l5 ?c5 ?k5 ?u0 ?u1 ?z0 ?z1 ?z2
    (case a0 => k_is)
    (case l0 => k_is)
    (case c0 => k_is)
    (case k0 => k_is)
    (case a1 => k_is)
    (case l1 => k_is)
    (case c1 => k_is)
    (case k1 => k_is)
    (case a2 => k_is)
    (case l2 => k_is)
    (case c2 => k_is)
    (case k2 => k_is)
    (case a3 => k_is)
    (case l3 => k_is)
    (case c3 => k_is)
    (case k3 => k_is)
    (case a4 => k_is)
    (case l4 => k_is)
    (case c4 => k_is)
    (case k4 => k_is)
    (case a5 => k_is)
    (case l5 => k_is)
    (case c5 => k_is)
    (case k5 => k_is)
    (case u0 => k_is)
    (case u1 => k_is)
    (case z0 => k_is)
    (case z1 => k_is)
    (case z2 => k_is)
  case S =>
    intro K H xs a hO hwi hask hx
    have q : (Codec.inInt 0 4294967295 a.1 && ((Codec.inLen 0 100 a.2.1 && a.2.1.all (Codec.inInt 0 4294967295)) && true)) = true := hwi
    rw [Bool.and_eq_true, Bool.and_eq_true, Bool.and_eq_true] at q
    have q1 := (Codec.inInt_iff.mp q.1).1
    have q2 := (Codec.inNat_iff.mp q.2.1.1).2
    have q3 : ∀ x ∈ a.2.1, 0 ≤ x := fun x hx => (Codec.inInt_iff.mp (List.all_eq_true.mp q.2.1.2 x hx)).1
    obtain ⟨n, l, u⟩ := a
    obtain ⟨n, rfl⟩ := Int.eq_ofNat_of_zero_le (show 0 ≤ n from q1)
    obtain ⟨l, rfl⟩ : ∃ s : List Nat, l = Kz.up s := ⟨_, (Kz.up_down q3).symm⟩
    cases hx with
    | cons h1 h2 =>
      cases h1
      cases h2 with
      | cons h3 h4 =>
        cases h4
        cases h3 with
        | lst hs ha =>
          have e := L2.ints_dw (Kz.up l) _ ha
          subst e
          rw [Kw.nV_ints] at hs
          exact ⟨n, _, l, rfl, hs, (by have z : (Kz.up l).length ≤ 100 := q2; unfold Kz.up at z; rwa [List.length_map] at z), fun H' p hp => .lst (L2.SqL.of hp) (L2.dw_ints _)⟩
#print axioms PySem.Challenge.cw_nothreelines_s02_threes_holds
