import PyProof.Rows.All
import Wide.All
import OpenK.AllK
import Wide.FinOn
import Open.SpecLaws
import KE.OsGo
import HandS.ForSpec
import HandS.Dict
import HandS.WordsDict
import HandS.More
import PySem.Challenge.RW_nothreelines_s06_most
set_option Elab.async false
set_option linter.all false
set_option maxRecDepth 100000
set_option maxHeartbeats 4000000
namespace Kz
/-! ### third -/
theorem third_zero (x y : Nat) : Kzt3.third 0 x y = 0 := rfl
theorem third_succ (i x y : Nat) : Kzt3.third (i + 1) x y = Kzt3.third i x y + (6 - x / 3 ^ i % 3 - y / 3 ^ i % 3) % 3 * 3 ^ i := by
  unfold Kzt3.third
  rw [List.range_succ, List.map_append, List.foldl_append]
  rfl
theorem third_lt (i x y : Nat) : Kzt3.third i x y < 3 ^ i := by
  induction i with
  | zero => exact Nat.one_pos
  | succ i ih =>
    rw [third_succ, Nat.pow_succ]
    have h : (6 - x / 3 ^ i % 3 - y / 3 ^ i % 3) % 3 < 3 := Nat.mod_lt _ (by decide)
    generalize (6 - x / 3 ^ i % 3 - y / 3 ^ i % 3) % 3 = d at h
    have h2 : d * 3 ^ i ≤ 2 * 3 ^ i := Nat.mul_le_mul_right _ (by omega)
    omega
theorem pow_pos3 (i : Nat) : 0 < 3 ^ i := Nat.pow_pos (by decide)
theorem pow_le81 {i : Nat} (h : i ≤ 4) : 3 ^ i ≤ 81 := Nat.pow_le_pow_right (n := 3) (by decide) h
/-- one turn of the loop, as Python reckons it -/
theorem turn_third (i x y : Nat) :
    (Kzt3.third i x y : Int) + (6 - ((x : Int) / ((3 ^ i : Nat) : Int) % 3 + (y : Int) / ((3 ^ i : Nat) : Int) % 3)) % 3 * ((3 ^ i : Nat) : Int) = ((Kzt3.third (i + 1) x y : Nat) : Int) := by
  rw [third_succ]
  have e1 : (x : Int) / ((3 ^ i : Nat) : Int) % 3 = ((x / 3 ^ i % 3 : Nat) : Int) := rfl
  have e2 : (y : Int) / ((3 ^ i : Nat) : Int) % 3 = ((y / 3 ^ i % 3 : Nat) : Int) := rfl
  rw [e1, e2]
  have h1 : x / 3 ^ i % 3 < 3 := Nat.mod_lt _ (by decide)
  have h2 : y / 3 ^ i % 3 < 3 := Nat.mod_lt _ (by decide)
  generalize x / 3 ^ i % 3 = a at h1
  generalize y / 3 ^ i % 3 = b at h2
  have e3 : (6 - ((a : Int) + (b : Int))) % 3 = (((6 - a - b) % 3 : Nat) : Int) := by omega
  rw [e3, Int.natCast_add, Int.natCast_mul]
theorem turn_pow (i : Nat) : ((3 ^ i : Nat) : Int) * 3 = ((3 ^ (i + 1) : Nat) : Int) := by
  rw [Nat.pow_succ, Int.natCast_mul]
  rfl
/-! ### sets -/
/-- the loop of is_set from its item on -/
def chk (cnt : Nat) : Nat → List Nat → Bool
  | _, [] => true
  | lo, p :: r => if p < lo ∨ cnt ≤ p then false else chk cnt (p + 1) r
theorem chk_nil (cnt lo : Nat) : chk cnt lo [] = true := rfl
theorem chk_cons (cnt lo p : Nat) (r : List Nat) : chk cnt lo (p :: r) = if p < lo ∨ cnt ≤ p then false else chk cnt (p + 1) r := rfl
theorem chk_low {cnt : Nat} : ∀ {s : List Nat} {lo : Nat}, chk cnt lo s = true → ∀ x ∈ s, lo ≤ x ∧ x < cnt
  | [], _, _, x, h => by cases h
  | p :: r, lo, h, x, hx => by
    unfold chk at h
    by_cases c : p < lo ∨ cnt ≤ p
    · rw [if_pos c] at h
      cases h
    · rw [if_neg c] at h
      cases hx with
      | head => omega
      | tail _ hx =>
        have := chk_low h x hx
        omega
theorem chk_ok {cnt : Nat} : ∀ {s : List Nat} {lo : Nat}, chk cnt lo s = (Kzt3.rising s && s.all (fun x => decide (x < cnt)) && decide (∀ x ∈ s.head?, lo ≤ x))
  | [], _ => by simp [chk, Kzt3.rising]
  | [p], lo => by
    simp only [chk, Kzt3.rising]
    by_cases c : p < lo ∨ cnt ≤ p
    · rw [if_pos c]
      simp
      omega
    · rw [if_neg c]
      simp
      omega
  | p :: q :: r, lo => by
    have ih := chk_ok (cnt := cnt) (s := q :: r) (lo := p + 1)
    unfold chk
    rw [ih, show Kzt3.rising (p :: q :: r) = (decide (p < q) && Kzt3.rising (q :: r)) from rfl]
    by_cases c : p < lo ∨ cnt ≤ p
    · rw [if_pos c]
      simp
      omega
    · rw [if_neg c]
      have c1 : p < cnt := by omega
      have c2 : lo ≤ p := by omega
      by_cases d : p < q
      · have d' : p + 1 ≤ q := d
        simp [c1, c2, d, d']
      · have d' : ¬ p + 1 ≤ q := d
        simp [d, d']
theorem chk_set (n : Nat) (s : List Nat) : chk (3 ^ n) 0 s = Kzt3.okSet n s := by
  rw [chk_ok]
  unfold Kzt3.okSet
  simp
/-- what rises -/
theorem chk_pair {cnt : Nat} : ∀ {s : List Nat} {lo : Nat}, chk cnt lo s = true → s.Pairwise (· < ·)
  | [], _, _ => .nil
  | p :: r, lo, h => by
    unfold chk at h
    by_cases c : p < lo ∨ cnt ≤ p
    · rw [if_pos c] at h
      cases h
    · rw [if_neg c] at h
      exact .cons (fun x hx => (chk_low h x hx).1) (chk_pair h)
theorem ok_pair {n : Nat} {s : List Nat} (h : Kzt3.okSet n s = true) : s.Pairwise (· < ·) := chk_pair ((chk_set n s).trans h)
theorem ok_lt {n : Nat} {s : List Nat} (h : Kzt3.okSet n s = true) : ∀ x ∈ s, x < 3 ^ n := fun x hx => (chk_low ((chk_set n s).trans h) x hx).2
/-! ### lists -/
theorem take_more {α : Type} : ∀ {l : List α} {i : Nat} {x : α}, l[i]? = some x → l.take (i + 1) = l.take i ++ [x]
  | [], i, x, h => by simp at h
  | a :: l, 0, x, h => by
    have e : a = x := Option.some.inj h
    subst e
    rfl
  | a :: l, i + 1, x, h => by
    have ih := take_more (l := l) (i := i) (x := x) h
    show a :: l.take (i + 1) = a :: l.take i ++ [x]
    rw [ih]
    rfl
theorem drop_more {α : Type} : ∀ {l : List α} {i : Nat} {x : α}, l[i]? = some x → l.drop i = x :: l.drop (i + 1)
  | [], i, x, h => by simp at h
  | a :: l, 0, x, h => by
    have e : a = x := Option.some.inj h
    subst e
    rfl
  | a :: l, i + 1, x, h => drop_more (l := l) (i := i) (x := x) h
/-! ### threes -/
abbrev Tri := Nat × Nat × Nat
/-- a second point's three, x the first -/
def tri (n : Nat) (s : List Nat) (x y : Nat) : Option Tri := if y < Kzt3.third n x y ∧ s.contains (Kzt3.third n x y) = true then some (x, y, Kzt3.third n x y) else none
theorem fm_none {α β : Type} {f : α → Option β} : ∀ {l : List α}, (∀ x ∈ l, f x = none) → l.filterMap f = []
  | [], _ => rfl
  | a :: l, h => by
    rw [List.filterMap_cons, h a List.mem_cons_self]
    exact fm_none fun x hx => h x (List.mem_cons_of_mem _ hx)
theorem fm_eq {α β : Type} {f g : α → Option β} : ∀ {l : List α}, (∀ x ∈ l, f x = g x) → l.filterMap f = l.filterMap g
  | [], _ => rfl
  | a :: l, h => by
    rw [List.filterMap_cons, List.filterMap_cons, h a List.mem_cons_self, fm_eq fun x hx => h x (List.mem_cons_of_mem _ hx)]
theorem row_of {n : Nat} {s : List Nat} (hs : s.Pairwise (· < ·)) {i x : Nat} (hi : s[i]? = some x) :
    (s.filterMap fun y => let z := Kzt3.third n x y
      if x < y ∧ y < z ∧ s.contains z = true then some (x, y, z) else none) = (s.drop (i + 1)).filterMap (tri n s x) := by
  have e : s = s.take i ++ x :: s.drop (i + 1) := by
    rw [← drop_more hi]
    exact (List.take_append_drop i s).symm
  have hp := hs
  rw [e] at hp
  rw [List.pairwise_append] at hp
  obtain ⟨_, p2, p3⟩ := hp
  rw [List.pairwise_cons] at p2
  have h1 : ∀ (f : Nat → Option Tri), s.filterMap f = (s.take i).filterMap f ++ (x :: s.drop (i + 1)).filterMap f := fun f => by
    conv => lhs; rw [e]
    rw [List.filterMap_append]
  rw [h1, List.filterMap_cons]
  rw [fm_none fun y hy => ?_]
  · have hx : ¬ (x < x ∧ x < Kzt3.third n x x ∧ s.contains (Kzt3.third n x x) = true) := fun c => Nat.lt_irrefl _ c.1
    dsimp only
    rw [if_neg hx]
    dsimp only
    rw [List.nil_append]
    refine fm_eq fun y hy => ?_
    have hxy : x < y := p2.1 y hy
    unfold tri
    by_cases c : y < Kzt3.third n x y ∧ s.contains (Kzt3.third n x y) = true
    · rw [if_pos c, if_pos ⟨hxy, c⟩]
    · rw [if_neg c, if_neg fun q => c q.2]
  · have hyx : y < x := p3 y hy x List.mem_cons_self
    dsimp only
    rw [if_neg fun c => Nat.lt_asymm c.1 hyx]
/-- what the loops have behind i first points -/
def lns (n : Nat) (s : List Nat) (i : Nat) : List Tri := (s.take i).flatMap fun x => s.filterMap fun y => let z := Kzt3.third n x y
  if x < y ∧ y < z ∧ s.contains z = true then some (x, y, z) else none
theorem lns_all (n : Nat) (s : List Nat) : lns n s s.length = Kzt3.threes n s := by
  unfold lns Kzt3.threes
  rw [List.take_length]
theorem lns_more {n : Nat} {s : List Nat} (hs : s.Pairwise (· < ·)) {i x : Nat} (hi : s[i]? = some x) : lns n s (i + 1) = lns n s i ++ (s.drop (i + 1)).filterMap (tri n s x) := by
  unfold lns
  rw [take_more hi, List.flatMap_append, List.flatMap_cons, List.flatMap_nil, List.append_nil, row_of hs hi]
/-- and behind j of the second ones -/
def lnsj (n : Nat) (s : List Nat) (i x j : Nat) : List Tri := lns n s i ++ ((s.drop (i + 1)).take j).filterMap (tri n s x)
theorem lnsj_more {n : Nat} {s : List Nat} {i x j y : Nat} (hj : (s.drop (i + 1))[j]? = some y) : lnsj n s i x (j + 1) = lnsj n s i x j ++ (tri n s x y).toList := by
  unfold lnsj
  rw [take_more hj, List.filterMap_append, List.append_assoc]
  congr 1
theorem lnsj_all {n : Nat} {s : List Nat} (hs : s.Pairwise (· < ·)) {i x : Nat} (hi : s[i]? = some x) : lnsj n s i x (s.drop (i + 1)).length = lns n s (i + 1) := by
  unfold lnsj
  rw [List.take_length, lns_more hs hi]
theorem lns_len {n : Nat} {s : List Nat} (i : Nat) : (lns n s i).length ≤ i * s.length := by
  unfold lns
  induction i with
  | zero => simp
  | succ i ih =>
    cases e : s[i]? with
    | none =>
      have z : s.take (i + 1) = s.take i := by
        rw [List.getElem?_eq_none_iff] at e
        rw [List.take_of_length_le (by omega), List.take_of_length_le e]
      rw [z]
      refine Nat.le_trans ih (Nat.mul_le_mul_right _ (Nat.le_succ i))
    | some x =>
      rw [take_more e, List.flatMap_append, List.length_append, List.flatMap_cons, List.flatMap_nil, List.append_nil, Nat.succ_mul]
      exact Nat.add_le_add ih (List.length_filterMap_le _ _)
theorem lnsj_len {n : Nat} {s : List Nat} {i x j : Nat} : (lnsj n s i x j).length ≤ i * s.length + s.length := by
  unfold lnsj
  rw [List.length_append]
  refine Nat.add_le_add (lns_len i) (Nat.le_trans (List.length_filterMap_le _ _) ?_)
  rw [List.length_take, List.length_drop]
  omega
/-! ### numbers handed in -/
def up (l : List Nat) : List Int := l.map fun (x : Nat) => (x : Int)
theorem up_down {l : List Int} (h : ∀ x ∈ l, 0 ≤ x) : up (l.map Int.toNat) = l := by
  induction l with
  | nil => rfl
  | cons a l ih =>
    show ((a.toNat : Nat) : Int) :: up (l.map Int.toNat) = a :: l
    rw [ih fun x hx => h x (List.mem_cons_of_mem _ hx), Int.toNat_of_nonneg (h a List.mem_cons_self)]
end Kz
namespace Kz
/-! ### the third, digit by digit -/
theorem digit_low {i m : Nat} (h : i < m) (y c : Nat) : (y + c * 3 ^ m) / 3 ^ i % 3 = y / 3 ^ i % 3 := by
  have e : c * 3 ^ m = 3 ^ i * (3 * (c * 3 ^ (m - i - 1))) := by
    have e1 : 3 ^ m = 3 ^ i * (3 * 3 ^ (m - i - 1)) := by
      rw [← Nat.pow_succ', ← Nat.pow_add]
      congr 1
      omega
    rw [e1, Nat.mul_left_comm c, Nat.mul_left_comm c]
  rw [e, Nat.add_mul_div_left _ _ (pow_pos3 i), Nat.add_mul_mod_self_left]
theorem third_low : ∀ {n m : Nat}, n ≤ m → ∀ x y c : Nat, Kzt3.third n x (y + c * 3 ^ m) = Kzt3.third n x y
  | 0, _, _, _, _, _ => rfl
  | n + 1, m, h, x, y, c => by
    rw [third_succ, third_succ, third_low (Nat.le_of_succ_le h), digit_low h]
theorem third_comm (n x y : Nat) : Kzt3.third n x y = Kzt3.third n y x := by
  induction n with
  | zero => rfl
  | succ n ih => rw [third_succ, third_succ, ih, Nat.sub_right_comm]
theorem third_inv0 (n x y : Nat) : Kzt3.third n x (Kzt3.third n x y) = y % 3 ^ n := by
  induction n with
  | zero => rw [third_zero, Nat.pow_zero, Nat.mod_one]
  | succ n ih =>
    rw [third_succ n x (Kzt3.third (n + 1) x y), third_succ n x y, third_low (Nat.le_refl n), ih]
    rw [Nat.mod_pow_succ, Nat.add_mul_div_right _ _ (pow_pos3 n), Nat.div_eq_of_lt (third_lt n x y), Nat.zero_add, Nat.mod_mod, Nat.mul_comm (3 ^ n)]
    congr 2
    have h1 : x / 3 ^ n % 3 < 3 := Nat.mod_lt _ (by decide)
    have h2 : y / 3 ^ n % 3 < 3 := Nat.mod_lt _ (by decide)
    omega
theorem third_self0 (n x : Nat) : Kzt3.third n x x = x % 3 ^ n := by
  induction n with
  | zero => rw [third_zero, Nat.pow_zero, Nat.mod_one]
  | succ n ih =>
    rw [third_succ, ih, Nat.mod_pow_succ, Nat.mul_comm (3 ^ n)]
    congr 2
    have h1 : x / 3 ^ n % 3 < 3 := Nat.mod_lt _ (by decide)
    omega
theorem third_inv {n x y : Nat} (h : y < 3 ^ n) : Kzt3.third n x (Kzt3.third n x y) = y := (third_inv0 n x y).trans (Nat.mod_eq_of_lt h)
theorem third_self {n x : Nat} (h : x < 3 ^ n) : Kzt3.third n x x = x := (third_self0 n x).trans (Nat.mod_eq_of_lt h)
/-- the third of x and y is z just if that of x and z is y -/
theorem third_iff {n x y z : Nat} (hy : y < 3 ^ n) (hz : z < 3 ^ n) : Kzt3.third n x y = z ↔ Kzt3.third n x z = y :=
  ⟨fun e => by rw [← e]; exact third_inv hy, fun e => by rw [← e]; exact third_inv hz⟩
theorem third_left {n x y : Nat} (hx : x < 3 ^ n) (hy : y < 3 ^ n) : Kzt3.third n x y = x ↔ y = x := by
  rw [third_iff hy hx, third_self hx]
  exact eq_comm
theorem third_right {n x y : Nat} (hx : x < 3 ^ n) (hy : y < 3 ^ n) : Kzt3.third n x y = y ↔ x = y := by
  rw [third_comm, third_left hy hx]
/-! ### what may be added -/
theorem may_iff {n : Nat} {s : List Nat} (hs : ∀ y ∈ s, y < 3 ^ n) {x : Nat} (hx : x < 3 ^ n) : Kzt3.may n s x = true ↔ x ∉ s ∧ ∀ y ∈ s, Kzt3.third n x y ∉ s := by
  unfold Kzt3.may
  rw [Bool.and_eq_true, List.all_eq_true]
  constructor
  · rintro ⟨h1, h2⟩
    have n1 : x ∉ s := by simpa using h1
    refine ⟨n1, fun y hy hc => ?_⟩
    have q := h2 y hy
    have e1 : ¬ Kzt3.third n x y = x := fun e => n1 (by rw [← (third_left hx (hs y hy)).mp e]; exact hy)
    have e2 : ¬ Kzt3.third n x y = y := fun e => n1 (by rw [(third_right hx (hs y hy)).mp e]; exact hy)
    simp [hc, e1, e2] at q
  · rintro ⟨h1, h2⟩
    refine ⟨by simpa using h1, fun y hy => ?_⟩
    have q := h2 y hy
    simp [q]
/-- one point more -/
theorem may_more {n : Nat} {s : List Nat} (hs : ∀ y ∈ s, y < 3 ^ n) {x y : Nat} (hx : x < 3 ^ n) (hy : y < 3 ^ n) (hm : Kzt3.may n s y = true) (hxy : y ≠ x) :
    Kzt3.may n (s ++ [x]) y = true ↔ ∀ z ∈ s, Kzt3.third n x z ≠ y := by
  have hs' : ∀ z ∈ s ++ [x], z < 3 ^ n := fun z hz => by
    rcases List.mem_append.mp hz with h | h
    · exact hs z h
    · rw [List.mem_singleton.mp h]; exact hx
  obtain ⟨m1, m2⟩ := (may_iff hs hy).mp hm
  rw [may_iff hs' hy]
  constructor
  · rintro ⟨_, h2⟩ z hz e
    refine h2 x (List.mem_append_right _ (List.mem_singleton.mpr rfl)) (List.mem_append_left _ ?_)
    rw [third_comm, (third_iff (hs z hz) hy).mp e]
    exact hz
  · intro h
    refine ⟨fun c => ?_, fun z hz c => ?_⟩
    · rcases List.mem_append.mp c with q | q
      · exact m1 q
      · exact hxy (List.mem_singleton.mp q)
    · rcases List.mem_append.mp hz with q | q
      · rcases List.mem_append.mp c with r | r
        · exact m2 z q r
        · have e : Kzt3.third n y z = x := List.mem_singleton.mp r
          rw [third_comm, third_iff hy hx] at e
          exact h z q (by rw [third_comm]; exact e)
      · have e : z = x := List.mem_singleton.mp q
        subst e
        rcases List.mem_append.mp c with r | r
        · exact h _ r (by rw [third_comm n y z]; exact third_inv hy)
        · exact hxy ((third_right hy hx).mp (List.mem_singleton.mp r))
/-! ### no three in a line -/
theorem mem_threes {n : Nat} {s : List Nat} {t : Tri} : t ∈ Kzt3.threes n s ↔ t.1 ∈ s ∧ t.2.1 ∈ s ∧ t.2.2 ∈ s ∧ t.1 < t.2.1 ∧ t.2.1 < t.2.2 ∧ t.2.2 = Kzt3.third n t.1 t.2.1 := by
  unfold Kzt3.threes
  rw [List.mem_flatMap]
  constructor
  · rintro ⟨x, hx, h⟩
    obtain ⟨y, hy, e⟩ := List.mem_filterMap.mp h
    dsimp only at e
    by_cases c : x < y ∧ y < Kzt3.third n x y ∧ s.contains (Kzt3.third n x y) = true
    · rw [if_pos c] at e
      cases e
      exact ⟨hx, hy, by simpa using c.2.2, c.1, c.2.1, rfl⟩
    · rw [if_neg c] at e
      cases e
  · obtain ⟨x, y, z⟩ := t
    rintro ⟨hx, hy, hz, h1, h2, h3⟩
    dsimp only at hx hy hz h1 h2 h3
    refine ⟨x, hx, List.mem_filterMap.mpr ⟨y, hy, ?_⟩⟩
    dsimp only
    rw [← h3, if_pos ⟨h1, h2, by simpa using hz⟩]
theorem free_iff {n : Nat} {s : List Nat} (hs : ∀ y ∈ s, y < 3 ^ n) : Kzt3.free n s = true ↔ ∀ x ∈ s, ∀ y ∈ s, x ≠ y → Kzt3.third n x y ∉ s := by
  unfold Kzt3.free
  rw [List.isEmpty_iff]
  constructor
  · intro h x hx y hy ne hc
    have no : ∀ a ∈ s, ∀ b ∈ s, ∀ c ∈ s, a < b → b < c → c = Kzt3.third n a b → False := fun a ha b hb c hc h1 h2 e => by
      have q : ((a, b, c) : Tri) ∈ Kzt3.threes n s := mem_threes.mpr ⟨ha, hb, hc, h1, h2, e⟩
      rw [h] at q
      cases q
    have hX := hs x hx
    have hY := hs y hy
    generalize e : Kzt3.third n x y = z at hc
    have hZ := hs z hc
    have nx : z ≠ x := fun q => ne ((third_left hX hY).mp (e.trans q)).symm
    have ny : z ≠ y := fun q => ne ((third_right hX hY).mp (e.trans q))
    have e2 : Kzt3.third n y x = z := (third_comm n y x).trans e
    have e3 : Kzt3.third n x z = y := (third_iff hY hZ).mp e
    have e4 : Kzt3.third n z x = y := (third_comm n z x).trans e3
    have e5 : Kzt3.third n y z = x := (third_iff hX hZ).mp e2
    have e6 : Kzt3.third n z y = x := (third_comm n z y).trans e5
    rcases Nat.lt_or_gt_of_ne ne with a | a
    · rcases Nat.lt_or_gt_of_ne ny with b | b
      · rcases Nat.lt_or_gt_of_ne nx with c | c
        · exact no z hc x hx y hy c a e4.symm
        · exact no x hx z hc y hy c b e3.symm
      · exact no x hx y hy z hc a b e.symm
    · rcases Nat.lt_or_gt_of_ne nx with b | b
      · rcases Nat.lt_or_gt_of_ne ny with c | c
        · exact no z hc y hy x hx c a e6.symm
        · exact no y hy z hc x hx c b e5.symm
      · exact no y hy x hx z hc a b e2.symm
  · intro h
    cases e : Kzt3.threes n s with
    | nil => rfl
    | cons t r =>
      have q : t ∈ Kzt3.threes n s := by rw [e]; exact List.mem_cons_self
      obtain ⟨h1, h2, h3, h4, _, h6⟩ := mem_threes.mp q
      exact absurd (by rw [← h6]; exact h3) (h _ h1 _ h2 (Nat.ne_of_lt h4))
/-! ### put: one more into a rising row -/
theorem mem_put {x z : Nat} : ∀ {l : List Nat}, z ∈ Kzt3.put x l ↔ z = x ∨ z ∈ l
  | [] => by
    unfold Kzt3.put
    simp
  | y :: l => by
    unfold Kzt3.put
    by_cases c1 : x < y
    · rw [if_pos c1]
      simp
    · rw [if_neg c1]
      by_cases c2 : x = y
      · rw [if_pos c2]
        subst c2
        simp
      · rw [if_neg c2, List.mem_cons, mem_put, List.mem_cons]
        constructor
        · rintro (h | h | h)
          · exact .inr (.inl h)
          · exact .inl h
          · exact .inr (.inr h)
        · rintro (h | h | h)
          · exact .inr (.inl h)
          · exact .inl h
          · exact .inr (.inr h)
theorem put_pair {x : Nat} : ∀ {l : List Nat}, l.Pairwise (· < ·) → (Kzt3.put x l).Pairwise (· < ·)
  | [], _ => List.pairwise_singleton _ _
  | y :: l, h => by
    have h2 := List.pairwise_cons.mp h
    unfold Kzt3.put
    by_cases c1 : x < y
    · rw [if_pos c1]
      exact .cons (fun z hz => by
        rcases List.mem_cons.mp hz with q | q
        · rw [q]; exact c1
        · exact Nat.lt_trans c1 (h2.1 z q)) h
    · rw [if_neg c1]
      by_cases c2 : x = y
      · rw [if_pos c2]
        exact h
      · rw [if_neg c2]
        exact .cons (fun z hz => by
          rcases mem_put.mp hz with q | q
          · omega
          · exact h2.1 z q) (put_pair h2.2)
/-- two rising rows of the same numbers are one -/
theorem rise_ext : ∀ {l m : List Nat}, l.Pairwise (· < ·) → m.Pairwise (· < ·) → (∀ x, x ∈ l ↔ x ∈ m) → l = m
  | [], [], _, _, _ => rfl
  | [], b :: m, _, _, h => absurd ((h b).mpr List.mem_cons_self) (by simp)
  | a :: l, [], _, _, h => absurd ((h a).mp List.mem_cons_self) (by simp)
  | a :: l, b :: m, hl, hm, h => by
    have h1 := List.pairwise_cons.mp hl
    have h2 := List.pairwise_cons.mp hm
    have e : a = b := by
      rcases List.mem_cons.mp ((h a).mp List.mem_cons_self) with q | q
      · exact q
      · rcases List.mem_cons.mp ((h b).mpr List.mem_cons_self) with r | r
        · exact r.symm
        · have := h2.1 a q
          have := h1.1 b r
          omega
    subst e
    congr 1
    refine rise_ext h1.2 h2.2 fun x => ?_
    constructor
    · intro hx
      rcases List.mem_cons.mp ((h x).mp (List.mem_cons_of_mem _ hx)) with q | q
      · subst q
        exact absurd (h1.1 x hx) (Nat.lt_irrefl _)
      · exact q
    · intro hx
      rcases List.mem_cons.mp ((h x).mpr (List.mem_cons_of_mem _ hx)) with q | q
      · subst q
        exact absurd (h2.1 x hx) (Nat.lt_irrefl _)
      · exact q
theorem range_pair (n : Nat) : (List.range n).Pairwise (· < ·) := List.pairwise_lt_range
/-- a rising row is what the range has of it -/
theorem rise_filter {N : Nat} {l : List Nat} (hl : l.Pairwise (· < ·)) (hN : ∀ x ∈ l, x < N) : (List.range N).filter (fun x => l.contains x) = l := by
  refine rise_ext ((range_pair N).filter _) hl fun x => ?_
  rw [List.mem_filter, List.mem_range]
  constructor
  · rintro ⟨_, h⟩
    simpa using h
  · intro h
    exact ⟨hN x h, by simpa using h⟩
end Kz
namespace Kz
/-! ### the most, reckoned in a quicker way -/
/-- the points that make three in a line with x and one of s, as bits -/
def shut (g : Nat → Nat → Nat) (x : Nat) : List Nat → Nat → Nat
  | [], m => m
  | z :: s, m => shut g x s (m ||| 1 <<< g x z)
def quick (g : Nat → Nat → Nat) : Nat → List Nat → List Nat → Nat → Nat → Nat
  | 0, _, _, c, b => max c b
  | _ + 1, [], _, c, b => max c b
  | k + 1, x :: l, s, c, b => if Nat.ble (c + l.length + 1) b then b else
      quick g k l s c (quick g k (l.filter fun y => Nat.beq ((shut g x s 0) >>> y % 2) 0) (x :: s) (c + 1) b)
theorem shut_bit (g : Nat → Nat → Nat) (x y : Nat) : ∀ (s : List Nat) (m : Nat), (shut g x s m).testBit y = (m.testBit y || s.any fun z => g x z == y)
  | [], m => by simp [shut]
  | z :: s, m => by
    unfold shut
    rw [shut_bit g x y s, List.any_cons, Nat.testBit_or, Nat.one_shiftLeft, Nat.testBit_two_pow, Bool.or_assoc]
    congr 2
theorem bit_test (m y : Nat) : Nat.beq (m >>> y % 2) 0 = !m.testBit y := by
  rw [Nat.testBit_eq_decide_div_mod_eq, Nat.shiftRight_eq_div_pow]
  have h : m / 2 ^ y % 2 < 2 := Nat.mod_lt _ (by decide)
  generalize m / 2 ^ y % 2 = r at h
  match r, h with
  | 0, _ => rfl
  | 1, _ => rfl
theorem quick_is {n : Nat} {g : Nat → Nat → Nat} (hg : ∀ x y, x < 3 ^ n → y < 3 ^ n → g x y = Kzt3.third n x y) :
    ∀ (k : Nat) (l s s' : List Nat) (c b : Nat), (∀ x ∈ l, x < 3 ^ n) → (∀ x ∈ s, x < 3 ^ n) → (∀ x ∈ l, Kzt3.may n s x = true) → l.Nodup → (∀ z, z ∈ s' ↔ z ∈ s) → c = s.length → quick g k l s' c b = Kzt3.mostOn n k l s b
  | 0, _, s, s', c, b, _, _, _, _, _, hc => by
    subst hc
    rfl
  | k + 1, [], s, s', c, b, _, _, _, _, _, hc => by
    subst hc
    rfl
  | k + 1, x :: l, s, s', c, b, hl, hs, hm, hd, he, hc => by
    subst hc
    unfold quick Kzt3.mostOn
    have hx := hl x List.mem_cons_self
    have hd2 := List.nodup_cons.mp hd
    have ef : (l.filter fun y => Nat.beq ((shut g x s' 0) >>> y % 2) 0) = l.filter (Kzt3.may n (s ++ [x])) := by
      refine List.filter_congr fun y hy => ?_
      have hy3 := hl y (List.mem_cons_of_mem _ hy)
      have ne : y ≠ x := fun e => hd2.1 (e ▸ hy)
      have q := may_more hs hx hy3 (hm y (List.mem_cons_of_mem _ hy)) ne
      rw [bit_test, shut_bit, Nat.zero_testBit, Bool.false_or]
      rw [Bool.eq_iff_iff, q, Bool.not_eq_true', List.any_eq_false]
      constructor
      · intro h z hz e
        exact h z ((he z).mpr hz) (by rw [hg x z hx (hs z hz)]; simpa using e)
      · intro h z hz e
        have hz' := (he z).mp hz
        exact h z hz' (by rw [hg x z hx (hs z hz')] at e; simpa using e)
    rw [ef]
    have hle : (Nat.ble (s.length + l.length + 1) b = true) = (s.length + l.length + 1 ≤ b) := by
      rw [Nat.ble_eq]
    by_cases cc : s.length + l.length + 1 ≤ b
    · rw [if_pos (by rw [hle]; exact cc), if_pos cc]
    · rw [if_neg (by rw [hle]; exact cc), if_neg cc]
      have i1 := quick_is hg k (l.filter (Kzt3.may n (s ++ [x]))) (s ++ [x]) (x :: s') (s.length + 1) b (fun y hy => hl y (List.mem_cons_of_mem _ (List.mem_filter.mp hy).1))
        (fun z hz => by
          rcases List.mem_append.mp hz with q | q
          · exact hs z q
          · rw [List.mem_singleton.mp q]; exact hx)
        (fun y hy => (List.mem_filter.mp hy).2) (hd2.2.filter _)
        (fun z => by rw [List.mem_cons, he z, List.mem_append, List.mem_singleton]; exact or_comm) (by simp)
      rw [i1]
      exact quick_is hg k l s s' s.length _ (fun y hy => hl y (List.mem_cons_of_mem _ hy)) hs (fun y hy => hm y (List.mem_cons_of_mem _ hy)) hd2.2 he rfl
/-- the thirds of n of 3, five bits each -/
def tab3 (x y : Nat) : Nat := 150284565616056763424795829705389756120251294006712634846115618033434350366027011625804797925767743525857091357550117053530807438228182543595331057665543666992978261233185756360808658228667194250683078014022553323338965623567872818370490658670637729796339420589904614080483031792287466011382029193134820904130723559090780210590735837578530134830151446832098083693935819792378068315219212393196646776840963018407869016989297472929219519962518228599846451766284308508773668620039913519221816709663884159537274227289273817357320550526958471401535543944266824532352409190872190530718151643274753432484913454339853488252574394268903122173990901243772210754349162345037285333370458508444394969402348539644334191951505111956980413181496210644656095070087626897703824268664482009624069007744063319957743183576251125596711856050993935868646997683662293243282239401672182611864858110407964312324147192494921648244043677080123448615273851580966251792771734764002160312867627998824753275932706610797002372287009071681916409479712883366034715985325703414262430314847756274864081793451161363173692345587589121088 >>> (5 * (27 * x + y)) % 32
theorem tab3_ok : ∀ x, x < 27 → ∀ y, y < 27 → tab3 x y = Kzt3.third 3 x y := by decide +kernel
theorem may_zero {n x : Nat} (h0 : x ≠ 0) (hx : x < 3 ^ n) : Kzt3.may n [0] x = true := by
  refine (may_iff (fun y hy => by rw [List.mem_singleton.mp hy]; exact pow_pos3 n) hx).mpr ⟨fun h => h0 (List.mem_singleton.mp h), fun y hy hc => ?_⟩
  have e1 := List.mem_singleton.mp hy
  subst e1
  exact h0 ((third_right hx (pow_pos3 n)).mp (List.mem_singleton.mp hc))
/-! the same once more, each number and row reckoned out before it is handed on -/
noncomputable def force (n : Nat) (f : Nat → Nat) : Nat := Nat.rec (motive := fun _ => Nat) (f 0) (fun k _ => f (Nat.succ k)) n
theorem force_is (n : Nat) (f : Nat → Nat) : force n f = f n := by
  cases n with
  | zero => rfl
  | succ n => rfl
noncomputable def sift (p : Nat → Bool) (l : List Nat) : (List Nat → Nat → Nat) → Nat :=
  List.rec (motive := fun _ => (List Nat → Nat → Nat) → Nat) (fun f => f [] 0) (fun x _ ih f => Bool.rec (motive := fun _ => Nat) (ih f) (ih fun r m => f (x :: r) (Nat.succ m)) (p x)) l
theorem sift_is (p : Nat → Bool) : ∀ (l : List Nat) (f : List Nat → Nat → Nat), sift p l f = f (l.filter p) (l.filter p).length
  | [], f => rfl
  | x :: l, f => by
    show Bool.rec (motive := fun _ => Nat) (sift p l f) (sift p l fun r m => f (x :: r) (Nat.succ m)) (p x) = _
    cases e : p x with
    | false =>
      rw [List.filter_cons_of_neg (by rw [e]; decide)]
      exact sift_is p l f
    | true =>
      rw [List.filter_cons_of_pos e]
      exact sift_is p l _
noncomputable def shutR (g : Nat → Nat → Nat) (x : Nat) (s : List Nat) : Nat → Nat := List.rec (motive := fun _ => Nat → Nat) (fun m => m) (fun z _ ih m => ih (Nat.lor m (Nat.shiftLeft 1 (g x z)))) s
theorem shutR_is (g : Nat → Nat → Nat) (x : Nat) : ∀ (s : List Nat) (m : Nat), shutR g x s m = shut g x s m
  | [], _ => rfl
  | z :: s, m => shutR_is g x s _
noncomputable def quickR (g : Nat → Nat → Nat) (k : Nat) : List Nat → Nat → List Nat → Nat → Nat → Nat :=
  Nat.rec (motive := fun _ => List Nat → Nat → List Nat → Nat → Nat → Nat) (fun _ _ _ c b => max c b)
    (fun _ ih l len s c b => List.rec (motive := fun _ => Nat) (max c b)
      (fun x r _ => Bool.rec (motive := fun _ => Nat)
        (force (shutR g x s 0) fun m => force (sift (fun y => Nat.beq (Nat.mod (Nat.shiftRight m y) 2) 0) r fun r' n' => force n' fun n' => ih r' n' (x :: s) (Nat.succ c) b) fun b' => ih r (Nat.pred len) s c b')
        b (Nat.ble (Nat.add c len) b)) l) k
theorem quickR_is (g : Nat → Nat → Nat) : ∀ (k : Nat) (l s : List Nat) (c b : Nat), quickR g k l l.length s c b = quick g k l s c b
  | 0, _, _, _, _ => rfl
  | k + 1, [], _, _, _ => rfl
  | k + 1, x :: l, s, c, b => by
    show Bool.rec (motive := fun _ => Nat)
        (force (shutR g x s 0) fun m => force (sift (fun y => Nat.beq (Nat.mod (Nat.shiftRight m y) 2) 0) l fun r' n' => force n' fun n' => quickR g k r' n' (x :: s) (Nat.succ c) b) fun b' => quickR g k l (Nat.pred (x :: l).length) s c b')
        b (Nat.ble (Nat.add c (x :: l).length) b) = if Nat.ble (c + l.length + 1) b = true then b else quick g k l s c (quick g k (l.filter fun y => Nat.beq ((shut g x s 0) >>> y % 2) 0) (x :: s) (c + 1) b)
    rw [show Nat.add c (x :: l).length = c + l.length + 1 from rfl, show Nat.pred (x :: l).length = l.length from rfl]
    cases Nat.ble (c + l.length + 1) b with
    | true => rfl
    | false =>
      show (force (shutR g x s 0) fun m => force (sift (fun y => Nat.beq (Nat.mod (Nat.shiftRight m y) 2) 0) l fun r' n' => force n' fun n' => quickR g k r' n' (x :: s) (Nat.succ c) b) fun b' => quickR g k l l.length s c b') = _
      rw [force_is, force_is, sift_is, force_is, quickR_is, quickR_is, shutR_is]
      rfl
abbrev pts3 : List Nat := [1, 2, 3, 4, 5, 6, 7, 8, 9, 10, 11, 12, 13, 14, 15, 16, 17, 18, 19, 20, 21, 22, 23, 24, 25, 26]
set_option maxHeartbeats 0 in
set_option maxRecDepth 100000 in
theorem quick3 : quickR tab3 27 pts3 26 [0] 1 0 = 9 := by decide +kernel
theorem pts3_is : (Kzt3.points 3).drop 1 = pts3 := by decide +kernel
theorem pts3_lt : ∀ x ∈ pts3, x < 3 ^ 3 := by decide
theorem pts3_may : ∀ x ∈ pts3, Kzt3.may 3 [0] x = true := by decide +kernel
theorem pts3_nd : pts3.Nodup := by decide
theorem most3 : Kzt3.most 3 = 9 := by
  have q1 : quick tab3 27 pts3 [0] 1 0 = Kzt3.mostOn 3 27 pts3 [0] 0 := quick_is (fun x y hx hy => tab3_ok x hx y hy) 27 pts3 [0] [0] 1 0 pts3_lt (by decide) pts3_may pts3_nd (fun _ => Iff.rfl) rfl
  have q2 : quickR tab3 27 pts3 26 [0] 1 0 = quick tab3 27 pts3 [0] 1 0 := quickR_is tab3 27 pts3 [0] 1 0
  have q3 : Kzt3.most 3 = Kzt3.mostOn 3 27 ((Kzt3.points 3).drop 1) [0] 0 := rfl
  rw [q3, pts3_is, ← q1, ← q2]
  exact quick3
theorem most1 : Kzt3.most 1 = 2 := by decide +kernel
theorem most2 : Kzt3.most 2 = 4 := by decide +kernel
end Kz
namespace Kw
open PySem
def topS (i : Nat) : Stmt := PySem.Challenge.pw_nothreelines_s06_most.main.body.getD i (.Pass ⟨0, 0, 0, 0⟩)
abbrev sHas : Stmt := topS 6
abbrev sMain : Stmt := topS 5
end Kw
namespace Kw
open PySem PySem.Spec PyProof.Rows L2
open PySem.W (Codec)
theorem same_upd {H : Hp} {p : Addr} {o : HO} (h : H p = none) : Same H (upd H p o) := fun b x e => by
  rw [upd_ne (ne_of_none e h)]
  exact e
theorem if_t {c : Bool} {A B : Prop} (hc : c = true) (h : A) : if c = true then A else B := by
  rw [if_pos hc]
  exact h
theorem if_f {c : Bool} {A B : Prop} (hc : c = false) (h : B) : if c = true then A else B := by
  rw [hc, if_neg Bool.false_ne_true]
  exact h
def nV (l : List Nat) : List V := l.map fun (x : Nat) => V.int (x : Int)
theorem nV_len (l : List Nat) : (nV l).length = l.length := List.length_map ..
theorem nV_get {l : List Nat} {i : Nat} {y : V} (h : (nV l)[i]? = some y) : ∃ z : Nat, l[i]? = some z ∧ y = V.int (z : Int) := by
  unfold nV at h
  rw [List.getElem?_map] at h
  cases e : l[i]? with
  | none =>
    rw [e] at h
    cases h
  | some z =>
    rw [e] at h
    exact ⟨z, rfl, (Option.some.inj h).symm⟩
theorem nV_ints (l : List Nat) : (Kz.up l).map V.int = nV l := by
  unfold Kz.up nV
  rw [List.map_map]
  rfl
theorem pow_mul {i : Nat} (h : i ≤ 4) : CMul ((3 ^ i : Nat) : Int) 3 := .inr ⟨by decide, by decide⟩
theorem pow_div {i : Nat} (h : i ≤ 4) (x : Int) : CDiv x ((3 ^ i : Nat) : Int) := by
  have h1 := Kz.pow_pos3 i
  have h2 := Kz.pow_le81 h
  exact ⟨by omega, by omega⟩
theorem pow_mulR {i : Nat} (h : i ≤ 4) (x : Int) : CMul x ((3 ^ i : Nat) : Int) := by
  have h1 := Kz.pow_pos3 i
  have h2 := Kz.pow_le81 h
  exact .inr ⟨by omega, by omega⟩
section
variable {P : Program} {w : World} {K : PySem.W.Frag} {mg : Str → Option Value} {base : Heap}
/-! ### has_points -/
def spHas : Sp := fun vs H Q _ => ∃ n : Nat, vs = [.int n] ∧ Q (.bl (Kzt3.okN n)) H
theorem scHas : FnScope ["n"] ["n"] (defScope sHas) := ⟨rfl, rfl, rfl, by decide +kernel, rfl, by decide +kernel, by decide +kernel⟩
theorem ok_has {f : Addr} {fd : FuncData} {k : Nat} {t : Tok} (F : Fun K "has_points" "has_points" sHas f fd) (mM : mg "MOST_NUMBERS" = some (.int 4 t)) : FnOk P w K mg base CX0 (k + 1) f fd ["n"] spHas := by
  refine F.ok scHas (fun vs H Q E h => ?_) (fun cdv A outer s H vs Q E hr h => ?_)
  · obtain ⟨n, rfl, _⟩ := h
    rfl
  · obtain ⟨n, rfl, q⟩ := h
    refine ⟨_, pss_one (ps_ret (pe_and (pe_cmp (pc_le pe_int (pv 0))) (pe_one (pe_cmp (pc_le (pv 0) (pe_glob (v := .int 4) (by rfl) mM ⟨_, rfl⟩)))))), ?_⟩
    refine ⟨.int n, rfl, 1, n, rfl, rfl, _, rfl, ite2 (fun c => ?_) (fun c => ?_)⟩
    · have c1 : (1 : Int) ≤ (n : Int) := of_decide_eq_true c
      have e : Kzt3.okN n = decide ((n : Int) ≤ 4) := by
        unfold Kzt3.okN
        rw [decide_eq_true (show 1 ≤ n by omega), Bool.true_and]
        exact decide_eq_decide.mpr (by omega)
      rw [e] at q
      exact ⟨.int n, rfl, n, 4, rfl, rfl, q⟩
    · have c1 : ¬ (1 : Int) ≤ (n : Int) := fun z => c (decide_eq_true z)
      have e : Kzt3.okN n = false := by
        unfold Kzt3.okN
        rw [decide_eq_false (show ¬ 1 ≤ n by omega), Bool.false_and]
      rw [e] at q
      exact q
theorem okN_le {n : Nat} (h : Kzt3.okN n = true) : n ≤ 4 := by
  unfold Kzt3.okN at h
  rw [Bool.and_eq_true] at h
  exact of_decide_eq_true h.2
/-! ### a written table of whole numbers, read -/
def Tab (K : PySem.W.Frag) (d : Addr) (f : Int → Option Int) : Prop :=
  ∃ es n, K.lookup d = some ⟨.type "dict", none, .dict es n, #[]⟩ ∧ (d == sysModules) = false ∧ (∀ e ∈ es, ∃ k t, e.key = .int k t ∧ e.hash = hashInt k) ∧ ∀ k, ∃ t, findBy Value.isInt es k = (f k).map fun v => .int v t
theorem isInt_self (k : Int) (t : Tok) : Value.isInt k (.int k t) = true := by simp [Value.isInt]
theorem Tab.map {d : Addr} {es : Array DictEntry} {n : Nat} {h : Heap} (X : K.In h) (hl : K.lookup d = some ⟨.type "dict", none, .dict es n, #[]⟩) (hk : ∀ e ∈ es, ∃ k t, e.key = .int k t ∧ e.hash = hashInt k) : h.MapOf (intKind P w) d (fun k => findBy Value.isInt es k) :=
  ⟨_, es, n, X _ _ hl, ⟨rfl, rfl, rfl⟩, rfl, fun e he => by
    obtain ⟨k, t, e1, e2⟩ := hk e he
    exact ⟨k, by rw [e1]; exact isInt_self k t, e2⟩, fun _ => rfl⟩
theorem op_notIn_tab {X : Cx} {d : Addr} {f : Int → Option Int} (D : Tab X.K d f) : OpR X (compareOp .NotIn) (fun x y H Q => ∃ i : Int, x = .int i ∧ y = .ref d ∧ Q (.bl (!(f i).isSome)) H) := by
  intro pins s σ H x y v u Q I rx ry h
  obtain ⟨i, rfl, rfl, q⟩ := h
  obtain ⟨t, rfl⟩ := rx
  cases ry
  obtain ⟨es, n, hl, lo, hk, hf⟩ := D
  refine wpAny_notIn_of (knd := intKind X.prog X.w) (k := i) (isInt_self i t) lo (Tab.map I.kIn hl hk) ?_
  obtain ⟨t', e⟩ := hf i
  rw [e, Option.isSome_map]
  exact ⟨.bl _, H, I.tok _, rfl, q⟩
theorem ix_tab {X : Cx} {d : Addr} {f : Int → Option Int} (D : Tab X.K d f) : IxR X (fun x y H Q => ∃ i v : Int, x = .ref d ∧ y = .int i ∧ f i = some v ∧ Q (.int v) H) := by
  intro value slice pins s σ H x y v u Q I rx ry h hs
  obtain ⟨i, z, rfl, rfl, ef, q⟩ := h
  obtain rfl : v = Value.ref d := rx
  obtain ⟨t, rfl⟩ := ry
  obtain ⟨es, n, hl, lo, hk, hf⟩ := D
  have hm := Tab.map (P := X.prog) (w := X.w) I.kIn hl hk
  obtain ⟨t', e⟩ := hf i
  rw [ef] at e
  exact tail_any hm.typeIs slot_dict_getitem.lookup (wpAny_getItem_of (knd := intKind X.prog X.w) (k := i) (isInt_self i t) hm e ⟨.int z, H, I.tok _, ⟨_, rfl⟩, q⟩) hs
/-! ### most -/
def mostF (k : Int) : Option Int := if k = 1 then some 2 else if k = 2 then some 4 else if k = 3 then some 9 else none
theorem tab_most {d : Addr} {h1 h2 h3 : Int} {t1 t2 t3 u1 u2 u3 : Tok} {n : Nat} (hl : K.lookup d = some ⟨.type "dict", none, .dict #[⟨h1, .int 1 t1, .int 2 u1⟩, ⟨h2, .int 2 t2, .int 4 u2⟩, ⟨h3, .int 3 t3, .int 9 u3⟩] n, #[]⟩) (lo : (d == sysModules) = false)
    (e1 : h1 = hashInt 1) (e2 : h2 = hashInt 2) (e3 : h3 = hashInt 3) : Tab K d mostF := by
  refine ⟨_, n, hl, lo, fun e he => ?_, fun k => ?_⟩
  · simp only [List.mem_toArray, List.mem_cons, List.not_mem_nil, or_false] at he
    rcases he with rfl | rfl | rfl
    · exact ⟨1, t1, rfl, e1⟩
    · exact ⟨2, t2, rfl, e2⟩
    · exact ⟨3, t3, rfl, e3⟩
  · unfold mostF findBy
    by_cases c1 : k = 1
    · subst c1
      exact ⟨u1, by simp [Value.isInt]⟩
    · by_cases c2 : k = 2
      · subst c2
        exact ⟨u2, by simp [Value.isInt]⟩
      · by_cases c3 : k = 3
        · subst c3
          exact ⟨u3, by simp [Value.isInt]⟩
        · refine ⟨u1, ?_⟩
          have d1 : ¬ 1 = k := fun e => c1 e.symm
          have d2 : ¬ 2 = k := fun e => c2 e.symm
          have d3 : ¬ 3 = k := fun e => c3 e.symm
          simp [Value.isInt, c1, c2, c3, d1, d2, d3]
theorem ans_most (n : Nat) : PyKzt3.most n = (Kzt3.answer (.most n)).value :: (Kzt3.answer (.most n)).nums := rfl
theorem most_22 {n : Nat} (h : Kzt3.okN n = false) : PyKzt3.most n = [-22] := by
  rw [ans_most]
  unfold Kzt3.answer
  dsimp only
  rw [if_pos h]
  rfl
theorem most_28 {n : Nat} (h : Kzt3.okN n = true) (h3 : 3 < n) : PyKzt3.most n = [-28] := by
  rw [ans_most]
  unfold Kzt3.answer
  dsimp only
  rw [if_neg (by rw [h]; decide), if_pos h3]
  rfl
theorem most_ok {n m : Nat} (h : Kzt3.okN n = true) (h3 : ¬ 3 < n) (e : Kzt3.most n = m) : PyKzt3.most n = [(m : Int)] := by
  rw [ans_most]
  unfold Kzt3.answer
  dsimp only
  rw [if_neg (by rw [h]; decide), if_neg h3, e]
  rfl
theorem okN_ge {n : Nat} (h : Kzt3.okN n = true) : 1 ≤ n := by
  unfold Kzt3.okN at h
  rw [Bool.and_eq_true] at h
  exact of_decide_eq_true h.1
/-- what the table has is what is due -/
theorem most_tab {n : Nat} (h : Kzt3.okN n = true) : (mostF n = none ∧ PyKzt3.most n = [-28]) ∨ ∃ v : Int, mostF n = some v ∧ PyKzt3.most n = [v] := by
  have h1 := okN_ge h
  have h2 := okN_le h
  match n, h, h1, h2 with
  | 1, h, _, _ => exact .inr ⟨2, rfl, most_ok h (by decide) Kz.most1⟩
  | 2, h, _, _ => exact .inr ⟨4, rfl, most_ok h (by decide) Kz.most2⟩
  | 3, h, _, _ => exact .inr ⟨9, rfl, most_ok h (by decide) Kz.most3⟩
  | 4, h, _, _ => exact .inl ⟨rfl, most_28 h (by decide)⟩
def spMain (K : PySem.W.Frag) : Sp := fun vs H Q _ => ∃ n : Nat, vs = [.int n] ∧ ∀ (H' : Hp) (p : Addr), H' p = some (.lst ((PyKzt3.most n).map V.int)) → Q (.ref p) H'
theorem scMain : FnScope ["n"] ["n"] (defScope sMain) := ⟨rfl, rfl, rfl, by decide +kernel, rfl, by decide +kernel, by decide +kernel⟩
theorem ok_main {f fH d : Addr} {fd fdH : FuncData} {tU tT : Tok} (F : Fun K "most" "most" sMain f fd)
    (GH : FnOk P w K mg base CX0 1 fH fdH ["n"] spHas) (gH : mg "has_points" = some (.ref fH)) (kH : PySem.W.keepIn K (.ref fH) = true) (bH : Binds K fdH ["n"] [])
    (mU : mg "UNFIT" = some (.int (-22) tU)) (mT : mg "NOT_TOLD" = some (.int (-28) tT)) (mD : mg "MOST_POINTS" = some (.ref d)) (D : Tab K d mostF) :
    FnOk P w K mg base CX0 2 f fd ["n"] (spMain K) := by
  refine F.ok scMain (fun vs H Q E h => ?_) (fun cdv A outer s H vs Q E hr h => ?_)
  · obtain ⟨n, rfl, _⟩ := h
    rfl
  · obtain ⟨n, rfl, q⟩ := h
    refine ⟨_, pss_cons (ps_if (pt_not (pt_val (pe_call GH hr (by rfl) gH kH bH .nil pass0 (pa_cons (pv 0) pa_nil)))) (pss_one (ps_ret (pe_lst (pa_cons (pe_glob (v := .int (-22)) (by rfl) mU ⟨_, rfl⟩) pa_nil)))) pss_nil)
      (pss_cons (ps_if (pt_cmpR (op_notIn_tab D) (pv 0) (pe_glob (v := .ref d) (by rfl) mD rfl) rfl) (pss_one (ps_ret (pe_lst (pa_cons (pe_glob (v := .int (-28)) (by rfl) mT ⟨_, rfl⟩) pa_nil)))) pss_nil)
      (pss_one (ps_ret (pe_lst (pa_cons (pe_ix (ix_tab D) (pe_glob (v := .ref d) (by rfl) mD rfl) (pv 0) (fun _ _ => rfl)) pa_nil))))), ?_⟩
    have one : 1 ≤ sizeLine := by decide
    refine ⟨_, rfl, n, rfl, _, rfl, ?_⟩
    cases hN : Kzt3.okN n with
    | false =>
      refine iteT ⟨one, fun p hp => q _ p ?_⟩
      rw [most_22 hN]
      exact upd_same
    | true =>
      refine iteF ?_
      refine ⟨_, rfl, n, rfl, rfl, _, rfl, ?_⟩
      rcases most_tab hN with ⟨e1, e2⟩ | ⟨v, e1, e2⟩
      · rw [e1]
        refine iteT ⟨one, fun p hp => q _ p ?_⟩
        rw [e2]
        exact upd_same
      · rw [e1]
        refine iteF ?_
        refine ⟨_, rfl, n, v, rfl, rfl, e1, one, fun p hp => q _ p ?_⟩
        rw [e2]
        exact upd_same
end
/-! ### what the top has written -/
theorem all_mk {P : Program} {w : World} {K : PySem.W.Frag} {h : Heap} {mg : Str → Option Value} {fa f0 f1 : Addr} (X : K.In h) (G : h.Ns mainGlobals mg) (hfa : mg "most" = some (.ref fa))
    {od0 an0 od1 an1 : Option Addr} {sl0 sl1 : Array (Option Value)} {oc0 kV0 dc0 pm0 cd0 ct0 oc1 kV1 dc1 pm1 cd1 ct1 : Value}
    {t0 t1 t2 : Tok}
    (a0 : PySem.W.nsIn K mainGlobals "has_points" = some (some (.ref f0))) (l0 : K.lookup f0 = some ⟨oc0, od0, .func (PySem.W.fnOf "has_points" "has_points" (defArgs sHas) (defBody sHas) (defScope sHas) .none kV0 dc0 pm0 an0 cd0 ct0), sl0⟩) (c0 : PySem.W.codeIn K cd0 "has_points" = true) (k0 : PySem.W.keepIn K (.ref f0) = true)
    (a1 : PySem.W.nsIn K mainGlobals "most" = some (some (.ref f1))) (l1 : K.lookup f1 = some ⟨oc1, od1, .func (PySem.W.fnOf "most" "most" (defArgs sMain) (defBody sMain) (defScope sMain) .none kV1 dc1 pm1 an1 cd1 ct1), sl1⟩) (c1 : PySem.W.codeIn K cd1 "most" = true) (k1 : PySem.W.keepIn K (.ref f1) = true)
    (u0 : PySem.W.nsIn K mainGlobals "UNFIT" = some (some (.int (-22) t0)))
    (u1 : PySem.W.nsIn K mainGlobals "NOT_TOLD" = some (some (.int (-28) t1)))
    (u2 : PySem.W.nsIn K mainGlobals "MOST_NUMBERS" = some (some (.int (4) t2)))
    {dA : Addr} {ha hb hc : Int} {ta tb tc ua ub uc : Tok} {nD : Nat}
    (aD : PySem.W.nsIn K mainGlobals "MOST_POINTS" = some (some (.ref dA)))
    (lD : K.lookup dA = some ⟨.type "dict", none, .dict #[⟨ha, .int 1 ta, .int 2 ua⟩, ⟨hb, .int 2 tb, .int 4 ub⟩, ⟨hc, .int 3 tc, .int 9 uc⟩] nD, #[]⟩)
    (loD : (dA == sysModules) = false)
    (eha : ha = hashInt 1)
    (ehb : hb = hashInt 2)
    (ehc : hc = hashInt 3) :
    ∃ fd : FuncData, (∀ (s : Shared) (us : List Value), us.length = (["n"] : List Str).length → BindsTo s fd ⟨us, []⟩ ((["n"] : List Str).zip us)) ∧ ∀ base : Heap, K.In base → base.Ns mainGlobals mg → FnOk P w K mg base CX0 2 fa fd ["n"] (spMain K) := by
  have e := hfa.symm.trans (PySem.W.mg_of X G a1)
  cases e
  have FHas := fun_mk (st := sHas) l0 c0 k0
  have bHas := FHas.binds (ps := ["n"]) fun _ _ _ _ _ _ us hl => match us, hl with | [_], _ => rfl
  have gHas := PySem.W.mg_of X G a0
  have kHas := k0
  have FMain := fun_mk (st := sMain) l1 c1 k1
  have m_UNFIT := PySem.W.mg_of X G u0
  have m_NOT_TOLD := PySem.W.mg_of X G u1
  have m_MOST_NUMBERS := PySem.W.mg_of X G u2
  refine ⟨PySem.W.fnOf "most" "most" (defArgs sMain) (defBody sMain) (defScope sMain) .none kV1 dc1 pm1 an1 cd1 ct1, fun s us hu => match us, hu with | [_], _ => .of_eq rfl, fun base _ _ => ?_⟩
  exact ok_main FMain (ok_has (k := 0) FHas m_MOST_NUMBERS) gHas kHas bHas m_UNFIT m_NOT_TOLD (PySem.W.mg_of X G aD) (tab_most lD loD eha ehb ehc)
end Kw
open PySem PySem.W PyProof.Rows
set_option maxRecDepth 100000 in
set_option maxHeartbeats 8000000 in
theorem PySem.Challenge.cw_nothreelines_s06_most_holds : PySem.Challenge.rw_nothreelines_s06_most.Holds := by
  w_on; k_headS; (case hw => exact ⟨[.int 0], by decide +kernel, by decide +kernel⟩)
  k_fillS
  refine L2.walk_specK (r := PySem.Challenge.rw_nothreelines_s06_most) (k := 2) (CX := L2.CX0) (ps := ["n"]) (sp := Kw.spMain) (by decide +kernel) rfl rfl ⟨rfl, by decide, by decide⟩ (fun w h Y => PySem.W.kIn_of Y) ?F ?S (fun _ _ _ _ z => z)
  case F =>
    intro w mg fa h Y KX G hmg
    refine' Kw.all_mk KX G hmg ?a0 ?l0 ?c0 ?k0 ?a1 ?l1 ?c1 ?k1 ?u0 ?u1 ?u2 ?aD ?lD ?loD ?eha ?ehb ?ehc
    (case a0 => k_is)
    (case l0 => k_is)
    (case c0 => k_is)
    (case k0 => k_is)
    (case a1 => k_is)
    (case l1 => k_is)
    (case c1 => k_is)
    (case k1 => k_is)
    (case u0 => k_is)
    (case u1 => k_is)
    (case u2 => k_is)
    (case aD => k_is)
    (case lD => k_is)
    (case loD => decide +kernel)
    (case eha => decide +kernel)
    (case ehb => decide +kernel)
    (case ehc => decide +kernel)
  case S =>
    intro K H xs a hO hwi hask hx
    have q : (Codec.inInt 0 4294967295 a.1 && true) = true := hwi
    rw [Bool.and_eq_true] at q
    have q1 := (Codec.inInt_iff.mp q.1).1
    obtain ⟨n, u⟩ := a
    obtain ⟨n, rfl⟩ := Int.eq_ofNat_of_zero_le (show 0 ≤ n from q1)
    cases hx with
    | cons h1 h2 =>
      cases h1
      cases h2
      exact ⟨n, rfl, fun H' p hp => .lst (L2.SqL.of hp) (L2.dw_ints _)⟩
#print axioms PySem.Challenge.cw_nothreelines_s06_most_holds
