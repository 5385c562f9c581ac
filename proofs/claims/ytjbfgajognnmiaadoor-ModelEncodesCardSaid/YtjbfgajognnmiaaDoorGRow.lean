/- Texts laid one behind the other: MForm, MFit, MPlain, MRep, MTabs, MCoded. -/
import Derived.Test.YtjbfgajognnmiaaDoorGIv
import Derived.Test.YtjbfgajognnmiaaDoorGNum
import Derived.Test.YtjbfgajognnmiaaDoorGTab
import Derived.Test.YtjbfgajognnmiaaDoorGCoder
import Derived.Deep.RegionLaw
import Derived.Deep.LoopGhost
import Derived.Test.YtjbfgajognnmiaaDoorGDec

/- The bytes of a row of symbols with contexts (layer 5), plain and coded: pure words. -/
namespace Go.Proofs.YtjbfgajognnmiaaDoor

/-- The counts that each context begins with. -/
def st0 (n : Nat) : Nat → List Int := fun _ => List.replicate n 1
/-- The interval of a row: each symbol with its context. -/
def rowIv (n : Nat) (ps : List (Nat × Nat)) : Iv := runIv firstIv (mads (st0 n) ps)
/-- The fixed-width codes of symbols. -/
def pbits (n : Nat) (ss : List Nat) : List Bool := ss.flatMap fun s => bitsOf s (wide (n : Int))
def plainLen (n L : Nat) : Nat := 1 + (L * wide (n : Int) + 7) / 8
/-- b is what is written of the symbols ss with the contexts cs. -/
def BytesOf (n : Nat) (cs ss b : List Nat) : Prop :=
  ∃ c, IsCode (rowIv n (cs.zip ss)) c ∧ b = if c.length + 1 < plainLen n ss.length then 1 :: c else 0 :: pack (pbits n ss)

theorem allOk_st0 (n : Nat) (h0 : 0 < n) (h1 : n ≤ 256) : AllOk n (st0 n) := fun _ => ⟨ok_ones n h0 h1, List.length_replicate⟩
theorem zip_lt {n : Nat} {cs ss : List Nat} (hs : ∀ s ∈ ss, s < n) : ∀ p ∈ cs.zip ss, p.2 < n := fun p hp => hs p.2 (List.of_mem_zip hp).2
theorem row_right {n : Nat} (h0 : 0 < n) (h1 : n ≤ 256) (ps : List (Nat × Nat)) (hs : ∀ p ∈ ps, p.2 < n) : Right (mads (st0 n) ps) := mads_right (allOk_st0 n h0 h1) ps hs
theorem row_good {n : Nat} (h0 : 0 < n) (h1 : n ≤ 256) (ps : List (Nat × Nat)) (hs : ∀ p ∈ ps, p.2 < n) : (rowIv n ps).Good := good_run _ (row_right h0 h1 ps hs) _ good_first
theorem row_k (n : Nat) (ps : List (Nat × Nat)) : (rowIv n ps).k ≤ 3 * ps.length := by
  have := run_kk (mads (st0 n) ps) firstIv
  rw [length_mads] at this
  have h2 : firstIv.k = 0 := rfl
  unfold rowIv
  omega
theorem row_snoc (n : Nat) (ps : List (Nat × Nat)) (c s : Nat) : rowIv n (ps ++ [(c, s)]) = come (rowIv n ps) (stOf (st0 n) ps c) s := by
  have h := run_mads (st0 n) (ps ++ [(c, s)]) ps.length (by simp)
  rw [List.take_of_length_le (by rw [length_mads]; simp)] at h
  have e1 : (ps ++ [(c, s)])[ps.length]'(by simp) = (c, s) := by simp
  rw [e1, List.take_left] at h
  have e2 : (mads (st0 n) (ps ++ [(c, s)])).take ps.length = mads (st0 n) ps := by
    apply List.ext_getElem?
    intro j
    by_cases hj : j < ps.length
    · rw [List.getElem?_take_of_lt hj, mads_at _ _ j (by simp; omega), mads_at _ _ j hj]
      rw [List.getElem_append_left hj, List.take_append_of_le_length (by omega)]
    · rw [List.getElem?_eq_none (by simp; omega), List.getElem?_eq_none (by rw [length_mads]; omega)]
  rw [e2] at h
  exact h
theorem stOf_snoc (st : Nat → List Int) (ps : List (Nat × Nat)) (c s : Nat) : stOf st (ps ++ [(c, s)]) = turn (stOf st ps) c s := by unfold stOf; rw [List.foldl_append]; rfl

theorem length_pbits (n : Nat) (ss : List Nat) : (pbits n ss).length = ss.length * wide (n : Int) := by
  unfold pbits
  induction ss with
  | nil => simp
  | cons s ss ih => rw [List.flatMap_cons, List.length_append, ih, length_bitsOf, List.length_cons, Nat.succ_mul, Nat.add_comm]
theorem pbits_append (n : Nat) (a b : List Nat) : pbits n (a ++ b) = pbits n a ++ pbits n b := by unfold pbits; rw [List.flatMap_append]
theorem pbits_one (n s : Nat) : pbits n [s] = bitsOf s (wide (n : Int)) := by simp [pbits]
theorem pbits_drop (n : Nat) (ss : List Nat) (j : Nat) (hj : j < ss.length) : (pbits n ss).drop (j * wide (n : Int)) = bitsOf (ss.getD j 0) (wide (n : Int)) ++ pbits n (ss.drop (j + 1)) := by
  have h1 : ss = ss.take j ++ ([ss.getD j 0] ++ ss.drop (j + 1)) := by
    rw [List.getD_eq_getElem?_getD, List.getElem?_eq_getElem hj]
    simp
  have h2 : (pbits n (ss.take j)).length = j * wide (n : Int) := by rw [length_pbits, List.length_take, Nat.min_eq_left (by omega)]
  conv => lhs; rw [h1]
  rw [pbits_append, ← h2, List.drop_left, pbits_append, pbits_one]
/-- The symbol j of plain bits. -/
def symAt (bs : List Bool) (W j : Nat) : Nat := num ((bs.drop (j * W)).take W)
theorem symAt_pbits (n : Nat) (ss : List Nat) (j : Nat) (hj : j < ss.length) (hs : ss.getD j 0 < n) : symAt (pbits n ss) (wide (n : Int)) j = ss.getD j 0 := by
  unfold symAt
  rw [pbits_drop n ss j hj, List.take_left' (length_bitsOf _ _), num_bitsOf]
  have := wide_lt (n : Int) (ss.getD j 0 : Nat) (by omega) (by omega)
  exact Nat.mod_eq_of_lt (by simpa using this)
theorem unpack_pack (bs : List Bool) : unpack (pack bs) bs.length = bs := by
  apply List.ext_getElem
  · rw [length_unpack]
  · intro i h1 h2
    have h3 : (unpack (pack bs) bs.length).getD i false = bs.getD i false := by
      rw [getD_unpack, if_pos h2, List.getD_eq_getElem?_getD, getD_pack bs (i / 8) (by omega), Option.getD_some]
      have h4 := bit_of_byte bs i
      rw [Nat.testBit_eq_decide_div_mod_eq, h4]
      cases bs.getD i false <;> rfl
    rw [List.getD_eq_getElem?_getD, List.getD_eq_getElem?_getD, List.getElem?_eq_getElem h1, List.getElem?_eq_getElem h2] at h3
    exact h3

section
variable {n : Nat} {cs ss tt b b' : List Nat}
theorem BytesOf.exists (h0 : 0 < n) (h1 : n ≤ 256) (hs : ∀ s ∈ ss, s < n) : ∃ b, BytesOf n cs ss b := by
  obtain ⟨c, hc, _⟩ := isCode_exists (row_good h0 h1 (cs.zip ss) (zip_lt hs))
  exact ⟨_, c, hc, rfl⟩
theorem BytesOf.one (h : BytesOf n cs ss b) (k : BytesOf n cs ss b') : b = b' := by
  obtain ⟨c, hc, rfl⟩ := h
  obtain ⟨d, hd, rfl⟩ := k
  rw [isCode_one hc hd]
theorem BytesOf.dig (h : BytesOf n cs ss b) : Dig b := by
  obtain ⟨c, hc, rfl⟩ := h
  have h1 := isCode_dig hc
  split
  · intro d hd
    rcases List.mem_cons.1 hd with rfl | hd
    · omega
    · exact h1 d hd
  · intro d hd
    rcases List.mem_cons.1 hd with rfl | hd
    · omega
    · exact pack_lt _ d hd
theorem length_plain (n : Nat) (ss : List Nat) : (0 :: pack (pbits n ss)).length = plainLen n ss.length := by
  rw [List.length_cons, length_pack, length_pbits]
  unfold plainLen
  omega
theorem BytesOf.le (h : BytesOf n cs ss b) : b.length ≤ plainLen n ss.length := by
  obtain ⟨c, hc, rfl⟩ := h
  split
  · rw [List.length_cons]; omega
  · rw [length_plain]; exact Nat.le_refl _
theorem BytesOf.pos (h : BytesOf n cs ss b) : 0 < b.length := by
  obtain ⟨c, hc, rfl⟩ := h
  split <;> simp
theorem BytesOf.plain (h : BytesOf n cs ss (0 :: b)) : b = pack (pbits n ss) := by
  obtain ⟨c, hc, e⟩ := h
  split at e
  · cases e
  · injection e
theorem BytesOf.coded (h : BytesOf n cs ss (1 :: b)) : IsCode (rowIv n (cs.zip ss)) b := by
  obtain ⟨c, hc, e⟩ := h
  split at e
  · injection e with _ e
    rw [e]; exact hc
  · cases e
theorem BytesOf.other {d : Nat} (h : BytesOf n cs ss (d :: b)) : d = 0 ∨ d = 1 := by
  obtain ⟨c, hc, e⟩ := h
  split at e
  · injection e with e _
    exact .inr e
  · injection e with e _
    exact .inl e
end
end Go.Proofs.YtjbfgajognnmiaaDoor

/- What is asked of a row ahead (layer 5): hasSymbols, hasContexts, allBelow; plainSize, Plain. -/
namespace Go.Proofs.YtjbfgajognnmiaaDoor
open Go.RowKit

theorem hasSym_any (w : World) (x : Int) : Calls Tryd.prog 19 #[.int .i64 x] w fun e w' => e = .returned (.bool (decide (1 ≤ x ∧ x ≤ 256))) ∧ w = w' := by
  by_cases h0 : 1 ≤ x
  · have e0 : decide (1 ≤ x ∧ x ≤ 256) = decide (x ≤ 256) := by simp [h0]
    rw [e0]
    clear e0
    go_enter Tryd.func19, Tryd.ntmps19
    go_wp2
    go_ret
    exact ⟨rfl, rfl⟩
  · have e0 : decide (1 ≤ x ∧ x ≤ 256) = false := by simp [h0]
    rw [e0]
    clear e0
    go_enter Tryd.func19, Tryd.ntmps19
    go_wp2
    go_ret
    exact ⟨rfl, rfl⟩
theorem hasCtx_any (w : World) (x : Int) : Calls Tryd.prog 20 #[.int .i64 x] w fun e w' => e = .returned (.bool (decide (1 ≤ x ∧ x ≤ 64))) ∧ w = w' := by
  by_cases h0 : 1 ≤ x
  · have e0 : decide (1 ≤ x ∧ x ≤ 64) = decide (x ≤ 64) := by simp [h0]
    rw [e0]
    clear e0
    go_enter Tryd.func20, Tryd.ntmps20
    go_wp2
    go_ret
    exact ⟨rfl, rfl⟩
  · have e0 : decide (1 ≤ x ∧ x ≤ 64) = false := by simp [h0]
    rw [e0]
    clear e0
    go_enter Tryd.func20, Tryd.ntmps20
    go_wp2
    go_ret
    exact ⟨rfl, rfl⟩

/-- Is a number from 0 to m - 1? -/
def okAt (m x : Int) : Bool := decide (0 ≤ x ∧ x < m)
/-- Are all? -/
def below (m : Int) (l : List Int) : Bool := l.all (okAt m)

theorem belowF_any (w : World) (bx : Nat) (x m : Int) (h : w.cell? ⟨bx, 0, none⟩ = some (.int .i64 m)) :
    Calls Tryd.prog 35 #[.int .i64 x, .pointer (some ⟨bx, 0, none⟩)] w fun e w' => e = .returned (.bool (!okAt m x)) ∧ w = w' := by
  have e0 : (!okAt m x) = (decide (x < 0) || decide (m ≤ x)) := by
    unfold okAt
    by_cases h0 : x < 0 <;> by_cases hm : m ≤ x <;> simp [h0, hm] <;> omega
  rw [e0]
  clear e0
  go_enter Tryd.func35, Tryd.ntmps35
  go_wp2
  all_goals
    go_ret
    exact ⟨rfl, rfl⟩

def IndexAt (w : World) (l : List Int) (m : Int) (n : Nat) (i : Value) (wr : World) : Prop := w = wr ∧ ∃ k : Nat, k ≤ n ∧ i = .int .i64 (k : Int) ∧ ∀ j, j < k → okAt m (l.getD j 0) = true
def IndexIs (w : World) (l : List Int) (m : Int) (e : Ending) (w' : World) : Prop := w = w' ∧ ∃ k : Int, e = .returned (.int .i64 k) ∧ decide (0 ≤ k) = !below m l

theorem below_no {l : List Int} {m : Int} {k : Nat} (hk : k < l.length) (h : okAt m (l.getD k 0) = false) : below m l = false := by
  rw [List.getD_eq_getElem?_getD, List.getElem?_eq_getElem hk, Option.getD_some] at h
  have : ¬ below m l = true := fun e => by
    have := List.all_eq_true.1 e _ (List.getElem_mem hk)
    rw [h] at this
    cases this
  simpa using this
theorem below_yes {l : List Int} {m : Int} (h : ∀ j, j < l.length → okAt m (l.getD j 0) = true) : below m l = true := by
  refine List.all_eq_true.2 fun x hx => ?_
  obtain ⟨j, hj, rfl⟩ := List.mem_iff_getElem.1 hx
  have := h j hj
  rwa [List.getD_eq_getElem?_getD, List.getElem?_eq_getElem hj] at this

set_option maxHeartbeats 1000000 in
set_option maxRecDepth 100000 in
theorem indexF_any (w : World) (A : Option Addr) (n c : Nat) (l : List Int) (m : Int) (bx : Nat) (h : Reads w A n (ints l)) (hn : n ≤ 1000000) (hb : w.cell? ⟨bx, 0, none⟩ = some (.int .i64 m)) :
    Calls Tryd.prog 53 #[.slice A n c, .func (.func 35) #[] #[.pointer (some ⟨bx, 0, none⟩)]] w (IndexIs w l m) := by
  have HF := Lib.hid (fun x => belowF_any w bx x m hb)
  have HR := Lib.hid h
  have HL := Lib.hid h.len
  clear h hb
  go_enter Tryd.func53, Tryd.ntmps53
  go_wp2_with fail
  go_loopw [8] (IndexAt w l m n) (fun i _ => n - (intOf i).toNat)
  case atStart => exact ⟨rfl, 0, Nat.zero_le _, rfl, fun j hj => absurd hj (by omega)⟩
  case round =>
    obtain ⟨rfl, k, hk, rfl, hall⟩ := hrel
    have HA := Lib.hid hall
    clear hall
    by_cases hlt : k < n
    · obtain ⟨ad, rfl, ck⟩ := HR.out.int k hlt
      have hc := HF.out (l.getD k 0)
      have hkn : (k : Int) < n := by omega
      cases hp : okAt m (l.getD k 0)
      · rw [hp] at hc
        have HC := Lib.hid hc
        have HN := Lib.hid (below_no (by rw [HL.out]; exact hlt) hp)
        clear hp hc
        generalize l.getD k 0 = x at *
        go_wp2_with fail
        refine HC.out.mono ?_
        rintro e w1 ⟨rfl, rfl⟩
        go_wp2_with fail
        go_ret
        exact ⟨rfl, _, rfl, by rw [HN.out]; simp⟩
      · rw [hp] at hc
        have HC := Lib.hid hc
        have HN := Lib.hid hp
        clear hp hc
        generalize hx : l.getD k 0 = x at *
        have HX := Lib.hid hx
        clear hx
        go_wp2_with fail
        refine HC.out.mono ?_
        rintro e w1 ⟨rfl, rfl⟩
        go_wp2_with fail
        refine ⟨⟨rfl, k + 1, by omega, by go_num, fun j hj => ?_⟩, by simp [intOf]; omega⟩
        rcases Nat.lt_or_ge j k with h1 | h1
        · exact HA.out j h1
        · obtain rfl : j = k := by omega
          rw [HX.out]; exact HN.out
    · obtain rfl : k = n := by omega
      have HY := Lib.hid (below_yes (l := l) (m := m) (by rw [HL.out]; exact HA.out))
      have hkn : ¬ (k : Int) < k := by omega
      go_wp2_with fail
      go_ret
      exact ⟨rfl, _, rfl, by rw [HY.out]; rfl⟩

theorem containsF_any (w : World) (A : Option Addr) (n c : Nat) (l : List Int) (m : Int) (bx : Nat) (h : Reads w A n (ints l)) (hn : n ≤ 1000000) (hb : w.cell? ⟨bx, 0, none⟩ = some (.int .i64 m)) :
    Calls Tryd.prog 34 #[.slice A n c, .func (.func 35) #[] #[.pointer (some ⟨bx, 0, none⟩)]] w fun e w' => e = .returned (.bool (!below m l)) ∧ w = w' := by
  have K := Lib.hid (indexF_any w A n c l m bx h hn hb)
  clear h hb
  go_enter Tryd.func34, Tryd.ntmps34
  go_wp2_with fail
  refine K.out.mono ?_
  rintro e w1 ⟨rfl, k, rfl, hk⟩
  have HK := Lib.hid hk
  clear hk
  go_wp2
  go_ret
  exact ⟨by rw [HK.out]; rfl, rfl⟩

theorem one_box (w : World) (a : Value) (t : TypeId) : Below w.heap.size w (w.alloc (.cells #[a] t)) ∧ (w.alloc (.cells #[a] t)).cell? ⟨w.heap.size, 0, none⟩ = some a := by
  have h1 : (w.alloc (.cells #[a] t)).heap[w.heap.size]? = some (.cells #[a] t (0, 0)) := heap_alloc_new _ _
  exact ⟨(Below.refl _ _).alloc (Nat.le_refl _) _, by rw [cell_in h1]; rfl⟩

theorem allBelow_any (w : World) (A : Option Addr) (n c : Nat) (l : List Int) (m : Int) (h : Reads w A n (ints l)) (hn : n ≤ 1000000) :
    Calls Tryd.prog 21 #[.slice A n c, .int .i64 m] w fun e w' => e = .returned (.bool (below m l)) ∧ Below w.heap.size w w' := by
  obtain ⟨b0, k0⟩ := one_box w (.int .i64 m) 3
  have K := Lib.hid (containsF_any _ A n c l m w.heap.size (h.below b0) hn k0)
  have B0 := Lib.hid b0
  have hmf : ∀ (fn : Fn) (first cap : Array Value) (w : World), (Instr.makeFunc fn first cap).run Tryd.prog w = .ok (.func fn first cap) w := fun _ _ _ _ => rfl
  clear h b0 k0
  generalize below m l = r at *
  cases r <;>
  · go_enter Tryd.func21, Tryd.ntmps21
    go_wp2_with fail
    refine K.out.mono ?_
    rintro e w1 ⟨rfl, rfl⟩
    go_wp2
    go_ret
    exact ⟨rfl, B0.out⟩

theorem plainSize_any (w : World) (n L : Nat) (hn : n ≤ 256) (hL : L ≤ 1000000) :
    Calls Tryd.prog 33 #[.int .i64 (n : Int), .int .i64 (L : Int)] w fun e w' => e = .returned (.int .i64 ((plainLen n L : Nat) : Int)) ∧ w = w' := by
  have K := width_any w (n : Int) (by omega)
  have hW := wide_le (n : Int) (by omega)
  have HP := Lib.hid (show plainLen n L = 1 + (L * wide (n : Int) + 7) / 8 from rfl)
  generalize wide (n : Int) = W at *
  have KH := Lib.hid K
  have hP : L * W ≤ 1000000 * 63 := Nat.mul_le_mul hL hW
  have e0 : (L : Int) * (W : Int) = ((L * W : Nat) : Int) := by push_cast; rfl
  generalize L * W = P at *
  have e1 : IntKind.i64.wrap ((L : Int) * (W : Int)) = (P : Int) := by rw [e0]; exact IntWalk.i64_in _ (by omega)
  have e2 : wrap64 ((L : Int) * (W : Int)) = (P : Int) := by rw [e0]; unfold wrap64; omega
  clear K e0
  go_enter Tryd.func33, Tryd.ntmps33
  go_wp2_with fail
  refine KH.out.mono ?_
  rintro e w1 ⟨rfl, rfl⟩
  go_wp2
  go_ret
  exact ⟨congrArg Ending.returned (congrArg (Value.int IntKind.i64) (by rw [HP.out]; omega)), rfl⟩

theorem mplain_any (w : World) (A : Option Addr) (n L c : Nat) (hn : 1 ≤ n) (hn2 : n ≤ 256) (hL : L ≤ 1000000) :
    Calls Tryd.prog 18 #[.int .i64 (n : Int), .slice A L c] w fun e w' => e = .returned (.int .i64 ((plainLen n L : Nat) : Int)) ∧ w = w' := by
  have K1 := hasSym_any w (n : Int)
  rw [show decide (1 ≤ (n : Int) ∧ (n : Int) ≤ 256) = true by simp; omega] at K1
  have H1 := Lib.hid K1
  have H2 := Lib.hid (plainSize_any w n L hn2 hL)
  clear K1
  go_enter Tryd.func18, Tryd.ntmps18
  go_wp2_with fail
  refine H1.out.mono ?_
  rintro e w1 ⟨rfl, rfl⟩
  go_wp2_with fail
  refine H2.out.mono ?_
  rintro e w1 ⟨rfl, rfl⟩
  go_wp2
  go_ret
  exact ⟨rfl, rfl⟩
theorem mplain_no (w : World) (n : Int) (v : Value) (hn : ¬ (1 ≤ n ∧ n ≤ 256)) :
    Calls Tryd.prog 18 #[.int .i64 n, v] w fun e w' => e = .returned (.int .i64 0) ∧ w = w' := by
  have K1 := hasSym_any w n
  rw [decide_eq_false hn] at K1
  have H1 := Lib.hid K1
  clear K1 hn
  go_enter Tryd.func18, Tryd.ntmps18
  go_wp2_with fail
  refine H1.out.mono ?_
  rintro e w1 ⟨rfl, rfl⟩
  go_wp2
  go_ret
  exact ⟨rfl, rfl⟩
end Go.Proofs.YtjbfgajognnmiaaDoor

/- plainForm (layer 5): the byte 0 and the byte form of the fixed-width codes. -/
namespace Go.Proofs.YtjbfgajognnmiaaDoor
open Go.RowKit

/-- Symbols, or contexts, as ints. -/
def nts (l : List Nat) : List Value := l.map fun d : Nat => .int .i64 (d : Int)
theorem length_nts (l : List Nat) : (nts l).length = l.length := by simp [nts]
theorem nts_ints (l : List Int) (h : ∀ x ∈ l, 0 ≤ x) : ints l = nts (l.map Int.toNat) := by
  unfold ints nts
  rw [List.map_map]
  refine List.map_congr_left fun x hx => ?_
  have := h x hx
  show Value.int .i64 x = .int .i64 ((x.toNat : Nat) : Int)
  rw [Int.toNat_of_nonneg this]
theorem Reads.nat {w : World} {A : Option Addr} {n : Nat} {l : List Nat} (h : Reads w A n (nts l)) (k : Nat) (hk : k < n) : ∃ ad, A = some ad ∧ w.cell? (ad.add k) = some (.int .i64 ((l.getD k 0 : Nat) : Int)) := by
  obtain ⟨ad, hA, hc⟩ := h.2 (by omega)
  refine ⟨ad, hA, hc k _ ?_⟩
  have hl : l.length = n := by have := h.1; rwa [length_nts] at this
  have : k < l.length := by omega
  simp [nts, List.getElem?_eq_getElem this]
theorem Reads.nlen {w : World} {A : Option Addr} {n : Nat} {l : List Nat} (h : Reads w A n (nts l)) : l.length = n := by have := h.1; rwa [length_nts] at this
theorem getD_lt {l : List Nat} {n : Nat} (h : ∀ s ∈ l, s < n) (k : Nat) (hk : k < l.length) : l.getD k 0 < n := by
  rw [List.getD_eq_getElem?_getD, List.getElem?_eq_getElem hk]
  exact h _ (List.getElem_mem hk)
theorem take_getD (l : List Nat) (k : Nat) (hk : k < l.length) : l.take (k + 1) = l.take k ++ [l.getD k 0] := by
  rw [List.take_succ_eq_append_getElem hk, List.getD_eq_getElem?_getD, List.getElem?_eq_getElem hk]
  rfl

theorem mk_below (w : World) (o : Obj) : Below w.heap.size w (w.alloc o) := (Below.refl _ _).alloc (Nat.le_refl _) _
/-- A slice of bytes, one alone, that has been made. -/
theorem own_one (w : World) (B d : Nat) (hB : B ≤ w.heap.size) : (w.alloc (.cells #[.int .u8 (d : Int)] 5)).ownsRow B 5 1 (.slice (some ⟨w.heap.size, 0, none⟩) 1 1) 1 (bts [d]) :=
  own_of_block (l := [d]) (rest := []) (show BRow _ _ _ _ from heap_alloc_new _ _) rfl (Nat.le_refl _) (by decide) rfl hB

def BytesQ (w : World) (bs : List Bool) (e : Ending) (w' : World) : Prop :=
  ∃ q, e = .returned (.slice (some ⟨q, 0, none⟩) (pack bs).length (pack bs).length) ∧ Reads w' (some ⟨q, 0, none⟩) (pack bs).length (bts (pack bs)) ∧ Below w.heap.size w w'
theorem bytes_q (w : World) (B g : Nat) (v : Value) (bs : List Bool) (h : WIs w B g v bs) (hl : bs.length ≤ 33554432) :
    Calls Tryd.prog 56 #[.pointer (some ⟨g, 0, none⟩)] w (BytesQ w bs) := by
  refine (bytes_any w B g v bs h hl).mono ?_
  rintro e w1 ⟨rfl, h1, h2⟩
  refine ⟨_, rfl, ?_, h2⟩
  have := Reads.of_block h1
  rwa [length_u8s] at this

def PlainAt (w : World) (n L : Nat) (ss : List Nat) (i : Value) (wr : World) : Prop :=
  ∃ k : Nat, k ≤ L ∧ i = .int .i64 (k : Int) ∧ (∃ v, WIs wr w.heap.size w.heap.size v (pbits n (ss.take k))) ∧ Below w.heap.size w wr

set_option maxHeartbeats 2000000 in
set_option maxRecDepth 100000 in
theorem plainForm_any (w : World) (A : Option Addr) (L c n : Nat) (ss : List Nat) (h : Reads w A L (nts ss)) (hL : L ≤ 65536) (hn : n ≤ 256) (hs : ∀ s ∈ ss, s < n) :
    Calls Tryd.prog 37 #[.int .i64 (n : Int), .slice A L c] w (OwnB w (plainLen n L) (0 :: pack (pbits n ss))) := by
  obtain ⟨i0, hi, hz0, hz1, hz2⟩ := info_parts Tryd.infoU8
  have HI := Lib.hid hi
  have HZ := Lib.hid (And.intro hz0 (And.intro hz1 hz2))
  have HR := Lib.hid h
  have HL := Lib.hid h.nlen
  have HS := Lib.hid hs
  have HW := Lib.hid (show wide (n : Int) ≤ 63 from wide_le _ (by omega))
  have W0 := Lib.hid (WIs.new w w.heap.size)
  have B0 := Lib.hid ((Below.refl w.heap.size w).alloc (Nat.le_refl _) (.cells #[.slice none 0 0, .int .i64 0] 81))
  have HP := Lib.hid (fun k (hk : k ≤ L) => show (pbits n (ss.take k)).length ≤ 65536 * 63 by
    rw [length_pbits, List.length_take]
    exact Nat.mul_le_mul (by omega) HW.out)
  clear h hs hi hz0 hz1 hz2
  go_enter Tryd.func37, Tryd.ntmps37
  go_wp2_with fail
  go_loopw [10] (PlainAt w n L ss) (fun i _ => L - (intOf i).toNat)
  case atStart => exact ⟨0, Nat.zero_le _, rfl, ⟨_, W0.out⟩, B0.out⟩
  case round =>
    obtain ⟨k, hk, rfl, ⟨v, hw⟩, hb⟩ := hrel
    have HB := Lib.hid hb
    have HV := Lib.hid hw
    clear hb hw
    by_cases hlt : k < L
    · obtain ⟨ad, rfl, ckw⟩ := HR.out.nat k hlt
      have ck := (HB.out.cell (World.block_lt_of_cell? _ _ ckw)).trans ckw
      clear ckw
      have hkl : k < ss.length := by rw [HL.out]; exact hlt
      have hsn := getD_lt HS.out k hkl
      have HT := Lib.hid (show pbits n (ss.take k) ++ bitsOf (ss.getD k 0) (wide (n : Int)) = pbits n (ss.take (k + 1)) by rw [take_getD ss k hkl, pbits_append, pbits_one])
      generalize ss.getD k 0 = s at *
      have KF := Lib.hid (fixed_ok wr w.heap.size w.heap.size v _ s (n : Int) (by omega) (by omega) HV.out HB.out.size (by have := HP.out k hk; omega))
      have hkn : (k : Int) < L := by omega
      clear hkl
      go_wp2_with fail
      refine KF.out.mono ?_
      rintro e w1 ⟨rfl, v1, h1, k1, m1⟩
      have W1 := Lib.hid h1
      have B1 := Lib.hid (HB.out.trans (k1.below (Nat.le_refl _) HB.out.size HV.out.own_ge))
      clear h1 k1 m1
      go_wp2_with fail
      exact ⟨⟨k + 1, by omega, by go_num, ⟨v1, by rw [← HT.out]; exact W1.out⟩, B1.out⟩, by simp [intOf]; omega⟩
    · obtain rfl : k = L := by omega
      have hkn : ¬ (k : Int) < k := by omega
      have hV := HV.out
      rw [List.take_of_length_le (by rw [HL.out]; exact Nat.le_refl _)] at hV
      have hpl := HP.out k (Nat.le_refl _)
      rw [List.take_of_length_le (by rw [HL.out]; exact Nat.le_refl _)] at hpl
      have hml := length_plain n ss
      rw [HL.out, List.length_cons] at hml
      have hmm := length_pack (pbits n ss)
      have KB := Lib.hid (bytes_q _ w.heap.size w.heap.size v (pbits n ss) (hV.below (mk_below wr (.cells #[.int .u8 0] 5))) (by omega))
      have O1 := Lib.hid (own_one wr w.heap.size 0 HB.out.size)
      have B1 := Lib.hid (HB.out.alloc HB.out.size (.cells #[.int .u8 0] 5))
      clear hV
      go_wp2_with fail
      refine KB.out.mono ?_
      rintro e w2 ⟨q, rfl, r2, b2⟩
      have O2 := Lib.hid (own_keep (S := fun _ => False) O1.out (.of_below b2) (fun _ _ => id))
      have B2 := Lib.hid (B1.out.trans (b2.mono B1.out.size))
      have R2 := Lib.hid r2
      have HE := Lib.hid (show bts (0 :: pack (pbits n ss)) = bts [0] ++ bts (pack (pbits n ss)) from rfl)
      generalize (pack (pbits n ss)).length = m at *
      have HM := Lib.hid hml
      have hm2 : m ≤ 10000000 := by omega
      clear r2 b2 hml hmm hpl
      go_wp2_with (at_builtin; refine wpList_append_reads rfl (.tmp 18) (.tmp 19) 25 rfl w.heap.size 5 i0 (.int .u8 0) 1 Tryd.underlying25 HI.out HZ.out rfl (.slice (some ⟨wr.heap.size, 0, none⟩) 1 1) 1 (bts [0]) rfl O2.out (some ⟨q, 0, none⟩) m m (bts (pack (pbits n ss))) rfl R2.out (fun e => (nomatch e)) (bts_one _) ?b1 ?b2 ?b3 ?_)
      case b1 => unfold maxLen; omega
      case b2 => omega
      case b3 => exact B2.out.size
      intro v' w3 hown hgr
      have O3 := Lib.hid hown
      have B3 := Lib.hid (own_grown_below B2.out hgr B2.out.size (fun p hp => (own_lt O2.out p hp).1))
      clear hown hgr
      go_wp2
      go_ret
      refine ⟨v', rfl, ?_, B3.out⟩
      rw [HE.out, show plainLen n k = 1 + m by have := HM.out; omega]
      exact O3.out
end Go.Proofs.YtjbfgajognnmiaaDoor

/- bits.Mul of 1, slices.Repeat of a slice of the int 1 (layer 5). -/
namespace Go.Proofs.YtjbfgajognnmiaaDoor
open Go.RowKit

theorem mul64_one (w : World) (n : Nat) (hn : n ≤ 256) : Calls Tryd.prog 89 #[.int .u64 1, .int .u64 (n : Int)] w fun e w' => e = .returned (.tuple #[.int .u64 0, .int .u64 (n : Int)]) ∧ w = w' := by
  have a1 : bits BinOp.and IntKind.u64 1 4294967295 = 1 := by decide
  have a2 : bits BinOp.and IntKind.u64 (n : Int) 4294967295 = (n : Int) := by
    have := u64_and_nat n 4294967295 (by omega) (by omega)
    rw [show ((4294967295 : Nat) : Int) = 4294967295 from rfl] at this
    rw [this]
    congr 1
    exact Nat.and_two_pow_sub_one_of_lt_two_pow (n := 32) (by omega)
  have a3 : bits BinOp.and IntKind.u64 0 4294967295 = 0 := by decide
  have a4 : (n : Int) / 4294967296 = 0 := by omega
  go_enter Tryd.func89, Tryd.ntmps89
  go_wp2
  go_ret2
  exact ⟨rfl, rfl⟩

theorem mul_one' (w : World) (n : Nat) (hn : n ≤ 256) : Calls Tryd.prog 80 #[.int .u64 1, .int .u64 (n : Int)] w fun e w' => e = .returned (.tuple #[.int .u64 0, .int .u64 (n : Int)]) ∧ w = w' := by
  have K := Lib.hid (mul64_one w n hn)
  go_enter Tryd.func80, Tryd.ntmps80
  go_wp2_with fail
  refine K.out.mono ?_
  rintro e w1 ⟨rfl, rfl⟩
  go_wp2
  go_ret2
  exact ⟨rfl, rfl⟩

/-- k ones, the rest noughts. -/
def filled (k n : Nat) : List Value := List.replicate k (.int .i64 1) ++ List.replicate (n - k) (.int .i64 0)
theorem length_filled (k n : Nat) (h : k ≤ n) : (filled k n).length = n := by simp [filled]; omega
theorem splice_filled (k m n : Nat) (h : k + m ≤ n) : splice (filled k n) k (List.replicate m (.int .i64 1)) = filled (k + m) n := by
  unfold splice filled
  rw [List.take_left' (by simp), List.length_replicate, List.drop_append, List.length_replicate, List.drop_replicate, List.drop_replicate, ← List.append_assoc, List.replicate_append_replicate]
  rw [show k - (k + m) = 0 by omega, show n - k - (k + m - k) = n - (k + m) by omega]
  simp
theorem filled_at (k n j : Nat) (h : j < k) : (filled k n)[j]? = some (.int .i64 1) := by
  unfold filled
  rw [List.getElem?_append_left (by simpa using h), List.getElem?_replicate, if_pos h]
theorem filled_zero (n : Nat) : filled 0 n = List.replicate n (.int .i64 0) := by simp [filled]
theorem filled_all (n : Nat) : filled n n = ints (List.replicate n 1) := by simp [filled, ints]
theorem rep_one (m : Nat) : ∀ u ∈ List.replicate m (Value.int .i64 1), u.oneCell' = true := fun u hu => by rw [List.eq_of_mem_replicate hu]; rfl

def oneRow : List Value := List.replicate 1 (.int .i64 1)
theorem oneRow_one : ∀ u ∈ oneRow, u.oneCell' = true := rep_one 1
def RepAt (w : World) (B q n : Nat) (gk : Nat) (m : Value) (wr : World) : Prop := ∃ k : Nat, 1 ≤ k ∧ k + gk = n ∧ m = .int .i64 (k : Int) ∧ wr.heap[q]? = some (.cells (filled k n).toArray 3 (0, 0)) ∧ Below B w wr

set_option maxHeartbeats 2000000 in
set_option maxRecDepth 100000 in
theorem repeat_any (w : World) (ad : Addr) (c n : Nat) (h0 : 0 < n) (hn : n ≤ 256) (h : w.cell? (ad.add 0) = some (.int .i64 1)) :
    Calls Tryd.prog 70 #[.slice (some ad) 1 c, .int .i64 (n : Int)] w fun e w' => e = .returned (.slice (some ⟨w.heap.size, 0, none⟩) n n) ∧ w'.heap[w.heap.size]? = some (.cells (ints (List.replicate n 1)).toArray 3 (0, 0)) ∧ Below w.heap.size w w' := by
  have K := Lib.hid (mul_one' w n hn)
  have hmk := fun W => run_make_row' (P := Tryd.prog) 22 3 (.int .i64 0) 8 Tryd.underlying22 Tryd.infoInt rfl .i64 .i64 n (by omega) (by omega) W
  have hb0 : Below w.heap.size w (w.alloc (.cells (madeCells #[.int .i64 0] n) 3)) := (Below.refl _ _).alloc (Nat.le_refl _) _
  have HG := Lib.hid (show (w.alloc (.cells (madeCells #[.int .i64 0] n) 3)).heap[w.heap.size]? = some (.cells (filled 0 n).toArray 3 (0, 0)) by
    rw [heap_alloc_new, filled_zero, ← toList_madeCells_one])
  have HP := Lib.hid (show ∀ (j : Nat) (v : Value), oneRow[j]? = some v → (w.alloc (.cells (madeCells #[.int .i64 0] n) 3)).cell? (ad.add j) = some v from fun j v hv => by
    have hj : j < 1 := (List.getElem?_eq_some_iff.1 hv).1
    obtain rfl : j = 0 := by omega
    have : Value.int .i64 1 = v := by simpa [oneRow] using hv
    rw [← this]
    exact (hb0.cell (World.block_lt_of_cell? w _ h)).trans h)
  have HB := Lib.hid hb0
  have S1 := Lib.hid (show splice (filled 0 n) 0 oneRow = filled 1 n from splice_filled 0 1 n (by omega))
  have hmin : Nat.min 1 n = 1 := Nat.min_eq_left h0
  have hlen := length_filled 0 n (by omega)
  clear h hb0
  go_enter Tryd.func70, Tryd.ntmps70
  go_wp2_with fail
  refine K.out.mono ?_
  rintro e w1 ⟨rfl, rfl⟩
  go_wp2_with (with_reducible refine wpList_copy_splice rfl (.tmp 31) (.tmp 32) 22 22 rfl 3 Tryd.underlying22 (by kernel_rfl) (some ⟨w.heap.size, 0, none⟩) (some ad) n n 1 c rfl rfl w.heap.size 0 (filled 0 n) 3 HG.out oneRow ?hn (fun _ => ⟨rfl, ad, rfl, HP.out⟩) ?hfit oneRow_one w.heap.size w HB.out (Nat.le_refl _) ?_)
  case hn => exact hmin.symm
  case hfit => rw [hlen]; show 0 + 1 ≤ n; omega
  intro w1 hg1 hb1
  have hg2 := hg1.out
  rw [S1.out] at hg2
  have G2 := Lib.hid hg2
  have B2 := Lib.hid hb1
  clear hg1 hb1 hg2 hmk
  go_wp2_with fail
  go_loopg [8] (n - 1) (RepAt w w.heap.size w.heap.size n)
  case atStart => exact ⟨1, Nat.le_refl _, by omega, rfl, G2.out, B2.out⟩
  case round =>
    obtain ⟨k, hk1, hkg, rfl, hr, hb⟩ := hrel
    have hk : k ≤ n := by omega
    have HR := Lib.hid hr
    have HBr := Lib.hid hb
    clear hr hb
    by_cases hlt : k < n
    · have hkn : (k : Int) < n := by omega
      have hne : ¬ n = k := by omega
      have HS := Lib.hid (splice_filled k (Nat.min k (n - k)) n (by have := Nat.min_le_right k (n - k); show k + min k (n - k) ≤ n; omega))
      have HC := Lib.hid (fun (W : World) (hW : W.heap = wr.heap) => show ∀ (j : Nat) (v : Value), (List.replicate (Nat.min k (n - k)) (Value.int .i64 1))[j]? = some v → W.cell? ((⟨w.heap.size, 0, none⟩ : Addr).add j) = some v from fun j v hv => by
        have hj : j < Nat.min k (n - k) := by have := (List.getElem?_eq_some_iff.1 hv).1; simpa using this
        have hjk : j < k := Nat.lt_of_lt_of_le hj (Nat.min_le_left _ _)
        rw [List.getElem?_replicate, if_pos hj] at hv
        have hr := HR.out
        rw [← hW] at hr
        rw [add_zero_addr, cell_in hr, List.getElem?_toArray, filled_at k n j hjk, hv])
      go_wp2_with fail
      go_region_law (refine step_copy_splice rfl (.tmp 41) (.tmp 44) 22 22 rfl 3 Tryd.underlying22 (by kernel_rfl) (some ⟨w.heap.size, k, none⟩) (some ⟨w.heap.size, 0, none⟩) (n - k) (n - k) k n ?hd ?hs w.heap.size k (filled k n) 3 HR.out (List.replicate (Nat.min k (n - k)) (Value.int .i64 1)) (by rw [List.length_replicate]) (fun _ => ⟨rfl, _, rfl, HC.out _ rfl⟩) (by rw [length_filled k n hk, List.length_replicate]; have := Nat.min_le_right k (n - k); show k + min k (n - k) ≤ n; omega) (rep_one _) w.heap.size w (HBr.out.trans (Reading.below ⟨1, rfl⟩)) (Nat.le_refl _) ?_; (case hd => go_simp); (case hs => go_simp); intro w4 hg4 hb4)
      have hg5 := hg4.out
      rw [HS.out] at hg5
      have H5 := Lib.hid hg5
      have B5 := Lib.hid hb4
      clear hg4 hb4 hg5
      go_wp2_with fail
      have hm1 : 1 ≤ k.min (n - k) := by show 1 ≤ min k (n - k); omega
      have hm2 : k.min (n - k) ≤ n - k := Nat.min_le_right _ _
      go_roundg (gk - k.min (n - k))
      case measure => omega
      case rel => exact ⟨k + k.min (n - k), by omega, by omega, by congr 1; rw [IntWalk.i64_in _ (by omega)]; omega, H5.out, B5.out⟩
    · obtain rfl : k = n := by omega
      have hkn : ¬ (k : Int) < k := by omega
      have hr := HR.out
      rw [filled_all] at hr
      have H2 := Lib.hid hr
      clear hr
      go_wp2
      go_ret
      exact ⟨rfl, H2.out, HBr.out⟩
end Go.Proofs.YtjbfgajognnmiaaDoor

/- newTables (layer 5): a table for each context, all counts 1. -/
namespace Go.Proofs.YtjbfgajognnmiaaDoor
open Go.RowKit

theorem Tryd.infoTP : (Tryd.prog.info? 51).map (fun i => (i.zero, i.size, i.bytes)) = some (some (.pointer none), 1, 8) := by kernel_rfl
/-- All tables are there, in blocks at B or above. -/
def Laid (B N : Nat) (m : Where) : Prop := ∀ c, c < N → ∃ p, m c = some p ∧ B ≤ p.2.1
def TabsMade (w : World) (n N : Nat) (e : Ending) (w' : World) : Prop :=
  ∃ q m, e = .returned (.slice (some ⟨q, 0, none⟩) N N) ∧ Tabs w' q N m (st0 n) ∧ Laid w.heap.size N m ∧ w.heap.size ≤ q ∧ Below w.heap.size w w'

theorem mk_below' (w : World) (o : Obj) : Below w.heap.size w (w.alloc o) := (Below.refl _ _).alloc (Nat.le_refl _) _
def RepQ (w : World) (n : Nat) (e : Ending) (w' : World) : Prop := ∃ q, e = .returned (.slice (some ⟨q, 0, none⟩) n n) ∧ Reads w' (some ⟨q, 0, none⟩) n (ints (List.replicate n 1)) ∧ Below w.heap.size w w'
theorem repeat_q (w : World) (ad : Addr) (c n : Nat) (h0 : 0 < n) (hn : n ≤ 256) (h : w.cell? (ad.add 0) = some (.int .i64 1)) : Calls Tryd.prog 70 #[.slice (some ad) 1 c, .int .i64 (n : Int)] w (RepQ w n) := by
  refine (repeat_any w ad c n h0 hn h).mono ?_
  rintro e w1 ⟨rfl, h1, h2⟩
  have := Reads.of_block h1
  rw [length_ints, List.length_replicate] at this
  exact ⟨_, rfl, this, h2⟩
def NewTabsAt (w : World) (n N q ge qe ce : Nat) (i : Value) (wr : World) : Prop :=
  ∃ k : Nat, k ≤ N ∧ i = .int .i64 (k : Int) ∧ ∃ m, Tabs wr q N m (st0 n) ∧ Laid w.heap.size k m ∧ TIs wr ge qe ce (List.replicate n 1) ∧ Below w.heap.size w wr

theorem tabs_none (w : World) (N : Nat) (st : Nat → List Int) : Tabs (w.alloc (.cells (madeCells #[.pointer none] N) 51)) w.heap.size N (fun _ => none) st := by
  refine ⟨?_, fun c p _ h => (nomatch h), fun c d p r _ _ h => (nomatch h)⟩
  rw [heap_alloc_new]
  congr 2
  apply Array.ext'
  rw [toList_madeCells_one]
  apply List.ext_getElem?
  intro j
  by_cases hj : j < N
  · rw [List.getElem?_replicate, if_pos hj, ptrs_at _ _ _ hj]; rfl
  · rw [List.getElem?_eq_none (by simpa using hj), List.getElem?_eq_none (by simpa [length_ptrs] using hj)]

set_option maxHeartbeats 2000000 in
set_option maxRecDepth 100000 in
theorem newTables_any (w : World) (n N : Nat) (h0 : 0 < n) (hn : n ≤ 256) (hN : N ≤ 64) :
    Calls Tryd.prog 54 #[.int .i64 (n : Int), .int .i64 (N : Int)] w (TabsMade w n N) := by
  have hc1 : (w.alloc (.cells #[.int .i64 1] 3)).cell? ((⟨w.heap.size, 0, none⟩ : Addr).add 0) = some (.int .i64 1) := by
    rw [add_zero_addr]
    exact (one_box w (.int .i64 1) 3).2
  have KR := Lib.hid (repeat_q (w.alloc (.cells #[.int .i64 1] 3)) ⟨w.heap.size, 0, none⟩ 1 n h0 hn hc1)
  have B0 := Lib.hid (one_box w (.int .i64 1) 3).1
  have hmk := fun W => run_make_row' (P := Tryd.prog) 48 51 (.pointer none) 8 Tryd.underlying48 Tryd.infoTP rfl .i64 .i64 N (by omega) (by omega) W
  have HS := Lib.hid (show (List.replicate n (1 : Int)).sum ≤ 65536 by rw [sum_ones]; omega)
  have HO := Lib.hid (show ∀ x ∈ List.replicate n (1 : Int), 1 ≤ x from fun x hx => by rw [List.eq_of_mem_replicate hx]; exact Int.le_refl _)
  have HL := Lib.hid (show (List.replicate n (1 : Int)).length = n from List.length_replicate)
  clear hc1
  go_enter Tryd.func54, Tryd.ntmps54
  go_wp2_with fail
  refine KR.out.mono ?_
  rintro e w1 ⟨q0, rfl, r1, b1⟩
  have B1 := Lib.hid (B0.out.trans (b1.mono (by simp)))
  have KN := Lib.hid (new_any w1 _ n n (List.replicate n 1) r1 h0 hn HO.out)
  clear b1 r1
  go_wp2_with fail
  refine KN.out.mono ?_
  intro e w2 h2
  unfold Newly at h2
  rw [if_pos HS.out] at h2
  obtain ⟨ge, qe, ce, rfl, t2, l1, l2, b2⟩ := h2
  have T2 := Lib.hid (t2.below (mk_below' w2 (.cells (madeCells #[.pointer none] N) 51)))
  have B2 := Lib.hid ((B1.out.trans (b2.mono B1.out.size)).alloc (B1.out.trans (b2.mono B1.out.size)).size (.cells (madeCells #[.pointer none] N) 51))
  have L2 := Lib.hid (show w.heap.size ≤ w2.heap.size from (B1.out.trans (b2.mono B1.out.size)).size)
  have TS := Lib.hid (tabs_none w2 N (st0 n))
  clear t2 l1 l2 b2
  go_wp2_with fail
  go_loopw [20] (NewTabsAt w n N w2.heap.size ge qe ce) (fun i _ => N - (intOf i).toNat)
  case atStart => exact ⟨0, Nat.zero_le _, rfl, _, TS.out, fun c hc => absurd hc (by omega), T2.out, B2.out⟩
  case round =>
    obtain ⟨k, hk, rfl, m, hT, hm, hE, hb⟩ := hrel
    have HT := Lib.hid hT
    have HM := Lib.hid hm
    have HE := Lib.hid hE
    have HB := Lib.hid hb
    clear hT hm hE hb
    by_cases hlt : k < N
    · have hkn : (k : Int) < N := by omega
      have KC := Lib.hid (clone_any wr ge qe ce (List.replicate n 1) HE.out (by rw [HL.out]; exact h0) (by rw [HL.out]; exact hn))
      go_wp2_with fail
      refine KC.out.mono ?_
      rintro e w3 ⟨g1, q1, cap1, rfl, t3, _, l3, b3⟩
      have HT3 := HT.out.below b3
      have c3 := HT3.cell k hlt
      have f3 := frozen_in HT3.blk k
      obtain ⟨hT4, hC4⟩ := HT.out.laid k (g1, q1, cap1) hlt b3 t3 l3
      have T4 := Lib.hid hT4
      have E4 := Lib.hid (show TIs (w3.setCell ⟨w2.heap.size, k, none⟩ (.pointer (some ⟨g1, 0, none⟩))) ge qe ce (List.replicate n 1) by
        obtain ⟨r, hr⟩ := (HE.out.below b3).row
        exact (HE.out.below b3).keepC hC4 (fun e => block_ne (HE.out.below b3).blk HT3.blk (by decide) e) (fun e => block_ne hr HT3.blk (by decide) e))
      have B4 := Lib.hid ((HB.out.trans (b3.mono HB.out.size)).setCell (p := ⟨w2.heap.size, k, none⟩) L2.out (.pointer (some ⟨g1, 0, none⟩)))
      have L4 := Lib.hid (show w.heap.size ≤ q1 from Nat.le_trans HB.out.size l3)
      clear t3 l3 b3 HT3 hT4 hC4
      go_wp2_with fail
      refine ⟨⟨k + 1, by omega, by go_num, _, T4.out, fun c hc => ?_, E4.out, B4.out⟩, by simp [intOf]; omega⟩
      unfold Where.set
      by_cases hck : c = k
      · rw [if_pos hck]
        exact ⟨_, rfl, L4.out⟩
      · rw [if_neg hck]
        exact HM.out c (by omega)
    · obtain rfl : k = N := by omega
      have hkn : ¬ (k : Int) < k := by omega
      go_wp2
      go_ret
      exact ⟨_, m, rfl, HT.out, HM.out, L2.out, HB.out⟩
end Go.Proofs.YtjbfgajognnmiaaDoor

/- codedForm (layer 5): the byte 1 and the code of the interval of a row. -/
namespace Go.Proofs.YtjbfgajognnmiaaDoor
open Go.RowKit

theorem zip_succ (cs ss : List Nat) (k : Nat) (hc : k < cs.length) (hs : k < ss.length) : (cs.zip ss).take (k + 1) = (cs.zip ss).take k ++ [(cs.getD k 0, ss.getD k 0)] := by
  have hl : k < (cs.zip ss).length := by rw [List.length_zip]; omega
  rw [List.take_succ_eq_append_getElem hl, List.getElem_zip, List.getD_eq_getElem?_getD, List.getD_eq_getElem?_getD, List.getElem?_eq_getElem hc, List.getElem?_eq_getElem hs]
  rfl
theorem take_lt {n : Nat} {ps : List (Nat × Nat)} (h : ∀ p ∈ ps, p.2 < n) (k : Nat) : ∀ p ∈ ps.take k, p.2 < n := fun p hp => h p (List.mem_of_mem_take hp)

/-- An encoder behind the symbols ps, by tables of contexts. -/
structure CodAt (w wr : World) (n q N g : Nat) (m : Where) (ps : List (Nat × Nat)) : Prop where
  tabs : Tabs wr q N m (stOf (st0 n) ps)
  enc : ∃ v, EIs wr w.heap.size g v (rowIv n ps)
  bel : Below w.heap.size w wr
theorem cod_step {wr w6 w7 : World} {B n q N g : Nat} {m : Where} {ps : List (Nat × Nat)} {v : Value} {c s : Nat} {p : Nat × Nat × Nat} (hT : Tabs wr q N m (stOf (st0 n) ps)) (hE : EIs wr B g v (rowIv n ps))
    (hw : Went wr B g v (come (rowIv n ps) (stOf (st0 n) ps c) s) w6) (hc : c < N) (hp : m c = some p) (t7 : TIs w7 p.1 p.2.1 p.2.2 (bumped (stOf (st0 n) ps c) s)) (g7 : w6.grownBy w7 (some p.2.1)) :
    Tabs w7 q N m (stOf (st0 n) (ps ++ [(c, s)])) ∧ ∃ v', EIs w7 B g v' (rowIv n (ps ++ [(c, s)])) := by
  obtain ⟨v6, en6, c6, m6⟩ := hw
  have T6 := hT.enc hE c6
  exact ⟨by rw [stOf_snoc]; exact T6.bump c s p hc hp t7 g7, v6, by rw [row_snoc]; exact en6.bump (T6.tab c p hc hp) g7⟩

def CodeLoop (w : World) (n q N g L : Nat) (m : Where) (ps : List (Nat × Nat)) (i : Value) (wr : World) : Prop := ∃ k : Nat, k ≤ L ∧ i = .int .i64 (k : Int) ∧ CodAt w wr n q N g m (ps.take k)
def CodedIs (w : World) (n : Nat) (ps : List (Nat × Nat)) (e : Ending) (w' : World) : Prop := ∃ b, IsCode (rowIv n ps) b ∧ OwnB w (b.length + 1) (1 :: b) e w'

set_option maxHeartbeats 4000000 in
set_option maxRecDepth 100000 in
theorem codedForm_any (w : World) (A A' : Option Addr) (L c c' n N : Nat) (ss cs : List Nat) (h : Reads w A L (nts ss)) (h' : Reads w A' L (nts cs)) (hL : L ≤ 65536) (h0 : 0 < n) (hn : n ≤ 256) (hN : N ≤ 64) (hs : ∀ s ∈ ss, s < n) (hcs : ∀ c ∈ cs, c < N) :
    Calls Tryd.prog 36 #[.int .i64 (n : Int), .int .i64 (N : Int), .slice A L c, .slice A' L c'] w (CodedIs w n (cs.zip ss)) := by
  obtain ⟨i0, hi, hz0, hz1, hz2⟩ := info_parts Tryd.infoU8
  have HI := Lib.hid hi
  have HZ := Lib.hid (And.intro hz0 (And.intro hz1 hz2))
  have HR := Lib.hid h
  have HR' := Lib.hid h'
  have HL := Lib.hid h.nlen
  have HL' := Lib.hid h'.nlen
  have HS := Lib.hid hs
  have HC := Lib.hid hcs
  have HP := Lib.hid (show ∀ p ∈ cs.zip ss, p.2 < n from zip_lt hs)
  have HPL := Lib.hid (show (cs.zip ss).length = L by rw [List.length_zip, h.nlen, h'.nlen]; omega)
  have HG := Lib.hid (fun k => row_good h0 hn ((cs.zip ss).take k) (take_lt HP.out k))
  have HK := Lib.hid (fun k => show (rowIv n ((cs.zip ss).take k)).k ≤ 1000000 by
    have h1 := row_k n ((cs.zip ss).take k)
    rw [List.length_take] at h1
    have := HPL.out
    omega)
  have HO := Lib.hid (fun k => (allOk_st0 n h0 hn).of ((cs.zip ss).take k) (take_lt HP.out k))
  have KT := Lib.hid (newTables_any w n N h0 hn hN)
  clear h h' hs hcs hi hz0 hz1 hz2
  go_enter Tryd.func36, Tryd.ntmps36
  go_wp2_with fail
  refine KT.out.mono ?_
  rintro e w1 ⟨q, m, rfl, t1, l1, q1, b1⟩
  have T1 := Lib.hid t1
  have LD := Lib.hid l1
  have Q1 := Lib.hid q1
  have B1 := Lib.hid b1
  clear t1 l1 q1 b1
  go_wp2_with fail
  refine (cnew_any w1 w.heap.size B1.out.size).mono ?_
  rintro e w2 ⟨g, v, rfl, e2, b2, _⟩
  have F2 := Lib.hid (show CodAt w w2 n q N g m ((cs.zip ss).take 0) from ⟨T1.out.below b2, ⟨v, e2⟩, B1.out.trans (b2.mono B1.out.size)⟩)
  clear e2 b2
  go_wp2_with fail
  go_loopw [20] (CodeLoop w n q N g L m (cs.zip ss)) (fun i _ => L - (intOf i).toNat)
  case atStart => exact ⟨0, Nat.zero_le _, rfl, F2.out⟩
  case round =>
    obtain ⟨k, hk, rfl, hat⟩ := hrel
    obtain ⟨v, hv⟩ := hat.enc
    have F := Lib.hid hat
    have E := Lib.hid hv
    clear hat hv
    by_cases hlt : k < L
    · obtain ⟨ad, rfl, ck⟩ := HR.out.nat k hlt
      obtain ⟨ad', rfl, ck'⟩ := HR'.out.nat k hlt
      have d0 := (F.out.bel.cell (World.block_lt_of_cell? _ _ ck)).trans ck
      have d1 := (F.out.bel.cell (World.block_lt_of_cell? _ _ ck')).trans ck'
      have hsn := getD_lt HS.out k (by rw [HL.out]; exact hlt)
      have hcn := getD_lt HC.out k (by rw [HL'.out]; exact hlt)
      have HT := Lib.hid (zip_succ cs ss k (by rw [HL'.out]; exact hlt) (by rw [HL.out]; exact hlt))
      generalize ss.getD k 0 = s at *
      generalize cs.getD k 0 = x at *
      obtain ⟨p, hp, hpq⟩ := LD.out x hcn
      have d2 := F.out.tabs.cell x hcn
      rw [hp] at d2
      have d3 : wr.cell? ⟨q, x, none⟩ = some (.pointer (some ⟨p.1, 0, none⟩)) := d2
      have P := Lib.hid (⟨hp, hpq⟩ : m x = some p ∧ w.heap.size ≤ p.2.1)
      have KE := Lib.hid (encode_ok wr w.heap.size g v _ E.out (HG.out k) (HK.out k) p.1 p.2.1 p.2.2 _ (F.out.tabs.tab x p hcn hp) ((HO.out k) x).1 s (by rw [((HO.out k) x).2]; exact hsn))
      have t1 : (k : Int) < L := by omega
      have t2 : (x : Int) < N := by omega
      clear ck ck' d2 hp hpq
      go_wp2_with fail
      refine KE.out.mono ?_
      rintro e w6 ⟨rfl, h6⟩
      have H6 := Lib.hid h6
      have T6 := Lib.hid (show TIs w6 p.1 p.2.1 p.2.2 (stOf (st0 n) ((cs.zip ss).take k) x) from by
        obtain ⟨v6, en6, c6, m6⟩ := h6
        exact (F.out.tabs.tab x p hcn P.out.1).enc E.out c6)
      have B6 := Lib.hid (F.out.bel.trans (h6.below E.out))
      clear h6
      have KB := Lib.hid (bump_ok w6 p.1 p.2.1 p.2.2 _ s T6.out ((HO.out k) x).1 (by rw [((HO.out k) x).2]; exact hsn))
      go_wp2_with fail
      refine KB.out.mono ?_
      rintro e w7 ⟨rfl, t7, g7⟩
      have F7 := Lib.hid (show CodAt w w7 n q N g m ((cs.zip ss).take (k + 1)) from by
        obtain ⟨ht, he⟩ := cod_step F.out.tabs E.out H6.out hcn P.out.1 t7 g7
        rw [← HT.out] at ht he
        exact ⟨ht, he, B6.out.trans (turned_below g7 P.out.2 B6.out.size)⟩)
      clear t7 g7
      go_wp2_with fail
      exact ⟨⟨k + 1, by omega, by go_num, F7.out⟩, by simp [intOf]; omega⟩
    · obtain rfl : k = L := by omega
      have hkn : ¬ (k : Int) < k := by omega
      have hE := E.out
      have hG := HG.out k
      have hK := HK.out k
      rw [List.take_of_length_le (by rw [HPL.out]; exact Nat.le_refl _)] at hE hG hK
      have KF := Lib.hid (finish_any _ w.heap.size g v _ (hE.below (mk_below wr (.cells #[.int .u8 1] 5))) hG hK)
      have O1 := Lib.hid (own_one wr w.heap.size 1 F.out.bel.size)
      have B1 := Lib.hid (F.out.bel.alloc F.out.bel.size (.cells #[.int .u8 1] 5))
      have HGG := Lib.hid hG
      have hKK := hK
      clear hE hG hK
      go_wp2_with fail
      refine KF.out.mono ?_
      rintro e w2 ⟨b, u, rfl, ic, ow, b2⟩
      obtain ⟨A2, c2, rfl, hA2, r2⟩ := Reads.of_own ow
      have hbl := isCode_len HGG.out ic
      have hb2 : b.length ≤ 1000001 := by omega
      have O2 := Lib.hid (own_keep (S := fun _ => False) O1.out (.of_below b2) (fun _ _ => id))
      have B2 := Lib.hid (B1.out.trans (b2.mono B1.out.size))
      have R2 := Lib.hid r2
      have HA2 := Lib.hid hA2
      have IC := Lib.hid ic
      have HE := Lib.hid (show bts (1 :: b) = bts [1] ++ bts b from rfl)
      generalize hbn : b.length = nb at *
      have HBN := Lib.hid hbn
      clear ow ic b2 r2 hA2 hbl hbn hKK
      go_wp2_with (at_builtin; refine wpList_append_reads rfl (.tmp 40) (.tmp 42) 25 rfl w.heap.size 5 i0 (.int .u8 0) 1 Tryd.underlying25 HI.out HZ.out rfl (.slice (some ⟨wr.heap.size, 0, none⟩) 1 1) 1 (bts [1]) rfl O2.out A2 nb c2 (bts b) rfl R2.out HA2.out (bts_one _) ?b1 ?b2 ?b3 ?_)
      case b1 => unfold maxLen; omega
      case b2 => omega
      case b3 => exact B2.out.size
      intro v' w3 hown hgr
      have O3 := Lib.hid hown
      have B3 := Lib.hid (own_grown_below B2.out hgr B2.out.size (fun p hp => (own_lt O2.out p hp).1))
      clear hown hgr
      go_wp2
      go_ret
      refine ⟨b, IC.out, v', rfl, ?_, B3.out⟩
      rw [HE.out, HBN.out, Nat.add_comm nb 1]
      exact O3.out
end Go.Proofs.YtjbfgajognnmiaaDoor
