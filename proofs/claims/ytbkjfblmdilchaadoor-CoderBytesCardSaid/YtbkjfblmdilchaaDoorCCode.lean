/- code: the bytes of some symbols, each of which may come. -/
import Derived.Test.YtbkjfblmdilchaaDoorCGreat
import Derived.Test.YtbkjfblmdilchaaDoorCEnc
import Derived.Test.YtbkjfblmdilchaaDoorCEncNo
import Derived.Test.YtbkjfblmdilchaaDoorIvAdapt
import Derived.Deep.RegionHeld3
namespace Go.Proofs.YtbkjfblmdilchaaDoor
open Go.RowKit

def nats (l : List (List Int × Int)) : List (List Int × Nat) := l.map fun p => (p.1, p.2.toNat)
theorem nats_append (a b : List (List Int × Int)) : nats (a ++ b) = nats a ++ nats b := by simp [nats]
theorem length_nats (l : List (List Int × Int)) : (nats l).length = l.length := by simp [nats]
theorem AllRight.take {l : List (List Int × Int)} (h : AllRight l) (k : Nat) : AllRight (l.take k) := fun p hp => h p (List.mem_of_mem_take hp)
theorem AllRight.right {l : List (List Int × Int)} (h : AllRight l) : Right (nats l) := by
  intro p hp
  simp only [nats, List.mem_map] at hp
  obtain ⟨q, hq, rfl⟩ := hp
  obtain ⟨⟨h1, h2, h3⟩, _⟩ := h q hq
  exact ⟨h1, by show q.2.toNat < q.1.length; omega⟩
theorem norm_k (t : Nat) (x : Iv) : (norm t x).k ≤ x.k + t := by
  induction t generalizing x with
  | zero => exact Nat.le_refl _
  | succ t ih =>
    unfold norm
    split
    · have := ih ⟨x.k + 1, x.L * 256, x.R * 256⟩
      have h2 : (⟨x.k + 1, x.L * 256, x.R * 256⟩ : Iv).k = x.k + 1 := rfl
      omega
    · omega
theorem come_k (x : Iv) (c : List Int) (s : Nat) : (come x c s).k ≤ x.k + 3 := norm_k 3 _
theorem run_k (l : List (List Int × Nat)) (x : Iv) : (runIv x l).k ≤ x.k + 3 * l.length := by
  induction l generalizing x with
  | nil => exact Nat.le_refl _
  | cons p l ih =>
    rw [runIv_cons, List.length_cons]
    have h1 := ih (come x p.1 p.2)
    have h2 := come_k x p.1 p.2
    omega
theorem run_first_k (l : List (List Int × Int)) (n : Nat) (h : l.length ≤ n) : (runIv firstIv (nats l)).k ≤ 3 * n := by
  have h1 := run_k (nats l) firstIv
  rw [length_nats] at h1
  have h2 : firstIv.k = 0 := rfl
  omega
theorem AllRight.good {l : List (List Int × Int)} (h : AllRight l) : (runIv firstIv (nats l)).Good := good_run _ h.right _ good_first
theorem run_succ {l : List (List Int × Int)} {k : Nat} {c : List Int} {s : Int} (h : l[k]? = some (c, s)) : runIv firstIv (nats (l.take (k + 1))) = come (runIv firstIv (nats (l.take k))) c s.toNat := by
  rw [take_mem h, nats_append]
  exact runIv_snoc _ _ _

def Coded (w : World) (l : List (List Int × Int)) (e : Ending) (w' : World) : Prop :=
  ∃ (b : List Nat) (v : Value), e = .returned (.tuple #[v, .bool true]) ∧ IsCode (runIv firstIv (nats l)) b ∧ w'.ownsRow w.heap.size 5 1 v b.length (bts b) ∧ Below w.heap.size w w'
def CodeAt (w : World) (g n : Nat) (l : List (List Int × Int)) (i : Value) (wr : World) : Prop :=
  ∃ (k : Nat) (v : Value), k ≤ n ∧ i = .int .i64 (k : Int) ∧ EIs wr w.heap.size g v (runIv firstIv (nats (l.take k))) ∧ Below w.heap.size w wr

set_option maxHeartbeats 3200000 in
set_option maxRecDepth 100000 in
theorem code_ok (w : World) (A : Option Addr) (n c : Nat) (l : List (List Int × Int)) (h : Steps w A n l) (hr : AllRight l) (hn : n ≤ 60) :
    Calls Tryd.prog 24 #[.slice A n c] w (Coded w l) := by
  have HS := Lib.hid h
  have HA := Lib.hid hr
  have KN := Lib.hid (cnew_any w w.heap.size (Nat.le_refl _))
  clear h hr
  go_enter Tryd.func24, Tryd.ntmps24
  go_wp2_with fail
  refine KN.out.mono ?_
  rintro e w1 ⟨g, v, rfl, e1, b1, _, _⟩
  have E1 := Lib.hid (⟨e1, b1⟩ : EIs w1 w.heap.size g v firstIv ∧ Below w.heap.size w w1)
  clear e1 b1
  go_wp2_with fail
  go_loopw [5] (CodeAt w g n l) (fun i _ => n - (intOf i).toNat)
  case atStart => exact ⟨0, v, Nat.zero_le _, rfl, E1.out.1, E1.out.2⟩
  case round =>
    obtain ⟨k, v, hk, rfl, he, hb⟩ := hrel
    by_cases hlt : k < n
    · obtain ⟨b, off, rfl⟩ := HS.out.ad (by omega)
      obtain ⟨p, Ai, ni, ci, hp, c0, c1, hr⟩ := (HS.out.below hb).at k hlt
      have hbl : b < w.heap.size := by
        obtain ⟨p', Ai', ni', ci', _, c0', _⟩ := HS.out.at k hlt
        exact World.block_lt_of_cell? w _ c0'
      obtain ⟨cl, s⟩ := p
      obtain ⟨⟨ok, s0, s1⟩, _⟩ := HA.out _ (List.mem_of_getElem? hp)
      obtain ⟨sn, rfl⟩ : ∃ sn : Nat, s = (sn : Int) := ⟨s.toNat, by have : 0 ≤ s := s0; omega⟩
      have hsn : sn < cl.length := by have : (sn : Int) < cl.length := s1; omega
      have hx := (HA.out.take k).good
      have hkx := run_first_k (l.take k) 60 (by have := List.length_take_le k l; omega)
      have hsu := run_succ hp
      rw [show ((sn : Int)).toNat = sn by omega] at hsu
      generalize hX : runIv firstIv (nats (l.take k)) = x at *
      have R := Lib.hid (⟨he, hb, hr, ok, hx, hkx, hsu⟩ : EIs wr w.heap.size g v x ∧ Below w.heap.size w wr ∧ Reads wr Ai ni (ints cl) ∧ Ok cl ∧ x.Good ∧ x.k ≤ 3 * 60 ∧ runIv firstIv (nats (l.take (k + 1))) = come x cl sn)
      have b1 : (k : Int) < n := by omega
      have d0 : wr.drew.cell? ⟨b, off + k * 2, none⟩ = some (.slice Ai ni ci) := c0
      have d1 : wr.drew.cell? ⟨b, off + k * 2 + 1, none⟩ = some (.int .i64 (sn : Int)) := c1
      have KM := Lib.hid (made_ok wr.drew Ai ni ci cl (hr.read ⟨1, rfl⟩) ok)
      have hbw : b < wr.drew.heap.size := Nat.lt_of_lt_of_le hbl hb.size
      have t0 : ((0 : Int) != 0) = false := by decide
      clear he hb hr ok hx hkx hsu hX hp s0 s1
      go_wp2_with fail
      go_region_held3 (fun w' => w'.cell? ⟨b, off + k * 2, none⟩ = some (.slice Ai ni ci) ∧ w'.cell? ⟨b, off + k * 2 + 1, none⟩ = some (.int .i64 (sn : Int)))
        (first | exact ⟨f0, f1⟩ | exact ⟨e0, e1⟩ | exact ⟨d0, d1⟩)
        (first
          | (go_at_call 15; refine KM.out.mono ?_; rintro e w2 ⟨gt, q, cap, rfl, t2, b2, _, _⟩; have e0 := (b2.cell (p := ⟨b, off + k * 2, none⟩) hbw).trans d0; have e1 := (b2.cell (p := ⟨b, off + k * 2 + 1, none⟩) hbw).trans d1; have T2 := Lib.hid (⟨t2, b2⟩ : TIs w2 gt q cap cl ∧ Below wr.drew.heap.size wr.drew w2); have E2 := Lib.hid ((R.out.1.read ⟨1, rfl⟩).below b2); clear t2 b2)
          | (go_at_call 14; refine (encode_ok w2 w.heap.size g v x E2.out R.out.2.2.2.2.1 (by have := R.out.2.2.2.2.2.1; omega) gt q cap cl T2.out.1 R.out.2.2.2.1 sn hsn).mono ?_; rintro e w3 ⟨rfl, h3⟩; have b3 := h3.below E2.out; have f0 := (b3.cell (p := ⟨b, off + k * 2, none⟩) hbl).trans e0; have f1 := (b3.cell (p := ⟨b, off + k * 2 + 1, none⟩) hbl).trans e1; have H3 := Lib.hid h3; have B3 := Lib.hid b3; clear h3 b3))
      go_wp2_with fail
      obtain ⟨v', e', _, _⟩ := H3.out
      refine ⟨⟨k + 1, v', by omega, by go_num, ?_, ?_⟩, by simp [intOf]; omega⟩
      · rw [R.out.2.2.2.2.2.2]; exact e'
      · exact (((R.out.2.1.trans (Reading.below ⟨1, rfl⟩)).trans (T2.out.2.mono R.out.2.1.size)).trans B3.out)
    · obtain rfl : k = n := by omega
      have b1 : ¬ (k : Int) < k := by omega
      have hx := (HA.out.take k).good
      have hkx := run_first_k (l.take k) 60 (by have := List.length_take_le k l; omega)
      rw [List.take_of_length_le (by rw [HS.out.1]; exact Nat.le_refl _)] at he hx hkx
      have KF := Lib.hid (finish_any wr w.heap.size g v _ he hx (by omega))
      have HB := Lib.hid hb
      clear he hb hx hkx
      go_wp2_with fail
      refine KF.out.mono ?_
      rintro e w5 ⟨bb, u, rfl, ic, ow, b5⟩
      have Z := Lib.hid (⟨ic, ow, b5⟩ : IsCode (runIv firstIv (nats l)) bb ∧ w5.ownsRow wr.heap.size 5 1 u bb.length (bts bb) ∧ Below wr.heap.size wr w5)
      clear ic ow b5
      go_wp2
      go_ret2
      refine ⟨bb, u, rfl, Z.out.1, ?_, HB.out.trans (Z.out.2.2.mono HB.out.size)⟩
      refine ⟨Z.out.2.1.1, ?_⟩
      rcases Z.out.2.1.2 with h1 | ⟨p, cap, cur, h1, hp, h3⟩
      · exact .inl h1
      · exact .inr ⟨p, cap, cur, h1, Nat.le_trans HB.out.size hp, h3⟩
end Go.Proofs.YtbkjfblmdilchaaDoor
