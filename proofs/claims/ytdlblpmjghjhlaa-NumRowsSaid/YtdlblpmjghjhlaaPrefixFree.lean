/- No gamma code begins with another one. -/
import Derived.Test.YtdlblpmjghjhlaaGamma
namespace Go.Proofs.Ytdlblpmjghjhlaa

theorem gamma_zeros (n k j : Nat) (hk : bitLen (n + 1) = k + 1) (hj : j < k) : (gamma n)[j]? = some false := by
  rw [gamma_eq n k hk, List.getElem?_append_left (by simpa using hj), List.getElem?_replicate, if_pos hj]
theorem gamma_lead (n k : Nat) (hk : bitLen (n + 1) = k + 1) : (gamma n)[k]? = some true := by
  rw [gamma_eq n k hk, List.getElem?_append_right (by simp)]
  simp
theorem gamma_bits (n k : Nat) (hk : bitLen (n + 1) = k + 1) : (gamma n).length = 2 * k + 1 := by rw [length_gamma, hk]; omega
theorem gamma_inj (a b : Nat) (h : gamma a = gamma b) : a = b := by
  obtain ⟨k, h1, _, _⟩ := digits_step a
  obtain ⟨j, h2, _, _⟩ := digits_step b
  have hl := congrArg List.length h
  rw [gamma_bits a k h1, gamma_bits b j h2] at hl
  obtain rfl : k = j := by omega
  rw [gamma_eq a k h1, gamma_eq b k h2] at h
  have h' := List.append_cancel_left h
  injection h' with _ h'
  have e1 := gamma_back a k h1
  have e2 := gamma_back b k h2
  rw [h'] at e1
  omega
theorem prefix_one (a b : Nat) (m : Nat) (hm : m = min (gamma a).length (gamma b).length) (h : (gamma a).take m = (gamma b).take m) : bitLen (a + 1) ≤ bitLen (b + 1) := by
  obtain ⟨k, h1, _, _⟩ := digits_step a
  obtain ⟨j, h2, _, _⟩ := digits_step b
  rw [gamma_bits a k h1, gamma_bits b j h2] at hm
  by_cases hlt : j < k
  · have e := congrArg (fun l => l[j]?) h
    simp only [List.getElem?_take] at e
    rw [if_pos (by omega), if_pos (by omega), gamma_zeros a k j h1 hlt, gamma_lead b j h2] at e
    exact absurd e (by simp)
  · omega
theorem prefix_free (a b : Nat) (m : Nat) (hm : m = min (gamma a).length (gamma b).length) (h : (gamma a).take m = (gamma b).take m) : a = b := by
  have h1 := prefix_one a b m hm h
  have h2 := prefix_one b a m (by rw [hm, Nat.min_comm]) h.symm
  have hl : (gamma a).length = (gamma b).length := by rw [length_gamma, length_gamma]; omega
  rw [List.take_of_length_le (by omega), List.take_of_length_le (by omega)] at h
  exact gamma_inj a b h
end Go.Proofs.Ytdlblpmjghjhlaa
