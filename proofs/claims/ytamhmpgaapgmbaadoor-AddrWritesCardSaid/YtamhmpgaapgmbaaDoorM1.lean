import Derived.Test.YtamhmpgaapgmbaaDoorA23
namespace Go.Proofs.YtamhmpgaapgmbaaDoor
theorem lv1 : v4O [48, 120, 55, 102, 46, 49] = some 2130706433 := by decide +kernel
theorem lv2 : v4O [49, 46, 50, 46, 51, 46, 50, 53, 54] = none := by decide +kernel
theorem lv3 : v6P [49, 58, 48, 58, 48, 58, 50, 58, 48, 58, 48, 58, 48, 58, 51] = some [1, 0, 0, 2, 0, 0, 0, 3] := by decide +kernel
theorem lv4 : tv6 [1, 0, 0, 2, 0, 0, 0, 3] = [49, 58, 48, 58, 48, 58, 50, 58, 58, 51] := by decide +kernel
theorem lv5 : tv4 2130706433 = [49, 50, 55, 46, 48, 46, 48, 46, 49] := by decide +kernel
theorem lv6 : endsB [97, 46, 49] = true := by decide +kernel
theorem lv7 : endsB [49, 46, 97] = false := by decide +kernel
end Go.Proofs.YtamhmpgaapgmbaaDoor
