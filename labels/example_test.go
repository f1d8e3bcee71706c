package labels_test

import (
	"fmt"

	"vigil/api"
	"vigil/labels"
)

// The run that README.md tells.
func Example() {
	l, e := labels.New([]api.Label{{Name: "job", Value: "node"}, {Name: "__name__", Value: "up"}, {Name: "zone", Value: ""}})
	fmt.Println(labels.Text(l), e)
	l = labels.With(l, "instance", "a:9100")
	for name, value := range labels.All(l) {
		fmt.Println(name, value)
	}
	read, e := labels.Read(labels.Bytes(l))
	fmt.Println(labels.Compare(read, l), e)
	// Output:
	// up{job="node"} 0
	// __name__ up
	// instance a:9100
	// job node
	// 0 0
}
